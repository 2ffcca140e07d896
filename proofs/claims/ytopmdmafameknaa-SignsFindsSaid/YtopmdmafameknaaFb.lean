/- Four: the closure that calls itself -/
import Derived.Test.YtopmdmafameknaaFa
namespace Go.Proofs.Ytopmdmafameknaa
open Go.RowKit

def fourV (q : Nat → Int) : Array Value := #[.int .i64 (q 0), .int .i64 (q 1), .int .i64 (q 2), .int .i64 (q 3)]
theorem fourV_get (q : Nat → Int) : ∀ k, k < 4 → (fourV q)[k]? = some (.int .i64 (q k))
  | 0, _ => rfl
  | 1, _ => rfl
  | 2, _ => rfl
  | 3, _ => rfl
theorem fourV_set (q : Nat → Int) (z : Int) : ∀ k, k < 4 → (fourV q).setIfInBounds k (.int .i64 z) = fourV (fun i => if i = k then z else q i)
  | 0, _ => rfl
  | 1, _ => rfl
  | 2, _ => rfl
  | 3, _ => rfl
/-- Rows of four, cell by cell. -/
def flat4 (R : List (List Nat)) : List Value := R.flatMap fun x => ints (nats x)
theorem flat4_snoc (R : List (List Nat)) (x : List Nat) : flat4 (R ++ [x]) = flat4 R ++ ints (nats x) := by simp [flat4]
theorem fourV_list {q : Nat → Int} {p : List Nat} (hl : p.length = 4) (h : ∀ i, i < p.length → q i = (p.getD i 0 : Nat)) : (fourV q).toList = ints (nats p) := by
  match p, hl with
  | [a, b, c, d], _ =>
    have h0 := h 0 (by simp)
    have h1 := h 1 (by simp)
    have h2 := h 2 (by simp)
    have h3 := h 3 (by simp)
    simp at h0 h1 h2 h3
    simp [fourV, ints, nats, h0, h1, h2, h3]
/-- Memory of the search. -/
structure FSt (w : World) (Ba Bf Bp B1 : Nat) (v : Value) (R : List (List Nat)) (q : Nat → Int) : Prop where
  ba : Blk 51 w Ba #[v]
  bf : Blk 43 w Bf (fourV q)
  bp : Blk 77 w Bp #[.func (.func 88) #[] #[.pointer (some ⟨Ba, 0, none⟩), .pointer (some ⟨Bf, 0, none⟩), .pointer (some ⟨Bp, 0, none⟩)]]
  own : w.ownsRow B1 43 4 v R.length (flat4 R)
  lt : Ba < B1 ∧ Bf < B1 ∧ Bp < B1
  ne : Ba ≠ Bf ∧ Ba ≠ Bp ∧ Bf ≠ Bp
theorem FSt.put {w : World} {Ba Bf Bp B1 : Nat} {v : Value} {R : List (List Nat)} {q : Nat → Int} (h : FSt w Ba Bf Bp B1 v R q) {k : Nat} (hk : k < 4) (z : Int) :
    FSt (w.setCell ⟨Bf, k, none⟩ (.int .i64 z)) Ba Bf Bp B1 v R (fun i => if i = k then z else q i) :=
  ⟨h.ba.other h.ne.1 _ _, by rw [← fourV_set q z k hk]; exact h.bf.set k _, h.bp.other h.ne.2.2.symm _ _, ownsRow_setCell_below h.own h.lt.2.1 _, h.lt, h.ne⟩
theorem FSt.cells {w : World} {Ba Bf Bp B1 : Nat} {v : Value} {R : List (List Nat)} {q : Nat → Int} (h : FSt w Ba Bf Bp B1 v R q) {k : Nat} (hk : k < 4) : w.cell? ⟨Bf, k, none⟩ = some (.int .i64 (q k)) := by
  rw [h.bf.cell, fourV_get q k hk]
theorem below_set {w w' : World} {B : Nat} (h : Below B w w') {a : Addr} (ha : B ≤ a.block) (u : Value) : Below B w (w'.setCell a u) :=
  ⟨h.os, h.tape, h.output, by simpa [World.setCell] using h.size, fun k hk => by
    rw [Below.heap_setCell _ _ _ _ (show k ≠ a.block by omega)]; exact h.block k hk⟩
theorem end_none {fn : Func} (h : fn.results = #[]) {R : Ending → World → Prop} {a : Act} {w : World} (hd : a.defers = []) (hR : R (.returned (.tuple #[])) w) : bodyPost Try.prog fn R .normal a w := ⟨hd, _, results_none h _ _ _, hR⟩
theorem Try.info43 : (Try.prog.info? 43).map (fun i => (i.zero, i.size, i.bytes)) = some (some (.agg #[.int .i64 0, .int .i64 0, .int .i64 0, .int .i64 0]), 4, 32) := by kernel_rfl

set_option maxRecDepth 20000 in
set_option maxHeartbeats 2000000 in
theorem place_any (Ba Bf Bp B1 B0 : Nat) (hB : B0 ≤ Ba ∧ B0 ≤ Bf ∧ B0 ≤ B1) : ∀ (j : Nat) (p : List Nat) (x r : Nat) (v : Value) (R : List (List Nat)) (q : Nat → Int) (w : World), p.length + j = 4 → x ≤ 22 → r ≤ 400 → (j = 0 → x ≤ 21) → (R ++ f4 (fu j x) j x r p).length ≤ 1000 → (∀ i, i < p.length → q i = (p.getD i 0 : Nat)) → FSt w Ba Bf Bp B1 v R q → B1 ≤ w.heap.size →
    Calls Try.prog 88 #[.int .i64 (p.length : Nat), .int .i64 (x : Nat), .int .i64 (r : Nat), .pointer (some ⟨Ba, 0, none⟩), .pointer (some ⟨Bf, 0, none⟩), .pointer (some ⟨Bp, 0, none⟩)] w fun e w' => e = .returned (.tuple #[]) ∧ ∃ v' q', FSt w' Ba Bf Bp B1 v' (R ++ f4 (fu j x) j x r p) q' ∧ (∀ i, i < p.length → q' i = (p.getD i 0 : Nat)) ∧ Below B0 w w' := by
  intro j
  induction j with
  | zero =>
    intro p x r v R q w hp hx hr h0 hl hq hS hw
    have hx21 := h0 rfl
    rw [f4_leaf hx21] at hl ⊢
    have hp4 : p.length = 4 := by omega
    obtain ⟨ao, vc, rfl⟩ := owns_form hS.own
    have HL := Lib.hid (fourV_list hp4 hq)
    have HQ := Lib.hid hq
    have HS := Lib.hid hS
    have ca : w.cell? ⟨Ba, 0, none⟩ = some (.slice ao R.length vc) := hS.ba.cell 0
    have fa := hS.ba.fr 0
    have f0 := hS.cells (k := 0) (by omega)
    have f1 := hS.cells (k := 1) (by omega)
    have f2 := hS.cells (k := 2) (by omega)
    have f3 := hS.cells (k := 3) (by omega)
    rw [hp4] at HQ ⊢
    clear hq hS hp
    by_cases hr0 : r = 0
    · subst hr0
      rw [if_pos rfl] at hl ⊢
      have hRl : R.length ≤ 999 := by simp at hl; omega
      obtain ⟨i43, hi, hz0, hz1, hz2⟩ := info_parts Try.info43
      have HN : Hid (∀ j u, (fourV q).toList[j]? = some u → (w.alloc (.cells (fourV q) 43)).cell? ((⟨w.heap.size, 0, none⟩ : Addr).add j) = some u) := Lib.hid (fun j u hj => by
        rw [Addr.add_lit, Nat.zero_add, (Blk.new 43 w (fourV q)).cell]
        simpa using hj)
      have H1 : Hid (∀ u ∈ (fourV q).toList, u.oneCell' = true) := Lib.hid (fun u hu => by
        rw [HL.out] at hu
        obtain ⟨z, _, rfl⟩ := List.mem_map.1 hu
        rfl)
      have hR9 : R.length + 1 ≤ maxLen := by unfold maxLen; omega
      have hnB : ∀ B, B < B1 → some B ≠ (Value.slice ao R.length vc).ownBlock := fun B hB e => by have := (HS.out.own.lt B e.symm).1; omega
      have HCA : Hid (∀ W, (w.alloc (.cells (fourV q) 43)).grownBy W (Value.slice ao R.length vc).ownBlock → W.cell? ⟨Ba, 0, none⟩ = some (.slice ao R.length vc) ∧ W.frozen? ⟨Ba, 0, none⟩ = false) := Lib.hid (fun W hg =>
        have h := (HS.out.ba.alloc (.cells (fourV q) 43)).grown hg (hnB _ HS.out.lt.1)
        ⟨h.cell 0, h.fr 0⟩)
      have HNB := Lib.hid hnB
      clear hnB
      go_enter Try.func88, Try.ntmps88
      go_wp2_with (at_builtin; refine wpList_append_own _ rfl _ _ 51 rfl B1 43 i43 (.agg #[.int .i64 0, .int .i64 0, .int .i64 0, .int .i64 0]) 4 32 Try.underlying51 hi hz0 hz1 hz2 rfl (by decide) _ _ (flat4 R) rfl (HS.out.own.alloc _) ⟨w.heap.size, 0, none⟩ 1 1 (fourV q).toList rfl rfl HN.out H1.out hR9 (by omega) (by simp; omega) ?_; intro v7 w7 hown7 hg7 _; obtain ⟨a7, c7, rfl⟩ := owns_form hown7; have hca7 := (HCA.out w7 hg7).1; have hfa7 := (HCA.out w7 hg7).2)
      have HS7 : Hid (FSt (w7.setCell ⟨Ba, 0, none⟩ (.slice a7 (R.length + 1) c7)) Ba Bf Bp B1 (.slice a7 (R.length + 1) c7) (R ++ [p]) q) := Lib.hid (by
        have hne := HNB.out
        have hA := (HS.out.ba.alloc (.cells (fourV q) 43)).grown hg7 (hne _ HS.out.lt.1)
        have hF := (HS.out.bf.alloc (.cells (fourV q) 43)).grown hg7 (hne _ HS.out.lt.2.1)
        have hP := (HS.out.bp.alloc (.cells (fourV q) 43)).grown hg7 (hne _ HS.out.lt.2.2)
        have ho : w7.ownsRow B1 43 4 (.slice a7 (R.length + 1) c7) (R ++ [p]).length (flat4 (R ++ [p])) := by
          rw [flat4_snoc, List.length_append, ← HL.out]; exact hown7
        exact ⟨hA.set 0 _, hF.other HS.out.ne.1.symm _ _, hP.other HS.out.ne.2.1.symm _ _, ownsRow_setCell_below ho HS.out.lt.1 _, HS.out.lt, HS.out.ne⟩)
      have HB7 : Hid (Below B0 w (w7.setCell ⟨Ba, 0, none⟩ (.slice a7 (R.length + 1) c7))) := Lib.hid (below_set (((Below.refl B0 w).alloc (by omega) _).grown hg7 (by simp; omega) fun q e => Nat.le_trans hB.2.2 (HS.out.own.lt q e).1) hB.1 _)
      clear hown7 hg7 hca7 hfa7
      refine bodyPost_ret (results_none rfl _ _ _) rfl ?_
      exact ⟨rfl, _, q, HS7.out, HQ.out, HB7.out⟩
    · have hrb : ((r : Int) == 0) = false := beq_eq_false_iff_ne.2 (by omega)
      rw [if_neg hr0, List.append_nil]
      go_enter Try.func88, Try.ntmps88
      go_wp2_with fail
      refine bodyPost_ret (results_none rfl _ _ _) rfl ?_
      exact ⟨rfl, _, q, HS.out, HQ.out, Below.refl _ _⟩
  | succ j ih =>
    intro p x r v R q w hp hx hr _ hl hq hS hw
    have HIH := Lib.hid ih
    have HS := Lib.hid hS
    obtain ⟨T, hT⟩ : ∃ T, T = R ++ f4 (fu (j + 1) x) (j + 1) x r p := ⟨_, rfl⟩
    rw [← hT] at hl ⊢
    have HL := Lib.hid hl
    have HT := Lib.hid hT
    clear ih hS hl hT
    obtain ⟨k, hk⟩ : ∃ k, k = p.length := ⟨_, rfl⟩
    rw [← hk] at hp hq ⊢
    have HK := Lib.hid hk
    have HQ := Lib.hid hq
    clear hk hq
    have hk3 : k ≤ 3 := by omega
    have hne4 : ((k : Int) == 4) = false := beq_eq_false_iff_ne.2 (by omega)
    go_enter Try.func88, Try.ntmps88
    go_wp2_with fail
    go_loopw [9] (fun xx wr => ∃ (y : Nat) (vr : Value) (Rr : List (List Nat)) (qr : Nat → Int), xx = .int .i64 (y : Nat) ∧ y ≤ 22 ∧ FSt wr Ba Bf Bp B1 vr Rr qr ∧ Rr ++ f4 (fu (j + 1) y) (j + 1) y r p = T ∧ (∀ i, i < k → qr i = (p.getD i 0 : Nat)) ∧ Below B0 w wr ∧ w.heap.size ≤ wr.heap.size) (fun xx _ => 30 - (intOf xx).toNat)
    case atStart => exact ⟨x, v, R, q, rfl, hx, HS.out, HT.out.symm, HQ.out, Below.refl _ _, Nat.le_refl _⟩
    case round =>
      clear HS HT HQ
      obtain ⟨y, vr, Rr, qr, rfl, hy, hSr, hTr, hqr, hbr, hsz⟩ := hrel
      have HSr := Lib.hid hSr
      have HTr := Lib.hid hTr
      have HQr := Lib.hid hqr
      have HBr := Lib.hid hbr
      clear hSr hTr hqr hbr
      obtain ⟨s, hs⟩ : ∃ s, s = y * y := ⟨_, rfl⟩
      have hyy : (y : Int) * (y : Int) = (s : Nat) := by rw [hs]; simp
      have hs484 : s ≤ 484 := by rw [hs]; exact Nat.mul_le_mul hy hy
      have hs21 : 21 ≤ y → 441 ≤ s := fun h => by rw [hs]; exact Nat.mul_le_mul h h
      have HSs := Lib.hid hs
      clear hs
      by_cases hle : s ≤ r
      · have hy20 : y ≤ 20 := by omega
        have hkk : k < 4 := by omega
        have hM : f4 (fu (j + 1) y) (j + 1) y r p = f4 (fu j y) j y (r - s) (p ++ [y]) ++ f4 (fu (j + 1) (y + 2)) (j + 1) (y + 2) r p := by rw [HSs.out]; exact f4_more (by omega) (by rw [← HSs.out]; exact hle) p
        have HTn : Hid ((Rr ++ f4 (fu j y) j y (r - s) (p ++ [y])) ++ f4 (fu (j + 1) (y + 2)) (j + 1) (y + 2) r p = T) := Lib.hid (by rw [List.append_assoc, ← hM]; exact HTr.out)
        have HLn : Hid ((Rr ++ f4 (fu j y) j y (r - s) (p ++ [y])).length ≤ 1000) := Lib.hid (by
          have h9 := HL.out
          rw [← HTn.out, List.length_append] at h9
          omega)
        have HS4 := Lib.hid (HSr.out.put hkk (y : Nat))
        have HB4 := Lib.hid (below_set HBr.out (a := ⟨Bf, k, none⟩) hB.2.1 (.int .i64 (y : Nat)))
        have c1 := HSr.out.cells hkk
        have c2 := HSr.out.bf.fr k
        have c3 : (wr.setCell ⟨Bf, k, none⟩ (.int .i64 (y : Nat))).cell? ⟨Bp, 0, none⟩ = some (.func (.func 88) #[] #[.pointer (some ⟨Ba, 0, none⟩), .pointer (some ⟨Bf, 0, none⟩), .pointer (some ⟨Bp, 0, none⟩)]) := HS4.out.bp.cell 0
        have hsz4 : w.heap.size ≤ (wr.setCell ⟨Bf, k, none⟩ (.int .i64 (y : Nat))).heap.size := by simpa [World.setCell] using hsz
        have HC : Hid (∀ W, FSt W Ba Bf Bp B1 vr Rr (fun i => if i = k then (y : Int) else qr i) → B1 ≤ W.heap.size → Calls Try.prog 88 #[.int .i64 ((k : Int) + 1), .int .i64 (y : Nat), .int .i64 ((r : Int) - (s : Int)), .pointer (some ⟨Ba, 0, none⟩), .pointer (some ⟨Bf, 0, none⟩), .pointer (some ⟨Bp, 0, none⟩)] W fun e w' => e = .returned (.tuple #[]) ∧ ∃ v' q', FSt w' Ba Bf Bp B1 v' (Rr ++ f4 (fu j y) j y (r - s) (p ++ [y])) q' ∧ (∀ i, i < k → q' i = (p.getD i 0 : Nat)) ∧ Below B0 W w') := Lib.hid (fun W hSW hBW => by
          have hlen : (p ++ [y]).length = k + 1 := by rw [List.length_append, ← HK.out]; rfl
          have h9 := HIH.out (p ++ [y]) y (r - s) vr Rr _ W (by rw [hlen]; omega) hy (by omega) (fun _ => by omega) HLn.out (fun i hi => by
            rw [hlen] at hi
            by_cases e : i = k
            · subst e; simp [HK.out]
            · simp only [if_neg e]
              rw [HQr.out i (by omega), List.getD_eq_getElem?_getD, List.getD_eq_getElem?_getD, List.getElem?_append_left (by rw [← HK.out]; omega)]) hSW hBW
          have e2 : ((k + 1 : Nat) : Int) = (k : Int) + 1 := by omega
          have e3 : ((r - s : Nat) : Int) = (r : Int) - (s : Int) := by omega
          rw [hlen, e2, e3] at h9
          refine h9.mono fun e w' hh => ?_
          obtain ⟨he, v', q', h1, h2, h3⟩ := hh
          refine ⟨he, v', q', h1, fun i hi => ?_, h3⟩
          rw [h2 i (by omega), List.getD_eq_getElem?_getD, List.getD_eq_getElem?_getD, List.getElem?_append_left (by rw [← HK.out]; omega)])
        clear HTr HLn HSr HQr HIH HL hM
        go_wp2_with fail
        refine (HC.out _ HS4.out (by omega)).mono ?_
        rintro e w5 ⟨rfl, v5, q5, hS5, hq5, hb5⟩
        have HS5 := Lib.hid hS5
        have HQ5 := Lib.hid hq5
        have HB5 := Lib.hid (HB4.out.trans hb5)
        have hsz5 := Nat.le_trans hsz4 hb5.size
        clear hS5 hq5 hb5 HC HS4 HB4 c1 c2 c3
        go_wp2_with fail
        go_roundw
        case rel => exact ⟨y + 2, v5, _, q5, by go_num, by omega, HS5.out, HTn.out, HQ5.out, HB5.out, hsz5⟩
        case measure => (first | (simp [intOf]; done) | (simp [intOf]; omega))
      · have hTe : T = Rr := by
          have h9 := HTr.out
          rw [f4_end (by rw [← HSs.out]; exact hle), List.append_nil] at h9
          exact h9.symm
        have HTe := Lib.hid hTe
        clear hTe
        go_wp2_with fail
        refine end_none rfl rfl ?_
        refine ⟨rfl, vr, qr, ?_, HQr.out, HBr.out⟩
        rw [HTe.out]; exact HSr.out
end Go.Proofs.Ytopmdmafameknaa
