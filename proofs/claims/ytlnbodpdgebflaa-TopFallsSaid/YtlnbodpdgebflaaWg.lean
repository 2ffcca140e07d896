/- Words: the search -/
import Derived.Test.YtlnbodpdgebflaaSh
import Derived.Test.YtlnbodpdgebflaaTk
namespace Go.Proofs.Ytlnbodpdgebflaa
open Go.RowKit

/-- A word in a block of its own. -/
def OWn (W : World) (v : Value) (l : List Nat) : Prop := W.ownsRow 0 3 1 v l.length (ints (nats l))
theorem OWn.nats {W : World} {v : Value} {l : List Nat} (h : OWn W v l) (hl : l.length ≤ 1000) (hb : ∀ x ∈ l, x < 65536) : Nats W v l := Ints.of_owns (n := l.length) h (by omega) (nats_I64 hb)
theorem OWn.below {W W' : World} {v : Value} {l : List Nat} (h : OWn W v l) (hb : Below W.heap.size W W') : OWn W' v l := owns_below h hb (Nat.le_refl _)
/-- Words of that kind in a row of one's own. -/
def AllW (W : World) (B : Nat) (v : Value) (L : List (List Nat)) : Prop := ∃ vs, W.ownsRow B 24 1 v L.length vs ∧ ∀ (j : Nat) (u : Value) (l : List Nat), vs[j]? = some u → L[j]? = some l → OWn W u l
/-- What the search leaves alone: all that was there when it began, but for its own box; and all blocks of ints. -/
structure GF (B0 bA : Nat) (W W' : World) : Prop where
  os : W'.os = W.os
  tape : W'.tape = W.tape
  output : W'.output = W.output
  size : W.heap.size ≤ W'.heap.size
  low : ∀ k : Nat, k < B0 → k ≠ bA → W'.heap[k]? = W.heap[k]?
  ty3 : ∀ (k : Nat) (c : Array Value), W.heap[k]? = some (Obj.cells c 3 (0, 0)) → W'.heap[k]? = some (Obj.cells c 3 (0, 0))
theorem GF.refl (B0 bA : Nat) (W : World) : GF B0 bA W W := ⟨rfl, rfl, rfl, Nat.le_refl _, fun _ _ _ => rfl, fun _ _ h => h⟩
theorem GF.trans {B0 bA : Nat} {a b c : World} (h : GF B0 bA a b) (k : GF B0 bA b c) : GF B0 bA a c :=
  ⟨k.os.trans h.os, k.tape.trans h.tape, k.output.trans h.output, Nat.le_trans h.size k.size, fun i hi hn => (k.low i hi hn).trans (h.low i hi hn), fun i x hx => k.ty3 i x (h.ty3 i x hx)⟩
theorem GF.of_below {B0 bA : Nat} {W W' : World} (h : Below W.heap.size W W') (hB : B0 ≤ W.heap.size) : GF B0 bA W W' :=
  ⟨h.os, h.tape, h.output, h.size, fun k hk _ => h.block k (by omega), fun k c hc => (h.block k (lt_of_block hc)).trans hc⟩
theorem GF.own {B0 bA : Nat} {W W' : World} {v : Value} {l : List Nat} (h : OWn W v l) (hf : GF B0 bA W W') : OWn W' v l := by
  obtain ⟨h1, h2⟩ := h
  refine ⟨h1, ?_⟩
  rcases h2 with h2 | ⟨g, cap, cur, e, hg, hh, r⟩
  · exact .inl h2
  · exact .inr ⟨g, cap, cur, e, hg, hf.ty3 g cur hh, r⟩
theorem GF.bel {B0 bA B1 : Nat} {w1 W W' : World} (h : Below B1 w1 W) (hf : GF B0 bA W W') (h1 : B1 ≤ bA) (h2 : B1 ≤ B0) : Below B1 w1 W' :=
  ⟨hf.os.trans h.os, hf.tape.trans h.tape, hf.output.trans h.output, Nat.le_trans h.size hf.size, fun k hk => (hf.low k (by omega) (by omega)).trans (h.block k hk)⟩
/-- The caught variables of the search. -/
def caW (bA bT bG : Nat) : Array Value := #[.pointer (some ⟨bA, 0, none⟩), .pointer (some ⟨bT, 0, none⟩), .pointer (some ⟨bG, 0, none⟩)]
structure GE (B0 bA bT bG T0 : Nat) (w1 W : World) (v : Value) (L : List (List Nat)) : Prop where
  a : Blk 33 W bA #[v]
  t : Blk 78 W bT #[.pointer (some ⟨T0, 0, none⟩)]
  gr : Blk 83 W bG #[.func (.func 71) #[] (caW bA bT bG)]
  own : AllW W B0 v L
  bel : Below w1.heap.size w1 W
  lt : bA < B0 ∧ bT < B0 ∧ bG < B0 ∧ bA ≠ bT ∧ bA ≠ bG ∧ w1.heap.size ≤ bA ∧ w1.heap.size ≤ B0 ∧ B0 ≤ W.heap.size
variable {B0 bA bT bG T0 : Nat} {w1 W W' : World} {v : Value} {L : List (List Nat)}
theorem GE.below (h : GE B0 bA bT bG T0 w1 W v L) (hb : Below W.heap.size W W') : GE B0 bA bT bG T0 w1 W' v L := by
  obtain ⟨vs, o1, o2⟩ := h.own
  obtain ⟨q1, q2, q3, q4, q5, q6, q7, q8⟩ := h.lt
  exact ⟨h.a.below hb, h.t.below hb, h.gr.below hb, ⟨vs, owns_below o1 hb (Nat.le_refl _), fun j u l a b => (o2 j u l a b).below hb⟩, h.bel.trans (hb.mono h.bel.size), ⟨q1, q2, q3, q4, q5, q6, q7, Nat.le_trans q8 hb.size⟩⟩
/-- One word more. -/
theorem GE.push {w9 : World} {vs : List Value} {v9 u : Value} {lb : List Nat} (h : GE B0 bA bT bG T0 w1 W v L) (o1 : W.ownsRow B0 24 1 v L.length vs) (o2 : ∀ (j : Nat) (u : Value) (l : List Nat), vs[j]? = some u → L[j]? = some l → OWn W u l) (hu : OWn W u lb)
    (hg : W.grownBy w9 v.ownBlock) (ho : w9.ownsRow B0 24 1 v9 (L.length + 1) (vs ++ [u])) : GE B0 bA bT bG T0 w1 (w9.setCell ⟨bA, 0, none⟩ v9) v9 (L ++ [lb]) ∧ GF B0 bA W (w9.setCell ⟨bA, 0, none⟩ v9) := by
  obtain ⟨q1, q2, q3, q4, q5, q6, q7, q8⟩ := h.lt
  have hvl : vs.length = L.length := by have := o1.1; omega
  have nb : ∀ k, k < B0 → some k ≠ v.ownBlock := fun k hk => own_some o1 hk
  have a9 : Blk 33 w9 bA #[v] := (hg.block _ h.a.lt (nb _ q1)).trans h.a
  have t9 : Blk 78 w9 bT _ := (hg.block _ h.t.lt (nb _ q2)).trans h.t
  have g9 : Blk 83 w9 bG _ := (hg.block _ h.gr.lt (nb _ q3)).trans h.gr
  have gc := grown_cell w9 ⟨bA, 0, none⟩ v9
  have K : ∀ {y : Value} {l : List Nat}, OWn W y l → OWn (w9.setCell ⟨bA, 0, none⟩ v9) y l := fun {y l} hh => by
    have h1 : OWn w9 y l := World.ownsRow.kept hh hg (own_own hh o1 (by decide))
    exact World.ownsRow.kept h1 gc (own_type h1 a9 (by simp))
  have hs : W.heap.size ≤ (w9.setCell ⟨bA, 0, none⟩ v9).heap.size := by rw [World.size_setCell]; exact hg.size
  have hF : GF B0 bA W (w9.setCell ⟨bA, 0, none⟩ v9) := ⟨gc.os.trans hg.os, gc.tape.trans hg.tape, gc.output.trans hg.output, hs,
    fun k hk hn => (Below.heap_setCell _ _ _ _ hn).trans (hg.block k (by omega) (nb k hk)), fun k c hc => by
      have h1 : w9.heap[k]? = some (.cells c 3 (0, 0)) := (hg.block k (lt_of_block hc) (fun e => by
        obtain ⟨_, r⟩ := o1
        rcases r with ⟨rfl, _⟩ | ⟨b, _, cur, rfl, _, hb, _⟩
        · cases e
        · cases e; rw [hc] at hb; cases hb)).trans hc
      exact (Below.heap_setCell _ _ _ _ (fun e => by have h2 := h1; rw [e, show w9.heap[bA]? = _ from a9] at h2; cases h2)).trans h1⟩
  refine ⟨⟨a9.set 0 v9, t9.other (Ne.symm q4) _ _, g9.other (Ne.symm q5) _ _, ⟨vs ++ [u], ?_, fun j x l hx hl => ?_⟩, GF.bel h.bel hF q6 q7, ⟨q1, q2, q3, q4, q5, q6, q7, Nat.le_trans q8 hs⟩⟩, hF⟩
  · have e : (L ++ [lb]).length = L.length + 1 := by simp
    rw [e]
    exact ho.kept gc (own_type ho a9 (by simp))
  · rcases Nat.lt_or_ge j vs.length with hj | hj
    · rw [List.getElem?_append_left hj] at hx
      rw [List.getElem?_append_left (by omega)] at hl
      exact K (o2 j x l hx hl)
    · rw [List.getElem?_append_right hj] at hx
      rw [List.getElem?_append_right (by omega), ← hvl] at hl
      generalize j - vs.length = i at hx hl
      cases i with
      | zero => simp at hx hl; subst hx hl; exact K hu
      | succ i => simp at hx
theorem GE.at (h : GE B0 bA bT bG T0 w1 W v L) : W.cell? ⟨bA, 0, none⟩ = some v ∧ W.frozen? ⟨bA, 0, none⟩ = false ∧ W.cell? ⟨bT, 0, none⟩ = some (.pointer (some ⟨T0, 0, none⟩)) ∧ W.cell? ⟨bG, 0, none⟩ = some (.func (.func 71) #[] (caW bA bT bG)) :=
  ⟨h.a.cell 0, h.a.fr 0, h.t.cell 0, h.gr.cell 0⟩
def GPost (B0 bA bT bG T0 : Nat) (w1 W : World) (L : List (List Nat)) (e : Ending) (W' : World) : Prop := e = .returned (.tuple #[]) ∧ ∃ v', GE B0 bA bT bG T0 w1 W' v' L ∧ GF B0 bA W W'

set_option maxRecDepth 20000 in
set_option maxHeartbeats 4000000 in
theorem grow_zero (g : Nat) (u : Value) (lb : List Nat) (h : GE B0 bA bT bG T0 w1 W v L) (hu : OWn W u lb) (hn : L.length ≤ 16777300) :
    Calls Try.prog 71 (#[u, .int .i64 0] ++ caW bA bT bG) W (GPost B0 bA bT bG T0 w1 W (L ++ (shP g 0 0).map (lb ++ ·))) := by
  obtain ⟨vs, o1, o2⟩ := h.own
  have HP : Hid (∀ v9 w9, W.grownBy w9 v.ownBlock → w9.ownsRow B0 24 1 v9 (L.length + 1) (vs ++ [u]) → GE B0 bA bT bG T0 w1 (w9.setCell ⟨bA, 0, none⟩ v9) v9 (L ++ [lb]) ∧ GF B0 bA W (w9.setCell ⟨bA, 0, none⟩ v9)) := Lib.hid (fun v9 w9 hg ho => h.push o1 o2 hu hg ho)
  have HP2 : Hid (∀ v9 w9, (W.alloc (.cells #[u] 24)).grownBy w9 v.ownBlock → w9.ownsRow B0 24 1 v9 (L.length + 1) (vs ++ [u]) → GE B0 bA bT bG T0 w1 (w9.setCell ⟨bA, 0, none⟩ v9) v9 (L ++ [lb]) ∧ GF B0 bA (W.alloc (.cells #[u] 24)) (w9.setCell ⟨bA, 0, none⟩ v9)) := Lib.hid (fun v9 w9 hg ho =>
    (h.below (a1 W _)).push (owns_below o1 (a1 W _) (Nat.le_refl _)) (fun j y l a b => (o2 j y l a b).below (a1 W _)) (hu.below (a1 W _)) hg ho)
  have HA : Hid (∀ w9, (W.alloc (.cells #[u] 24)).grownBy w9 v.ownBlock → w9.cell? ⟨bA, 0, none⟩ = some v ∧ w9.frozen? ⟨bA, 0, none⟩ = false) := Lib.hid (fun w9 hg => by
    have a9 : Blk 33 w9 bA #[v] := (hg.block _ (h.below (a1 W (.cells #[u] 24))).a.lt (own_some o1 h.lt.1)).trans (h.below (a1 W _)).a
    exact ⟨a9.cell 0, a9.fr 0⟩)
  have HO := Lib.hid o1
  have HGF : Hid (GF B0 bA W (W.alloc (.cells #[u] 24))) := Lib.hid (GF.of_below (a1 W _) h.lt.2.2.2.2.2.2.2)
  have hB0 := h.lt.2.2.2.2.2.2.2
  have ca := h.at.1
  obtain ⟨va, vc, rfl⟩ := owns_form o1
  have ca2 := alloc_cell' (.cells #[u] 24) ca
  obtain ⟨i24, hi24, hy0, hy1, hy2⟩ := info_parts Try.info24
  obtain ⟨ua, uc, rfl⟩ := owns_form hu
  have HE : Hid ((shP g 0 0).map (lb ++ ·) = [lb]) := Lib.hid (by simp [shP])
  rw [HE.out]
  generalize hll : L.length = ll at *
  have HLL := Lib.hid hll
  clear h o1 o2 hu HP hll
  unfold caW at *
  go_enter Try.func71, Try.ntmps71
  go_wp2_with (first | (at_builtin; refine wpList_append_own _ rfl _ _ 33 rfl B0 24 i24 (.slice none 0 0) 1 24 Try.underlying33 hi24 hy0 hy1 hy2 rfl (by decide) _ _ _ rfl (HO.out.alloc _) ⟨W.heap.size, 0, none⟩ 1 1 [_] rfl rfl (newOne _ _ _) (by intro u hu; simp at hu; subst hu; rfl) (by unfold maxLen; omega) (by omega) (by simp; omega) ?_; intro v9 w9 hown9 hg9 _; obtain ⟨a9, cc9, rfl⟩ := owns_form hown9; have c9 := (HA.out w9 hg9).1; have f9 := (HA.out w9 hg9).2; have H9 := Lib.hid (HP2.out _ w9 hg9 hown9)) | fail)
  refine bodyPost_ret (results_none rfl _ _ _) rfl ⟨rfl, _, H9.out.1, HGF.out.trans H9.out.2⟩

/-- The words that begin with letter s. -/
def blW (g n x s : Nat) : List (List Nat) := if ln g (lm g s x) < ln g x then (shP g n (lm g s x)).map (s :: ·) else []
def blK (g n x k : Nat) : List (List Nat) := (List.range k).flatMap (blW g n x)
theorem blK_succ (g n x k : Nat) : blK g n x (k + 1) = blK g n x k ++ blW g n x k := by
  unfold blK; rw [List.range_succ, List.flatMap_append]; simp
theorem blK_all {g n x : Nat} (h0 : x ≠ 0) : blK g n x (kM g) = shP g (n + 1) x := by
  rw [shP, if_neg h0]; rfl
theorem blW_len {g n x s : Nat} (hg : g < 17) : (blW g n x s).length ≤ 4 ^ n := by
  unfold blW
  split
  · rw [List.length_map]; exact shP_le hg n _
  · simp
theorem blK_len {g n x : Nat} (hg : g < 17) : ∀ k, (blK g n x k).length ≤ k * 4 ^ n
  | 0 => by simp [blK]
  | k + 1 => by
    rw [blK_succ, List.length_append, Nat.succ_mul]
    have := blK_len (n := n) (x := x) hg k
    have := blW_len (g := g) (n := n) (x := x) (s := k) hg
    omega

set_option maxRecDepth 20000 in
set_option maxHeartbeats 4000000 in
theorem grow_any (g : Nat) (hg : g < 17) (hT : TableAt w1 T0 g) : ∀ (n x : Nat) (lb : List Nat) (u : Value) (L : List (List Nat)) (v : Value) (W : World), ln g x = n → x < nE g → GE B0 bA bT bG T0 w1 W v L → OWn W u lb → lb.length + n ≤ 12 → (∀ s ∈ lb, s < kM g) → L.length + 4 ^ n ≤ 16777300 →
    Calls Try.prog 71 (#[u, .int .i64 x] ++ caW bA bT bG) W (GPost B0 bA bT bG T0 w1 W (L ++ (shP g n x).map (lb ++ ·))) := by
  intro n
  induction n with
  | zero =>
    intro x lb u L v W hn hx h hu _ _ hL
    have h0 : x = 0 := Classical.byContradiction fun e => by have := ln_pos hg hx e; omega
    subst h0
    exact grow_zero g u lb h hu (by omega)
  | succ n ih =>
    intro x lb u L v W hn hx h hu hl12 hlb hL
    have h0 : x ≠ 0 := fun e => by subst e; rw [ln_zero hg] at hn; omega
    have h0I : ((x : Int) == 0) = false := beq_eq_false_iff_ne.2 (by omega)
    have hx12 := (tx hg hx).2.1
    have hk4 := (tg hg).2.2.2.1
    have hE := tE hg
    obtain ⟨wb, cw, rb, cr, ws, R, C, ht⟩ := hT.open hg
    have hcap := ht.cap
    obtain ⟨r1, r2, r3⟩ := ht.right 0 hE.1
    obtain ⟨xa, xc, _, x1, x2, _⟩ := ht.word x hx
    have c0w := ht.c0
    have c1w := ht.c1
    have HAll := Lib.hid (blK_all (g := g) (n := n) h0)
    have HBk := Lib.hid (fun s => blK_succ g n x s)
    have HBl := Lib.hid (fun k => blK_len (n := n) (x := x) hg k)
    have H4 : Hid (4 ^ (n + 1) = 4 * 4 ^ n) := Lib.hid (by rw [Nat.pow_succ]; omega)
    have HR3 := Lib.hid r3
    have HX1 := Lib.hid x1
    have HX2 := Lib.hid x2
    have HC0 := Lib.hid c0w
    have HT := Lib.hid hT
    have HIh := Lib.hid ih
    have HLb := Lib.hid hlb
    have HL := Lib.hid hL
    have HH := Lib.hid h
    have HU := Lib.hid hu
    have cT := h.at.2.2.1
    have c1 := ck c1w h.bel
    have cR := ck r1 h.bel
    have HWi := Lib.hid (fun v l s W h hl => with_any v l s W h hl)
    have HFo := Lib.hid (fun s hs v W h hx hv => follow_any g T0 (rt g 0 s) hg v (wd g x) W h hx hv (Let.wd hg hs))
    obtain ⟨ua, uc, rfl⟩ := owns_form hu
    clear h hu hlb hL ih ht r3 r1 x1 x2 c0w c1w h0 HFo
    generalize hR0 : R 0 = R0 at *
    generalize hC0 : C 0 = C0 at *
    clear hR0 hC0
    unfold caW
    go_enter Try.func71, Try.ntmps71
    go_wp2_with fail
    clear cT c1 cR
    go_loopw [23] (fun s wr => ∃ k : Nat, k ≤ kM g ∧ s = .int .i64 k ∧ ∃ v', GE B0 bA bT bG T0 w1 wr v' (L ++ (blK g n x k).map (lb ++ ·)) ∧ GF B0 bA W wr) (fun s _ => kM g - (intOf s).toNat)
    case atStart => exact ⟨0, Nat.zero_le _, rfl, v, by simpa [blK] using HH.out, GF.refl _ _ _⟩
    case round =>
      clear HH
      obtain ⟨k, hk, rfl, v', hE2, hF⟩ := hrel
      have HE2 := Lib.hid hE2
      have HF := Lib.hid hF
      clear hE2 hF
      by_cases hl : k < kM g
      · have hz := len_one hg hx hl
        have hr0 := (tb hg hE.1 hl).2.1
        obtain ⟨z, hzz⟩ : ∃ z, z = lm g k x := ⟨_, rfl⟩
        have HZ : Hid (fol g (rt g 0 k) (wd g x) = z) := Lib.hid hzz.symm
        rw [← hzz] at hz
        have hzl := hz.2.2.2
        have hd := hz.1
        have hzn := (tx hg hzl).2.1
        have cR := ck (HR3.out k hl) HE2.out.bel
        have cT := HE2.out.at.2.2.1
        have cG := HE2.out.at.2.2.2
        have c0 := ck HC0.out HE2.out.bel
        have cx := ck HX1.out HE2.out.bel
        have HTr := Lib.hid (HT.out.below HE2.out.bel)
        have HFo : Hid (∀ m, Calls Try.prog 72 #[.pointer (some ⟨T0, 0, none⟩), .int .i64 (rt g 0 k : Nat), .slice xa (ln g x) xc] (wr.drewN m) fun e w' => e = .returned (.int .i64 (z : Nat)) ∧ wr.drewN m = w') := Lib.hid (fun m => by
          have h9 := follow_any g T0 (rt g 0 k) hg (.slice xa (ln g x) xc) (wd g x) (wr.drewN m) (HTr.out.drewN m) hr0 ((HX2.out.below HE2.out.bel (Nat.le_refl _)).below (below_drewN (Below.refl _ _) _) (Nat.le_refl _)) (Let.wd hg hx)
          rwa [HZ.out] at h9)
        have HL1 : Hid (∀ W9, TableAt W9 T0 g → Calls Try.prog 70 #[.pointer (some ⟨T0, 0, none⟩), .int .i64 (z : Nat)] W9 fun e w' => e = .returned (.int .i64 (ln g z : Nat)) ∧ W9 = w') := Lib.hid (fun W9 h => length_any g T0 z hg W9 h hzl)
        have HL2 : Hid (∀ W9, TableAt W9 T0 g → Calls Try.prog 70 #[.pointer (some ⟨T0, 0, none⟩), .int .i64 (x : Nat)] W9 fun e w' => e = .returned (.int .i64 (ln g x : Nat)) ∧ W9 = w') := Lib.hid (fun W9 h => length_any g T0 x hg W9 h hx)
        have HIz := Lib.hid (fun lb u L v W a b c d e f => HIh.out z lb u L v W a hzl b c d e f)
        have HBz : Hid (blW g n x k = if ln g z < ln g x then (shP g n z).map (k :: ·) else []) := Lib.hid (by rw [hzz]; rfl)
        clear hz hzz
        generalize rt g 0 k = r at *
        obtain ⟨p, hp⟩ : ∃ p, p = ln g z := ⟨_, rfl⟩
        obtain ⟨q, hq⟩ : ∃ q, q = ln g x := ⟨_, rfl⟩
        rw [← hp] at HL1 hd hzn HIz HBz
        rw [← hq] at HL2 hd HFo cx HBz hn hx12
        have hqn1 : q ≤ n + 1 := by omega
        have hqn2 : n + 1 ≤ q := by omega
        have hxc : q ≤ xc := by rw [hq]; obtain ⟨_, _, e, h9, _, _⟩ := Nats.open HX2.out; cases e; exact h9
        have HQ := Lib.hid hq
        clear hp hq hn
        go_wp2_with fail
        go_quiet ((go_at_call 72; exact quiet_eq (HFo.out _)))
        go_wp2_with fail
        have HEq : Hid (GE B0 bA bT bG T0 w1 (wr.drewN nq) v' (L ++ (blK g n x k).map (lb ++ ·))) := Lib.hid (HE2.out.below (below_drewN (Below.refl _ _) nq))
        have HFq : Hid (GF B0 bA W (wr.drewN nq)) := Lib.hid (HF.out.trans (GF.of_below (below_drewN (Below.refl _ _) nq) HE2.out.lt.2.2.2.2.2.2.2))
        clear HE2 HF HTr HFo cT cG c0 cx cR
        generalize wr.drewN nq = wq at *
        have cT := HEq.out.at.2.2.1
        have HTq := Lib.hid (HT.out.below HEq.out.bel)
        have HL1q := Lib.hid (fun m => HL1.out (wq.drewN m) (HTq.out.drewN m))
        have HL2q := Lib.hid (fun m => HL2.out (wq.drewN m) (HTq.out.drewN m))
        go_quiet (first | (go_at_call 70; first | with_reducible exact quiet_eq (HL1q.out _) | with_reducible exact quiet_eq (HL2q.out _)))
        have HE3 : Hid (GE B0 bA bT bG T0 w1 (wq.drewN nq) v' (L ++ (blK g n x k).map (lb ++ ·))) := Lib.hid (HEq.out.below (below_drewN (Below.refl _ _) nq))
        have HF3 : Hid (GF B0 bA W (wq.drewN nq)) := Lib.hid (HFq.out.trans (GF.of_below (below_drewN (Below.refl _ _) nq) HEq.out.lt.2.2.2.2.2.2.2))
        clear HEq HFq HTq HL1q HL2q cT HL1 HL2
        generalize wq.drewN nq = w3 at *
        by_cases hpq : p < q
        · have hpn : p = n := by omega
          have HBw : Hid (blK g n x (k + 1) = blK g n x k ++ (shP g n z).map (k :: ·)) := Lib.hid (by rw [HBk.out, HBz.out, if_pos hpq])
          have cG := HE3.out.at.2.2.2
          unfold caW at cG
          have HEd : Hid (GE B0 bA bT bG T0 w1 w3.drew v' (L ++ (blK g n x k).map (lb ++ ·))) := Lib.hid (HE3.out.below (below_drew (Below.refl _ _)))
          have HFd : Hid (GF B0 bA W w3.drew) := Lib.hid (HF3.out.trans (GF.of_below (below_drew (Below.refl _ _)) HE3.out.lt.2.2.2.2.2.2.2))
          have hlbl : lb.length ≤ 11 := by omega
          have hul : Nats w3.drew (.slice ua lb.length uc) lb := (HFd.out.own HU.out).nats (by omega) (fun y hy => by have := HLb.out y hy; omega)
          have HUl := Lib.hid hul
          clear hul HBz
          go_wp2_with fail
          refine wp_region_held_drew (S := fun W => W.cell? ⟨bG, 0, none⟩ = some (.func (.func 71) #[] (caW bA bT bG))) (by kernel_rfl) HEd.out.at.2.2.2 (fun hS0 => ?_)
          refine tk0 (v := (.func (.func 71) #[] #[.pointer (some ⟨bA, 0, none⟩), .pointer (some ⟨bT, 0, none⟩), .pointer (some ⟨bG, 0, none⟩)])) (by kernel_rfl) (by kernel_rfl) (by kernel_rfl) (fun _ _ _ h => h) (Or.inl ⟨by kernel_rfl, fun w' hSw => by unfold caW at hSw; go_simp⟩) hS0 ?_
          try simp only [Act.put, List.setIfInBounds_toArray, List.set_cons_zero, List.set_cons_succ]
          refine tk1 (v := (.slice ua lb.length uc)) (by kernel_rfl) (by kernel_rfl) (by kernel_rfl) (fun _ _ _ h => h) (Or.inl ⟨by kernel_rfl, fun w' hSw => by go_simp⟩) hS0 ?_
          try simp only [Act.put, List.setIfInBounds_toArray, List.set_cons_zero, List.set_cons_succ]
          refine tk2 (v := (.int .i64 k)) (by kernel_rfl) (by kernel_rfl) (by kernel_rfl) (fun _ _ _ h => h) (Or.inl ⟨by kernel_rfl, fun w' hSw => by go_simp⟩) hS0 ?_
          try simp only [Act.put, List.setIfInBounds_toArray, List.set_cons_zero, List.set_cons_succ]
          refine tk4 (v := (.int .i64 z)) (by kernel_rfl) (by kernel_rfl) (by kernel_rfl) (fun _ _ _ h => h) (Or.inl ⟨by kernel_rfl, fun w' hSw => by go_simp⟩) hS0 ?_
          try simp only [Act.put, List.setIfInBounds_toArray, List.set_cons_zero, List.set_cons_succ]
          refine wpAnyH_ready (rs := [3]) (by kernel_rfl) (by simp) (AllReadyH.cons rfl (fun K hK => ?_) AllReadyH.nil)
          go_simp
          refine (HWi.out _ lb k _ HUl.out (by omega)).mono ?_
          rintro e wa ⟨u9, rfl, ho9, hba⟩
          have HEa := Lib.hid (HEd.out.below hba)
          have HFa : Hid (GF B0 bA W wa) := Lib.hid (HFd.out.trans (GF.of_below hba HEd.out.lt.2.2.2.2.2.2.2))
          have HOa : Hid (OWn wa u9 (lb ++ [k])) := Lib.hid (by
            unfold OWn
            rw [show (lb ++ [k]).length = lb.length + 1 by simp]
            exact owns_mono ho9 (Nat.zero_le _))
          obtain ⟨a9, c9, rfl⟩ := owns_form ho9
          clear ho9 hba
          refine hK.out _ _ HEa.out.at.2.2.2 fun _ => ?_
          clear hK
          refine wpAnyH_ready (rs := [5]) (by kernel_rfl) (by simp) (AllReadyH.cons rfl (fun K hK => ?_) AllReadyH.nil)
          go_simp
          have HLn : Hid ((L ++ (blK g n x k).map (lb ++ ·)).length + 4 ^ n ≤ 16777300) := Lib.hid (by
            have h1 := HL.out
            have h2 := HBl.out k
            have h3 : k * 4 ^ n ≤ 3 * 4 ^ n := Nat.mul_le_mul_right _ (by omega)
            rw [H4.out] at h1
            rw [List.length_append, List.length_map]
            omega)
          have HC : Calls Try.prog 71 #[.slice a9 (lb.length + 1) c9, .int .i64 (z : Nat), .pointer (some ⟨bA, 0, none⟩), .pointer (some ⟨bT, 0, none⟩), .pointer (some ⟨bG, 0, none⟩)] wa (GPost B0 bA bT bG T0 w1 wa ((L ++ (blK g n x k).map (lb ++ ·)) ++ (shP g n z).map ((lb ++ [k]) ++ ·))) :=
            HIz.out (lb ++ [k]) _ _ v' wa hpn HEa.out HOa.out (by simp; omega) (fun y hy => by
              rcases List.mem_append.1 hy with hy | hy
              · exact HLb.out y hy
              · rw [List.mem_singleton.1 hy]; exact hl) HLn.out
          have HEq2 : Hid ((L ++ (blK g n x k).map (lb ++ ·)) ++ (shP g n z).map ((lb ++ [k]) ++ ·) = L ++ (blK g n x (k + 1)).map (lb ++ ·)) := Lib.hid (by rw [HBw.out]; simp)
          rw [HEq2.out] at HC
          refine HC.mono ?_
          clear HC HLn HEq2
          rintro e wb2 ⟨rfl, v8, hE8, hF8⟩
          have HE8 := Lib.hid hE8
          have HF8 := Lib.hid (HFa.out.trans hF8)
          clear hE8 hF8
          refine hK.out _ _ HE8.out.at.2.2.2 fun _ => ?_
          clear hK
          refine wpAnyH_done (by kernel_rfl) ?_ _
          go_wp2_with fail
          go_roundw
          case rel => exact ⟨k + 1, by omega, by go_num, v8, HE8.out, HF8.out⟩
          case measure => simp [intOf]; omega
        · have HBw : Hid (blK g n x (k + 1) = blK g n x k) := Lib.hid (by rw [HBk.out, HBz.out, if_neg hpq, List.append_nil])
          have HE8 : Hid (GE B0 bA bT bG T0 w1 w3 v' (L ++ (blK g n x (k + 1)).map (lb ++ ·))) := Lib.hid (by rw [HBw.out]; exact HE3.out)
          clear HBz HBw
          go_wp2_with fail
          go_roundw
          case rel => exact ⟨k + 1, by omega, by go_num, v', HE8.out, HF3.out⟩
          case measure => simp [intOf]; omega
      · have hkk : k = kM g := by omega
        have HEn : Hid (GE B0 bA bT bG T0 w1 wr v' (L ++ (shP g (n + 1) x).map (lb ++ ·))) := Lib.hid (by rw [← HAll.out, ← hkk]; exact HE2.out)
        clear hkk
        go_wp2_with fail
        exact end_none rfl rfl ⟨rfl, _, HEn.out, HF.out⟩
end Go.Proofs.Ytlnbodpdgebflaa
