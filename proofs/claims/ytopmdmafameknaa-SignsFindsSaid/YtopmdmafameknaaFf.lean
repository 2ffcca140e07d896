/- Find: the closure that calls itself -/
import Derived.Test.YtopmdmafameknaaFd
namespace Go.Proofs.Ytopmdmafameknaa
open Go.RowKit

def fndL (m : Nat) : Nat → List Nat → Option (List Nat)
  | 0, p => if goodB m (p.getD 0 0) (p.getD 1 0) (p.getD 2 0) (p.getD 3 0) then some p else none
  | j + 1, p => (List.range (2 ^ m)).findSome? fun x => if symA m x m then fndL m j (p ++ [x]) else none
/-- What is still to be tried from x on. -/
def rstL (m j : Nat) (p : List Nat) (x : Nat) : Option (List Nat) := (List.range' x (2 ^ m - x)).findSome? fun x => if symA m x m then fndL m j (p ++ [x]) else none
theorem rstL_zero (m j : Nat) (p : List Nat) : rstL m j p 0 = fndL m (j + 1) p := by
  unfold rstL
  rw [fndL, List.range_eq_range', Nat.sub_zero]
theorem rstL_end (m j : Nat) (p : List Nat) : rstL m j p (2 ^ m) = none := by unfold rstL; rw [Nat.sub_self]; rfl
theorem rstL_no {m j x : Nat} {p : List Nat} (hx : x < 2 ^ m) (h : (if symA m x m then fndL m j (p ++ [x]) else none) = none) : rstL m j p x = rstL m j p (x + 1) := by
  unfold rstL
  rw [show 2 ^ m - x = (2 ^ m - (x + 1)) + 1 by omega, List.range'_succ, List.findSome?_cons, h]
theorem rstL_yes {m j x : Nat} {p r : List Nat} (hx : x < 2 ^ m) (h : (if symA m x m then fndL m j (p ++ [x]) else none) = some r) : rstL m j p x = some r := by
  unfold rstL
  rw [show 2 ^ m - x = (2 ^ m - (x + 1)) + 1 by omega, List.range'_succ, List.findSome?_cons, h]
/-- Memory of the search. -/
structure GSt (w : World) (m Bm Bs Bp : Nat) (q : Nat → Int) : Prop where
  bm : Blk 3 w Bm #[.int .i64 (m : Nat)]
  bs : Blk 43 w Bs (fourV q)
  bp : Blk 56 w Bp #[.func (.func 86) #[] #[.pointer (some ⟨Bm, 0, none⟩), .pointer (some ⟨Bs, 0, none⟩), .pointer (some ⟨Bp, 0, none⟩)]]
  ne : Bs ≠ Bm ∧ Bs ≠ Bp
theorem GSt.put {w : World} {m Bm Bs Bp : Nat} {q : Nat → Int} (h : GSt w m Bm Bs Bp q) {k : Nat} (hk : k < 4) (z : Int) : GSt (w.setCell ⟨Bs, k, none⟩ (.int .i64 z)) m Bm Bs Bp (fun i => if i = k then z else q i) :=
  ⟨h.bm.other h.ne.1.symm _ _, by rw [← fourV_set q z k hk]; exact h.bs.set k _, h.bp.other h.ne.2.symm _ _, h.ne⟩
theorem GSt.below {w w' : World} {m Bm Bs Bp : Nat} {q : Nat → Int} (h : GSt w m Bm Bs Bp q) (hb : Below w.heap.size w w') : GSt w' m Bm Bs Bp q := ⟨h.bm.below hb, h.bs.below hb, h.bp.below hb, h.ne⟩
theorem GSt.cells {w : World} {m Bm Bs Bp : Nat} {q : Nat → Int} (h : GSt w m Bm Bs Bp q) {k : Nat} (hk : k < 4) : w.cell? ⟨Bs, k, none⟩ = some (.int .i64 (q k)) := by
  rw [h.bs.cell, fourV_get q k hk]
/-- What a call leaves. -/
def GPost (m Bm Bs Bp B0 k : Nat) (p : List Nat) (o : Option (List Nat)) (w : World) (e : Ending) (w' : World) : Prop :=
  e = .returned (.bool o.isSome) ∧ ∃ q', GSt w' m Bm Bs Bp q' ∧ (∀ i, i < k → q' i = (p.getD i 0 : Nat)) ∧ (∀ t, o = some t → ∀ i, i < 4 → q' i = (t.getD i 0 : Nat)) ∧ Below B0 w w'
theorem seqB_cast {m x : Nat} (hx : x < 2 ^ m) : seqB m (x : Int) = symA m x m := by
  unfold seqB setB
  rw [Int.toNat_natCast, decide_eq_true ⟨by omega, by exact_mod_cast hx⟩, Bool.true_and]

set_option maxRecDepth 20000 in
set_option maxHeartbeats 2000000 in
theorem seek_any (m Bm Bs Bp B0 : Nat) (h1 : 1 ≤ m) (hm : m ≤ 5) (hB : B0 ≤ Bs) : ∀ (j : Nat) (p : List Nat) (q : Nat → Int) (w : World), p.length + j = 4 → (∀ x ∈ p, x < 2 ^ m) → (∀ i, i < p.length → q i = (p.getD i 0 : Nat)) → GSt w m Bm Bs Bp q → B0 ≤ w.heap.size →
    Calls Try.prog 86 #[.int .i64 (p.length : Nat), .pointer (some ⟨Bm, 0, none⟩), .pointer (some ⟨Bs, 0, none⟩), .pointer (some ⟨Bp, 0, none⟩)] w (GPost m Bm Bs Bp B0 p.length p (fndL m j p) w) := by
  intro j
  induction j with
  | zero =>
    intro p q w hp hlt hq hS hw
    have hp4 : p.length = 4 := by omega
    have HQ := Lib.hid hq
    have HS := Lib.hid hS
    have HG := Lib.hid (fun W => good_any m (p.getD 0 0) (p.getD 1 0) (p.getD 2 0) (p.getD 3 0) W h1 hm (fun k => by
      have : ∀ i, p.getD i 0 < 65536 := fun i => by
        by_cases hi : i < p.length
        · exact Nat.lt_of_lt_of_le (hlt _ (by simp [hi])) (pw_nat m (by omega)).2
        · rw [List.getD_eq_getElem?_getD, List.getElem?_eq_none (by omega)]; simp
      match k with
      | 0 => exact this 0
      | 1 => exact this 1
      | 2 => exact this 2
      | _ + 3 => exact this 3))
    have cm : w.cell? ⟨Bm, 0, none⟩ = some (.int .i64 (m : Nat)) := hS.bm.cell 0
    have f0 := hS.cells (k := 0) (by omega)
    have f1 := hS.cells (k := 1) (by omega)
    have f2 := hS.cells (k := 2) (by omega)
    have f3 := hS.cells (k := 3) (by omega)
    rw [hq 0 (by omega)] at f0
    rw [hq 1 (by omega)] at f1
    rw [hq 2 (by omega)] at f2
    rw [hq 3 (by omega)] at f3
    have HF : Hid (fndL m 0 p = if goodB m (p.getD 0 0) (p.getD 1 0) (p.getD 2 0) (p.getD 3 0) then some p else none) := Lib.hid rfl
    unfold arr4 at HG
    rw [hp4] at HQ ⊢
    clear hq hS hp hlt
    generalize p.getD 0 0 = p0 at *
    generalize p.getD 1 0 = p1 at *
    generalize p.getD 2 0 = p2 at *
    generalize p.getD 3 0 = p3 at *
    go_enter Try.func86, Try.ntmps86
    go_wp2_with fail
    refine (HG.out _).mono ?_
    rintro e w1 ⟨rfl, hb⟩
    have HP : Hid (GPost m Bm Bs Bp B0 4 p (fndL m 0 p) w (.returned (.bool (goodB m p0 p1 p2 p3))) w1) := Lib.hid (by
      refine ⟨?_, q, HS.out.below hb, HQ.out, fun t ht i hi => ?_, hb.mono hw⟩
      · rw [HF.out]; cases goodB m p0 p1 p2 p3 <;> rfl
      · rw [HF.out] at ht
        cases hg : goodB m p0 p1 p2 p3 with
        | true => rw [hg] at ht; simp at ht; rw [← ht]; exact HQ.out i hi
        | false => rw [hg] at ht; simp at ht)
    clear hb
    go_wp2_with fail
    go_ret
    exact HP.out
  | succ j ih =>
    intro p q w hp hlt hq hS hw
    have HIH := Lib.hid ih
    have HS := Lib.hid hS
    have HLt := Lib.hid hlt
    obtain ⟨T, hT⟩ : ∃ T, T = fndL m (j + 1) p := ⟨_, rfl⟩
    rw [← hT]
    have HT : Hid (T = rstL m j p 0) := Lib.hid (by rw [hT, rstL_zero])
    obtain ⟨k, hk⟩ : ∃ k, k = p.length := ⟨_, rfl⟩
    rw [← hk] at hp hq ⊢
    have HK := Lib.hid hk
    have HQ := Lib.hid hq
    have hk3 : k ≤ 3 := by omega
    have hne4 : ((k : Int) == 4) = false := beq_eq_false_iff_ne.2 (by omega)
    have cm : w.cell? ⟨Bm, 0, none⟩ = some (.int .i64 (m : Nat)) := hS.bm.cell 0
    clear ih hS hlt hT hk hq
    have hwp := wrap_pw m (by omega)
    have hpb := pw_nat m (show m ≤ 16 by omega)
    have hpc := pw_cast m
    go_enter Try.func86, Try.ntmps86
    go_wp2_with fail
    go_loopw [14] (fun i wr => ∃ (x : Nat) (qr : Nat → Int), x ≤ 2 ^ m ∧ i = .int .i64 (x : Nat) ∧ GSt wr m Bm Bs Bp qr ∧ T = rstL m j p x ∧ (∀ i, i < k → qr i = (p.getD i 0 : Nat)) ∧ Below B0 w wr ∧ B0 ≤ wr.heap.size) (fun i _ => 2 ^ m - (intOf i).toNat)
    case atStart => exact ⟨0, q, Nat.zero_le _, rfl, HS.out, HT.out, HQ.out, Below.refl _ _, hw⟩
    case round =>
      clear HS HT HQ cm
      obtain ⟨x, qr, hx, rfl, hSr, hTr, hqr, hbr, hsz⟩ := hrel
      have HSr := Lib.hid hSr
      have HTr := Lib.hid hTr
      have HQr := Lib.hid hqr
      have HBr := Lib.hid hbr
      have cm := hSr.bm.cell 0
      simp only [List.getElem?_toArray, List.getElem?_cons_zero] at cm
      clear hSr hTr hqr hbr
      by_cases hlt : x < 2 ^ m
      · have hxI : (x : Int) < (2 : Int) ^ m := by rw [← hpc]; exact_mod_cast hlt
        have HSq := Lib.hid (fun W => isSeq_any m (x : Int) W h1 hm)
        rw [seqB_cast hlt] at HSq
        have hx32 : x < 65536 := Nat.lt_of_lt_of_le hlt hpb.2
        cases hsy : symA m x m with
        | false =>
          have hNo := rstL_no (m := m) (j := j) (p := p) hlt (by rw [hsy]; rfl)
          have HTn : Hid (T = rstL m j p (x + 1)) := Lib.hid (by rw [HTr.out, hNo])
          rw [hsy] at HSq
          clear hNo hsy
          go_wp2_with fail
          refine (HSq.out _).mono ?_
          rintro e w2 ⟨rfl, rfl⟩
          go_wp2_with fail
          go_roundw
          case rel => exact ⟨x + 1, qr, by omega, by go_num, HSr.out, HTn.out, HQr.out, HBr.out, hsz⟩
          case measure => (first | (simp [intOf]; done) | (simp [intOf]; omega))
        | true =>
          have hkk : k < 4 := by omega
          have HNo := Lib.hid (fun h => rstL_no (m := m) (j := j) (p := p) hlt (by rw [hsy, if_pos rfl]; exact h))
          have HYes := Lib.hid (fun r h => rstL_yes (m := m) (j := j) (p := p) (r := r) hlt (by rw [hsy, if_pos rfl]; exact h))
          rw [hsy] at HSq
          clear hsy
          have HS4 := Lib.hid (HSr.out.put hkk (x : Nat))
          have HB4 := Lib.hid (below_set HBr.out (a := ⟨Bs, k, none⟩) hB (.int .i64 (x : Nat)))
          have c1 := HSr.out.cells hkk
          have c2 := HSr.out.bs.fr k
          have c3 : (World.setCell _ ⟨Bs, k, none⟩ (.int .i64 (x : Nat))).cell? ⟨Bp, 0, none⟩ = some (.func (.func 86) #[] #[.pointer (some ⟨Bm, 0, none⟩), .pointer (some ⟨Bs, 0, none⟩), .pointer (some ⟨Bp, 0, none⟩)]) := HS4.out.bp.cell 0
          have HC : Hid (∀ W, GSt W m Bm Bs Bp (fun i => if i = k then (x : Int) else qr i) → B0 ≤ W.heap.size → Calls Try.prog 86 #[.int .i64 ((k : Int) + 1), .pointer (some ⟨Bm, 0, none⟩), .pointer (some ⟨Bs, 0, none⟩), .pointer (some ⟨Bp, 0, none⟩)] W (GPost m Bm Bs Bp B0 k p (fndL m j (p ++ [x])) W)) := Lib.hid (fun W hSW hBW => by
            have hlen : (p ++ [x]).length = k + 1 := by rw [List.length_append, ← HK.out]; rfl
            have h9 := HIH.out (p ++ [x]) _ W (by rw [hlen]; omega) (fun z hz => by
              rcases List.mem_append.1 hz with hz | hz
              · exact HLt.out z hz
              · simp at hz; subst hz; exact hlt) (fun i hi => by
              rw [hlen] at hi
              by_cases e : i = k
              · subst e; simp [HK.out]
              · simp only [if_neg e]
                rw [HQr.out i (by omega), List.getD_eq_getElem?_getD, List.getD_eq_getElem?_getD, List.getElem?_append_left (by rw [← HK.out]; omega)]) hSW hBW
            have e2 : ((k + 1 : Nat) : Int) = (k : Int) + 1 := by omega
            rw [hlen, e2] at h9
            refine h9.mono fun e w' hh => ?_
            obtain ⟨he, q', a, b, c, d⟩ := hh
            refine ⟨he, q', a, fun i hi => ?_, c, d⟩
            rw [b i (by omega), List.getD_eq_getElem?_getD, List.getD_eq_getElem?_getD, List.getElem?_append_left (by rw [← HK.out]; omega)])
          clear HSr HQr HIH
          go_wp2_with fail
          refine (HSq.out _).mono ?_
          rintro e w2 ⟨rfl, rfl⟩
          have hsz4 : ∀ (W : World) (a : Addr) (u : Value), B0 ≤ W.heap.size → B0 ≤ (W.setCell a u).heap.size := fun W a u h => by simpa [World.setCell] using h
          go_wp2_with fail
          refine (HC.out _ HS4.out (hsz4 _ _ _ hsz)).mono ?_
          cases ho : fndL m j (p ++ [x]) with
          | some r =>
            have HTn : Hid (T = some r) := Lib.hid (by rw [HTr.out]; exact HYes.out r ho)
            rintro e w5 ⟨rfl, q5, hS5, hq5, ht5, hb5⟩
            have HP : Hid (GPost m Bm Bs Bp B0 k p T w (.returned (.bool true)) w5) := Lib.hid ⟨by rw [HTn.out]; rfl, q5, hS5, hq5, fun t ht => ht5 t (by rw [← ht, HTn.out]), HB4.out.trans hb5⟩
            clear hS5 hq5 ht5 hb5 HC HS4 HB4 c1 c2 c3 ho HNo HYes HTr HTn
            go_wp2_with fail
            go_ret
            exact HP.out
          | none =>
            have HTn : Hid (T = rstL m j p (x + 1)) := Lib.hid (by rw [HTr.out]; exact HNo.out ho)
            rintro e w5 ⟨rfl, q5, hS5, hq5, ht5, hb5⟩
            have HS5 := Lib.hid hS5
            have HQ5 := Lib.hid hq5
            have HB5 := Lib.hid (HB4.out.trans hb5)
            have hsz5 := Nat.le_trans (hsz4 _ ⟨Bs, k, none⟩ (.int .i64 (x : Nat)) hsz) hb5.size
            clear hS5 hq5 ht5 hb5 HC HS4 HB4 c1 c2 c3 ho HNo HYes HTr hsz4
            go_wp2_with fail
            go_roundw
            case rel => exact ⟨x + 1, q5, by omega, by go_num, HS5.out, HTn.out, HQ5.out, HB5.out, hsz5⟩
            case measure => (first | (simp [intOf]; done) | (simp [intOf]; omega))
      · have hxe : x = 2 ^ m := by omega
        have HP : Hid (GPost m Bm Bs Bp B0 k p T w (.returned (.bool false)) _) := Lib.hid (by
          have hTe : T = none := by rw [HTr.out, hxe, rstL_end]
          exact ⟨by rw [hTe]; rfl, qr, HSr.out, HQr.out, fun t ht => (by rw [hTe] at ht; cases ht), HBr.out⟩)
        have hxI : ¬ (x : Int) < (2 : Int) ^ m := by rw [← hpc]; exact_mod_cast hlt
        clear hxe
        go_wp2_with fail
        go_ret
        exact HP.out
end Go.Proofs.Ytopmdmafameknaa
