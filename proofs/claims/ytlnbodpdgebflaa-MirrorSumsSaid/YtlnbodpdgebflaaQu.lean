/- MirrorSums -/
import Derived.Test.YtlnbodpdgebflaaQt
import Derived.Test.YtlnbodpdgebflaaV3
namespace Go.Proofs.Ytlnbodpdgebflaa
open Go.RowKit
theorem equalT (l : List Int) (v v' : Value) (W : World) (h : Ints W v l) (h' : Ints W v' l) : Calls Try.prog 28 #[v, v'] W fun e w' => e = .returned (.bool true) ∧ Below W.heap.size W w' :=
  (equal_any v v' _ _ W h h').mono fun e w' hh => by
    obtain ⟨rfl, hb⟩ := hh
    exact ⟨by rw [show eqB l l = true from decide_eq_true rfl], hb⟩
theorem falls_bit (g x s : Nat) : ∀ k, (flS g x k).testBit s = (decide (s < k) && flB g x s)
  | 0 => by simp [flS]
  | k + 1 => by
    have ih := falls_bit g x s k
    unfold flS
    have hlt := flS_lt g x k
    cases hb : flB g x k with
    | true =>
      rw [if_pos rfl, Nat.testBit_or, ih, Nat.testBit_two_pow]
      by_cases e : k = s
      · subst e; simp [hb]
      · by_cases c : s < k
        · simp [e, c, show s < k + 1 by omega]
        · simp [e, c, show ¬ s < k + 1 by omega]
    | false =>
      rw [if_neg (by simp), ih]
      by_cases e : s = k
      · subst e; simp [hb]
      · by_cases c : s < k
        · simp [c, show s < k + 1 by omega]
        · simp [c, show ¬ s < k + 1 by omega]
/-- What MirrorSums asks, one by one. -/
structure SumsOk (g u x : Nat) : Prop where
  p : loB g u x = decide (0 < (dP g u x).length)
  r : loB g u x = decide (0 < (dR g u x).length)
  turn : ∀ s, s < kM g → ln g (rt g x s) < ln g x → dP g (rt g u s) x = dP g u x
  le : loB g u x = true → ln g u ≤ ln g x
  one : loB g u x = true → (dP g u x).getD 0 0 = 1
  deg : loB g u x = true → 2 * ((dP g u x).length - 1) ≤ max (ln g x - ln g u - 1) 0
  pos : loB g u x = true → ∀ c ∈ dP g u x, 0 ≤ c
  plain : loB g u x = true → (ln g x - ln g u ≤ 2 ∨ kd g = 73 ∨ (kd g = 65 ∧ nm g ≤ 2)) → (dP g u x).length = 1
  rl : loB g u x = true → (dR g u x).length = ln g x - ln g u + 1
  sum : loB g u x = true → ((dR g u x).sum = 0 ↔ 0 < ln g x - ln g u)
theorem sumsOk {g u x : Nat} (hg : g < 17) (h3 : g ≠ 3) (hu : u < nE g) (hx : x < nE g) : SumsOk g u x := by
  have h := sums_ok hg h3 hu hx
  unfold sumsB at h
  simp only [← lo_bit hg hu hx, (fast hg hu).1, (fast hg hx).1, Bool.and_eq_true, beq_iff_eq] at h
  obtain ⟨⟨⟨h1, h2⟩, h3'⟩, h4⟩ := h
  have h4' : loB g u x = true → _ := fun e => by rw [e] at h4; simpa only [Bool.not_true, Bool.false_or, Bool.and_eq_true, beq_iff_eq, decide_eq_true_eq, Bool.or_eq_true, Bool.not_eq_true', List.all_eq_true] using h4
  refine ⟨h1, h2, fun s hs hf => ?_, fun e => (h4' e).1.1.1.1.1.1, fun e => (h4' e).1.1.1.1.1.2, fun e => (h4' e).1.1.1.1.2, fun e => (h4' e).1.1.1.2, fun e hp => ?_, fun e => (h4' e).1.2, fun e => ?_⟩
  · have := List.all_eq_true.1 h3' s (List.mem_range.2 hs)
    rw [(fast hg (tb hg hx hs).2.1).1, decide_eq_true hf] at this
    simpa using this
  · have h9 := (h4' e).1.1.2
    rcases h9 with h9 | h9
    · exfalso
      simp only [Bool.or_eq_false_iff, decide_eq_false_iff_not, beq_eq_false_iff_ne, Bool.and_eq_false_iff, ne_eq] at h9
      rcases hp with q | q | ⟨q1, q2⟩
      · exact h9.1.1 q
      · exact h9.1.2 q
      · rcases h9.2 with z | z
        · exact z q1
        · exact z q2
    · exact h9
  · have h9 := (h4' e).2
    constructor
    · intro q; rw [q] at h9; simpa using h9.symm
    · intro q; rw [decide_eq_true q] at h9; simpa using h9
theorem isum_bd {l : List Int} (h : Bnd 8 l) : ∀ k, k ≤ l.length → -(8 * (k : Int)) ≤ isum (l.take k) ∧ isum (l.take k) ≤ 8 * (k : Int)
  | 0, _ => by simp [isum]
  | k + 1, hk => by
    have ih := isum_bd h k (by omega)
    have := h.get k
    rw [take_snoc l k (by omega), isum_snoc]
    omega

set_option maxRecDepth 100000 in
set_option maxHeartbeats 2000000 in
theorem sums_bad (k n : Int) (v1 v2 : Value) (l1 l2 : List Int) (w : World) (h1 : Ints w v1 l1) (h2 : Ints w v2 l2) (hb2 : Bad k n [l1.take 34, l2.take 34]) :
    Calls Try.prog 16 #[gV k n, v1, v2] w fun e w' => e = .returned (.bool true) ∧ Below w.heap.size w w' := by
  have HOf := Lib.hid (fun W => Of_any k n W)
  have HLi := Lib.hid (fun v W h => listBad l1 v W h)
  have HLj := Lib.hid (fun v W h => listBad l2 v W h)
  have HR := Lib.hid (fun v v' W h h' => R_bad k n v v' (l1.take 34) (l2.take 34) W h h' hb2)
  have HP := Lib.hid (fun v v' W h h' => P_bad k n v v' (l1.take 34) (l2.take 34) W h h' hb2)
  generalize l1.take 34 = m1 at *
  generalize l2.take 34 = m2 at *
  have HAw := Lib.hid (fun W => awake_any W)
  obtain ⟨va1, vc1, rfl, _, _, _⟩ := h1.open
  obtain ⟨va2, vc2, rfl, _, _, _⟩ := h2.open
  have H10 := Lib.hid h1
  have H20 := Lib.hid h2
  clear h1 h2 hb2
  go_enter Try.func16, Try.ntmps16
  go_wp2_with fail
  refine (HOf.out _).mono ?_
  rintro e w1 ⟨rfl, hb⟩
  have HG : Hid (Blk 23 w1 w.heap.size #[.int .u8 k, .int .i64 n]) := Lib.hid ((Blk.new _ _ _).below hb)
  have HB : Hid (Below w.heap.size w w1) := Lib.hid (bl1 hb)
  have H1 := Lib.hid (H10.out.below HB.out (Nat.le_refl _))
  have H2 := Lib.hid (H20.out.below HB.out (Nat.le_refl _))
  clear hb H10 H20
  have g0 := HG.out.at0.1
  have g1 := HG.out.at0.2
  go_wp2_with fail
  clear g0 g1
  refine (HLi.out _ _ H1.out).mono ?_
  rintro e w2 ⟨la, lc, rfl, hm1, hb⟩
  have HBn : Hid (Below w1.heap.size w1 w2) := Lib.hid (hb)
  have HG_n := Lib.hid (HG.out.below HBn.out)
  have H1_n := Lib.hid (H1.out.below HBn.out (Nat.le_refl _))
  have H2_n := Lib.hid (H2.out.below HBn.out (Nat.le_refl _))
  have HB_n := Lib.hid (HB.out.trans (HBn.out.mono HB.out.size))
  clear HG H1 H2 HB
  have HG := HG_n
  have H1 := H1_n
  have H2 := H2_n
  have HB := HB_n
  clear HG_n H1_n H2_n HB_n HBn hb
  have HM1 := Lib.hid hm1
  clear hm1
  have g0 := HG.out.at0.1
  have g1 := HG.out.at0.2
  go_wp2_with fail
  clear g0 g1
  refine (HLj.out _ _ H2.out).mono ?_
  rintro e w3 ⟨lb, ld, rfl, hm2, hb⟩
  have HBn : Hid (Below w2.heap.size w2 w3) := Lib.hid (hb)
  have HG_n := Lib.hid (HG.out.below HBn.out)
  have H1_n := Lib.hid (H1.out.below HBn.out (Nat.le_refl _))
  have H2_n := Lib.hid (H2.out.below HBn.out (Nat.le_refl _))
  have HM1_n := Lib.hid (HM1.out.below HBn.out (Nat.le_refl _))
  have HB_n := Lib.hid (HB.out.trans (HBn.out.mono HB.out.size))
  clear HG H1 H2 HM1 HB
  have HG := HG_n
  have H1 := H1_n
  have H2 := H2_n
  have HM1 := HM1_n
  have HB := HB_n
  clear HG_n H1_n H2_n HM1_n HB_n HBn hb
  have HM2 := Lib.hid hm2
  clear hm2
  have g0 := HG.out.at0.1
  have g1 := HG.out.at0.2
  go_wp2_with fail
  clear g0 g1
  refine (HP.out _ _ _ HM1.out HM2.out).mono ?_
  rintro e w4 ⟨rfl, hb⟩
  have HBn : Hid (Below w3.heap.size w3 w4) := Lib.hid (hb)
  have HG_n := Lib.hid (HG.out.below HBn.out)
  have H1_n := Lib.hid (H1.out.below HBn.out (Nat.le_refl _))
  have H2_n := Lib.hid (H2.out.below HBn.out (Nat.le_refl _))
  have HM1_n := Lib.hid (HM1.out.below HBn.out (Nat.le_refl _))
  have HM2_n := Lib.hid (HM2.out.below HBn.out (Nat.le_refl _))
  have HB_n := Lib.hid (HB.out.trans (HBn.out.mono HB.out.size))
  clear HG H1 H2 HM1 HM2 HB
  have HG := HG_n
  have H1 := H1_n
  have H2 := H2_n
  have HM1 := HM1_n
  have HM2 := HM2_n
  have HB := HB_n
  clear HG_n H1_n H2_n HM1_n HM2_n HB_n HBn hb
  have g0 := HG.out.at0.1
  have g1 := HG.out.at0.2
  go_wp2_with fail
  clear HM1 HM2
  clear g0 g1
  refine (HOf.out _).mono ?_
  rintro e w5 ⟨rfl, hb⟩
  have HBn : Hid (Below w4.heap.size w4 w5) := Lib.hid (hb)
  have HG_n := Lib.hid (HG.out.below HBn.out)
  have H1_n := Lib.hid (H1.out.below HBn.out (Nat.le_refl _))
  have H2_n := Lib.hid (H2.out.below HBn.out (Nat.le_refl _))
  have HB_n := Lib.hid (HB.out.trans (HBn.out.mono HB.out.size))
  clear HG H1 H2 HB
  have HG := HG_n
  have H1 := H1_n
  have H2 := H2_n
  have HB := HB_n
  clear HG_n H1_n H2_n HB_n HBn hb
  have g0 := HG.out.at0.1
  have g1 := HG.out.at0.2
  go_wp2_with fail
  clear g0 g1
  refine (HLi.out _ _ H1.out).mono ?_
  rintro e w6 ⟨la, lc, rfl, hm1, hb⟩
  have HBn : Hid (Below w5.heap.size w5 w6) := Lib.hid (hb)
  have HG_n := Lib.hid (HG.out.below HBn.out)
  have H1_n := Lib.hid (H1.out.below HBn.out (Nat.le_refl _))
  have H2_n := Lib.hid (H2.out.below HBn.out (Nat.le_refl _))
  have HB_n := Lib.hid (HB.out.trans (HBn.out.mono HB.out.size))
  clear HG H1 H2 HB
  have HG := HG_n
  have H1 := H1_n
  have H2 := H2_n
  have HB := HB_n
  clear HG_n H1_n H2_n HB_n HBn hb
  have HM1 := Lib.hid hm1
  clear hm1
  have g0 := HG.out.at0.1
  have g1 := HG.out.at0.2
  go_wp2_with fail
  clear g0 g1
  refine (HLj.out _ _ H2.out).mono ?_
  rintro e w7 ⟨lb, ld, rfl, hm2, hb⟩
  have HBn : Hid (Below w6.heap.size w6 w7) := Lib.hid (hb)
  have HG_n := Lib.hid (HG.out.below HBn.out)
  have H1_n := Lib.hid (H1.out.below HBn.out (Nat.le_refl _))
  have H2_n := Lib.hid (H2.out.below HBn.out (Nat.le_refl _))
  have HM1_n := Lib.hid (HM1.out.below HBn.out (Nat.le_refl _))
  have HB_n := Lib.hid (HB.out.trans (HBn.out.mono HB.out.size))
  clear HG H1 H2 HM1 HB
  have HG := HG_n
  have H1 := H1_n
  have H2 := H2_n
  have HM1 := HM1_n
  have HB := HB_n
  clear HG_n H1_n H2_n HM1_n HB_n HBn hb
  have HM2 := Lib.hid hm2
  clear hm2
  have g0 := HG.out.at0.1
  have g1 := HG.out.at0.2
  go_wp2_with fail
  clear g0 g1
  refine (HR.out _ _ _ HM1.out HM2.out).mono ?_
  rintro e w8 ⟨rfl, hb⟩
  have HBn : Hid (Below w7.heap.size w7 w8) := Lib.hid (hb)
  have HG_n := Lib.hid (HG.out.below HBn.out)
  have H1_n := Lib.hid (H1.out.below HBn.out (Nat.le_refl _))
  have H2_n := Lib.hid (H2.out.below HBn.out (Nat.le_refl _))
  have HM1_n := Lib.hid (HM1.out.below HBn.out (Nat.le_refl _))
  have HM2_n := Lib.hid (HM2.out.below HBn.out (Nat.le_refl _))
  have HB_n := Lib.hid (HB.out.trans (HBn.out.mono HB.out.size))
  clear HG H1 H2 HM1 HM2 HB
  have HG := HG_n
  have H1 := H1_n
  have H2 := H2_n
  have HM1 := HM1_n
  have HM2 := HM2_n
  have HB := HB_n
  clear HG_n H1_n H2_n HM1_n HM2_n HB_n HBn hb
  have g0 := HG.out.at0.1
  have g1 := HG.out.at0.2
  go_wp2_with fail
  clear HM1 HM2
  clear g0 g1
  refine (HAw.out _).mono ?_
  rintro e w9 ⟨rfl, hb⟩
  have HBn : Hid (Below w8.heap.size w8 w9) := Lib.hid (hb)
  have HG_n := Lib.hid (HG.out.below HBn.out)
  have H1_n := Lib.hid (H1.out.below HBn.out (Nat.le_refl _))
  have H2_n := Lib.hid (H2.out.below HBn.out (Nat.le_refl _))
  have HB_n := Lib.hid (HB.out.trans (HBn.out.mono HB.out.size))
  clear HG H1 H2 HB
  have HG := HG_n
  have H1 := H1_n
  have H2 := H2_n
  have HB := HB_n
  clear HG_n H1_n H2_n HB_n HBn hb
  have g0 := HG.out.at0.1
  have g1 := HG.out.at0.2
  go_wp2_with fail
  go_ret
  exact ⟨rfl, HB.out⟩

set_option maxRecDepth 100000 in
set_option maxHeartbeats 2000000 in
theorem sums_size (v1 v2 : Value) (l1 l2 : List Int) (w : World) (h1 : Ints w v1 l1) (h2 : Ints w v2 l2) (hw1 : wordB 3 l1 = true) (hw2 : wordB 3 l2 = true) :
    Calls Try.prog 16 #[gV 65 4, v1, v2] w fun e w' => e = .returned (.bool true) ∧ Below w.heap.size w w' := by
  have q1 : l1.length ≤ 30 := by simp [wordB] at hw1; omega
  have q2 : l2.length ≤ 30 := by simp [wordB] at hw2; omega
  have hk3 : kd 3 = 65 := by decide +kernel
  have hn3 : nm 3 = 4 := by decide +kernel
  have HOf := Lib.hid (fun W => Of_any 65 4 W)
  have HLi := Lib.hid (fun v W h => listOk q1 v W h)
  have HLj := Lib.hid (fun v W h => listOk q2 v W h)
  have HR : Hid (∀ v v' W, Ints W v l1 → Ints W v' l2 → Calls Try.prog 52 #[gV 65 4, v, v'] W fun e w' => e = .returned (.tuple #[.slice none 0 0, .int .i64 6]) ∧ Below W.heap.size W w') := Lib.hid (fun v v' W h h' => by
    have h9 := R_size v v' l1 l2 W h h' hw1 hw2
    rw [hk3, hn3] at h9
    exact h9)
  have HP : Hid (∀ v v' W, Ints W v l1 → Ints W v' l2 → Calls Try.prog 53 #[gV 65 4, v, v'] W fun e w' => e = .returned (.tuple #[.slice none 0 0, .int .i64 6]) ∧ Below W.heap.size W w') := Lib.hid (fun v v' W h h' => by
    have h9 := P_size v v' l1 l2 W h h' hw1 hw2
    rw [hk3, hn3] at h9
    exact h9)
  have HAw := Lib.hid (fun W => awake_any W)
  obtain ⟨va1, vc1, rfl, _, _, _⟩ := h1.open
  obtain ⟨va2, vc2, rfl, _, _, _⟩ := h2.open
  have H10 := Lib.hid h1
  have H20 := Lib.hid h2
  clear h1 h2 hw1 hw2 hk3 hn3
  go_enter Try.func16, Try.ntmps16
  go_wp2_with fail
  refine (HOf.out _).mono ?_
  rintro e w1 ⟨rfl, hb⟩
  have HG : Hid (Blk 23 w1 w.heap.size #[.int .u8 65, .int .i64 4]) := Lib.hid ((Blk.new _ _ _).below hb)
  have HB : Hid (Below w.heap.size w w1) := Lib.hid (bl1 hb)
  have H1 := Lib.hid (H10.out.below HB.out (Nat.le_refl _))
  have H2 := Lib.hid (H20.out.below HB.out (Nat.le_refl _))
  clear hb H10 H20
  have g0 := HG.out.at0.1
  have g1 := HG.out.at0.2
  go_wp2_with fail
  clear g0 g1
  refine (HLi.out _ _ H1.out).mono ?_
  rintro e w2 ⟨la, lc, rfl, hm1, hb⟩
  have HBn : Hid (Below w1.heap.size w1 w2) := Lib.hid (hb)
  have HG_n := Lib.hid (HG.out.below HBn.out)
  have H1_n := Lib.hid (H1.out.below HBn.out (Nat.le_refl _))
  have H2_n := Lib.hid (H2.out.below HBn.out (Nat.le_refl _))
  have HB_n := Lib.hid (HB.out.trans (HBn.out.mono HB.out.size))
  clear HG H1 H2 HB
  have HG := HG_n
  have H1 := H1_n
  have H2 := H2_n
  have HB := HB_n
  clear HG_n H1_n H2_n HB_n HBn hb
  have HM1 := Lib.hid hm1
  clear hm1
  have g0 := HG.out.at0.1
  have g1 := HG.out.at0.2
  go_wp2_with fail
  clear g0 g1
  refine (HLj.out _ _ H2.out).mono ?_
  rintro e w3 ⟨lb, ld, rfl, hm2, hb⟩
  have HBn : Hid (Below w2.heap.size w2 w3) := Lib.hid (hb)
  have HG_n := Lib.hid (HG.out.below HBn.out)
  have H1_n := Lib.hid (H1.out.below HBn.out (Nat.le_refl _))
  have H2_n := Lib.hid (H2.out.below HBn.out (Nat.le_refl _))
  have HM1_n := Lib.hid (HM1.out.below HBn.out (Nat.le_refl _))
  have HB_n := Lib.hid (HB.out.trans (HBn.out.mono HB.out.size))
  clear HG H1 H2 HM1 HB
  have HG := HG_n
  have H1 := H1_n
  have H2 := H2_n
  have HM1 := HM1_n
  have HB := HB_n
  clear HG_n H1_n H2_n HM1_n HB_n HBn hb
  have HM2 := Lib.hid hm2
  clear hm2
  have g0 := HG.out.at0.1
  have g1 := HG.out.at0.2
  go_wp2_with fail
  clear g0 g1
  refine (HP.out _ _ _ HM1.out HM2.out).mono ?_
  rintro e w4 ⟨rfl, hb⟩
  have HBn : Hid (Below w3.heap.size w3 w4) := Lib.hid (hb)
  have HG_n := Lib.hid (HG.out.below HBn.out)
  have H1_n := Lib.hid (H1.out.below HBn.out (Nat.le_refl _))
  have H2_n := Lib.hid (H2.out.below HBn.out (Nat.le_refl _))
  have HM1_n := Lib.hid (HM1.out.below HBn.out (Nat.le_refl _))
  have HM2_n := Lib.hid (HM2.out.below HBn.out (Nat.le_refl _))
  have HB_n := Lib.hid (HB.out.trans (HBn.out.mono HB.out.size))
  clear HG H1 H2 HM1 HM2 HB
  have HG := HG_n
  have H1 := H1_n
  have H2 := H2_n
  have HM1 := HM1_n
  have HM2 := HM2_n
  have HB := HB_n
  clear HG_n H1_n H2_n HM1_n HM2_n HB_n HBn hb
  have g0 := HG.out.at0.1
  have g1 := HG.out.at0.2
  go_wp2_with fail
  clear HM1 HM2
  clear g0 g1
  refine (HOf.out _).mono ?_
  rintro e w5 ⟨rfl, hb⟩
  have HBn : Hid (Below w4.heap.size w4 w5) := Lib.hid (hb)
  have HG_n := Lib.hid (HG.out.below HBn.out)
  have H1_n := Lib.hid (H1.out.below HBn.out (Nat.le_refl _))
  have H2_n := Lib.hid (H2.out.below HBn.out (Nat.le_refl _))
  have HB_n := Lib.hid (HB.out.trans (HBn.out.mono HB.out.size))
  clear HG H1 H2 HB
  have HG := HG_n
  have H1 := H1_n
  have H2 := H2_n
  have HB := HB_n
  clear HG_n H1_n H2_n HB_n HBn hb
  have g0 := HG.out.at0.1
  have g1 := HG.out.at0.2
  go_wp2_with fail
  clear g0 g1
  refine (HLi.out _ _ H1.out).mono ?_
  rintro e w6 ⟨la, lc, rfl, hm1, hb⟩
  have HBn : Hid (Below w5.heap.size w5 w6) := Lib.hid (hb)
  have HG_n := Lib.hid (HG.out.below HBn.out)
  have H1_n := Lib.hid (H1.out.below HBn.out (Nat.le_refl _))
  have H2_n := Lib.hid (H2.out.below HBn.out (Nat.le_refl _))
  have HB_n := Lib.hid (HB.out.trans (HBn.out.mono HB.out.size))
  clear HG H1 H2 HB
  have HG := HG_n
  have H1 := H1_n
  have H2 := H2_n
  have HB := HB_n
  clear HG_n H1_n H2_n HB_n HBn hb
  have HM1 := Lib.hid hm1
  clear hm1
  have g0 := HG.out.at0.1
  have g1 := HG.out.at0.2
  go_wp2_with fail
  clear g0 g1
  refine (HLj.out _ _ H2.out).mono ?_
  rintro e w7 ⟨lb, ld, rfl, hm2, hb⟩
  have HBn : Hid (Below w6.heap.size w6 w7) := Lib.hid (hb)
  have HG_n := Lib.hid (HG.out.below HBn.out)
  have H1_n := Lib.hid (H1.out.below HBn.out (Nat.le_refl _))
  have H2_n := Lib.hid (H2.out.below HBn.out (Nat.le_refl _))
  have HM1_n := Lib.hid (HM1.out.below HBn.out (Nat.le_refl _))
  have HB_n := Lib.hid (HB.out.trans (HBn.out.mono HB.out.size))
  clear HG H1 H2 HM1 HB
  have HG := HG_n
  have H1 := H1_n
  have H2 := H2_n
  have HM1 := HM1_n
  have HB := HB_n
  clear HG_n H1_n H2_n HM1_n HB_n HBn hb
  have HM2 := Lib.hid hm2
  clear hm2
  have g0 := HG.out.at0.1
  have g1 := HG.out.at0.2
  go_wp2_with fail
  clear g0 g1
  refine (HR.out _ _ _ HM1.out HM2.out).mono ?_
  rintro e w8 ⟨rfl, hb⟩
  have HBn : Hid (Below w7.heap.size w7 w8) := Lib.hid (hb)
  have HG_n := Lib.hid (HG.out.below HBn.out)
  have H1_n := Lib.hid (H1.out.below HBn.out (Nat.le_refl _))
  have H2_n := Lib.hid (H2.out.below HBn.out (Nat.le_refl _))
  have HM1_n := Lib.hid (HM1.out.below HBn.out (Nat.le_refl _))
  have HM2_n := Lib.hid (HM2.out.below HBn.out (Nat.le_refl _))
  have HB_n := Lib.hid (HB.out.trans (HBn.out.mono HB.out.size))
  clear HG H1 H2 HM1 HM2 HB
  have HG := HG_n
  have H1 := H1_n
  have H2 := H2_n
  have HM1 := HM1_n
  have HM2 := HM2_n
  have HB := HB_n
  clear HG_n H1_n H2_n HM1_n HM2_n HB_n HBn hb
  have g0 := HG.out.at0.1
  have g1 := HG.out.at0.2
  go_wp2_with fail
  clear HM1 HM2
  clear g0 g1
  refine (HAw.out _).mono ?_
  rintro e w9 ⟨rfl, hb⟩
  have HBn : Hid (Below w8.heap.size w8 w9) := Lib.hid (hb)
  have HG_n := Lib.hid (HG.out.below HBn.out)
  have H1_n := Lib.hid (H1.out.below HBn.out (Nat.le_refl _))
  have H2_n := Lib.hid (H2.out.below HBn.out (Nat.le_refl _))
  have HB_n := Lib.hid (HB.out.trans (HBn.out.mono HB.out.size))
  clear HG H1 H2 HB
  have HG := HG_n
  have H1 := H1_n
  have H2 := H2_n
  have HB := HB_n
  clear HG_n H1_n H2_n HB_n HBn hb
  have g0 := HG.out.at0.1
  have g1 := HG.out.at0.2
  go_wp2_with fail
  go_ret
  exact ⟨rfl, HB.out⟩

set_option maxRecDepth 100000 in
set_option maxHeartbeats 4000000 in
theorem sums_yes (g : Nat) (hg : g < 17) (h3 : g ≠ 3) (v1 v2 : Value) (l1 l2 : List Int) (w : World) (h1 : Ints w v1 l1) (h2 : Ints w v2 l2) (hw1 : wordB g l1 = true) (hw2 : wordB g l2 = true) (hlo : loB g (folI g l1) (folI g l2) = true) :
    Calls Try.prog 16 #[gV (kd g) (nm g), v1, v2] w fun e w' => e = .returned (.bool true) ∧ Below w.heap.size w w' := by
  have q1 : l1.length ≤ 30 := by simp [wordB] at hw1; omega
  have q2 : l2.length ≤ 30 := by simp [wordB] at hw2; omega
  have hE := tE hg
  have hX := folI_lt hg hw1
  have hY := folI_lt hg hw2
  have hk4 := (tg hg).2.2.2.1
  have HOf := Lib.hid (fun W => Of_any (kd g) (nm g) W)
  have HLi := Lib.hid (fun v W h => listOk q1 v W h)
  have HLj := Lib.hid (fun v W h => listOk q2 v W h)
  have HFi := Lib.hid (fun v W h => fine_any g hg v [l1, l2] W h (by simp))
  rw [show [l1, l2].all (wordB g) = true by simp [hw1, hw2]] at HFi
  have HAw := Lib.hid (fun W => awake_any W)
  have HMi := Lib.hid (fun W => Mirrors_any g hg W)
  have HR := Lib.hid (fun v v' W h h' => R_ok g hg h3 v v' l1 l2 W h h' hw1 hw2)
  have HPp := Lib.hid (fun v v' W h h' => P_ok g hg h3 v v' l1 l2 W h h' hw1 hw2)
  have HN1 := Lib.hid (fun v W h => Normal_ok g hg v l1 W h hw1)
  have HN2 := Lib.hid (fun v W h => Normal_ok g hg v l2 W h hw2)
  have HBl := Lib.hid (fun v v' W h h' => Below_ok g hg v v' l1 l2 W h h' hw1 hw2)
  have HFa := Lib.hid (fun v W h => Falls_ok g hg v l2 W h hw2)
  have HSO := Lib.hid (sumsOk hg h3 hX hY)
  have HTi : Hid (∀ (s : Nat), s < kM g → ∀ v v' W, Ints W v l1 → Ints W v' [(s : Int)] → Calls Try.prog 32 #[gV (kd g) (nm g), v, v'] W fun e w' => ∃ a c, e = .returned (.tuple #[.slice a (nats (wd g (rt g (folI g l1) s))).length c, .int .i64 0]) ∧ Ints w' (.slice a (nats (wd g (rt g (folI g l1) s))).length c) (nats (wd g (rt g (folI g l1) s))) ∧ Below W.heap.size W w') := Lib.hid (fun s hs v v' W h h' => by
    have hws : wordB g [(s : Int)] = true := by simp [wordB, letB, mirB]; omega
    have h9 := Times_ok g hg v v' l1 [(s : Int)] W h h' hw1 hws
    have e : (nats (wd g (rt g (folI g l1) s))).length = ln g (rt g (folI g l1) s) := by simp [nats, ln]
    rw [e]
    exact h9)
  have HPt : Hid (∀ (s : Nat), s < kM g → ln g (rt g (folI g l2) s) < ln g (folI g l2) → ∀ v v' W, Ints W v (nats (wd g (rt g (folI g l1) s))) → Ints W v' l2 → Calls Try.prog 53 #[gV (kd g) (nm g), v, v'] W fun e w' => ∃ a c, e = .returned (.tuple #[.slice a (dP g (folI g l1) (folI g l2)).length c, .int .i64 0]) ∧ Ints w' (.slice a (dP g (folI g l1) (folI g l2)).length c) (dP g (folI g l1) (folI g l2)) ∧ Below W.heap.size W w') := Lib.hid (fun s hs hf v v' W h h' => by
    have hz := (tb hg hX hs).2.1
    have h9 := P_ok g hg h3 v v' (nats (wd g (rt g (folI g l1) s))) l2 W h h' (word_wd hg hz) hw2
    rw [folI_wd hg hz, HSO.out.turn s hs hf] at h9
    exact h9)
  have hF : flS g (folI g l2) (kM g) < 65536 := Nat.lt_of_lt_of_le (flS_lt _ _ _) (Nat.le_trans (Nat.pow_le_pow_right (by omega) (show kM g ≤ 16 by omega)) (by omega))
  have HFb := Lib.hid (fun s => falls_bit g (folI g l2) s (kM g))
  have hlX := (tx hg hX).2.1
  have hlY := (tx hg hY).2.1
  have HbR := Lib.hid (dR_bd hg h3 hX hY)
  have hR13 := dR_len g (folI g l1) (folI g l2)
  have hP4 := dP_len g (folI g l1) (folI g l2)

  have HSp := Lib.hid (HSO.out.p)
  have hnp : 0 < (dP g (folI g l1) (folI g l2)).length := by have h9 := HSO.out.p; rw [hlo] at h9; simpa using h9.symm
  have hnr : 0 < (dR g (folI g l1) (folI g l2)).length := by have h9 := HSO.out.r; rw [hlo] at h9; simpa using h9.symm
  have hle := HSO.out.le hlo
  have hone := HSO.out.one hlo
  have hdeg := HSO.out.deg hlo
  have HPos := Lib.hid (HSO.out.pos hlo)
  have HPlain := Lib.hid (HSO.out.plain hlo)
  have hrlen := HSO.out.rl hlo
  have HSum := Lib.hid (HSO.out.sum hlo)
  rw [hlo] at HBl
  clear HSp HSO hlo
  generalize folI g l1 = X at *
  generalize folI g l2 = Y at *
  generalize dR g X Y = RL at *
  generalize dP g X Y = PL_ at *
  have HEq := Lib.hid (fun v v' W h h' => equalT PL_ v v' W h h')
  generalize hFF : flS g Y (kM g) = FF at *
  clear hFF
  obtain ⟨va1, vc1, rfl, _, _, _⟩ := h1.open
  obtain ⟨va2, vc2, rfl, _, _, _⟩ := h2.open
  have H10 := Lib.hid h1
  have H20 := Lib.hid h2
  clear h1 h2 hw1 hw2
  go_enter Try.func16, Try.ntmps16
  go_wp2_with fail
  refine (HOf.out _).mono ?_
  rintro e w1 ⟨rfl, hb⟩
  have HG : Hid (Blk 23 w1 w.heap.size #[.int .u8 (kd g), .int .i64 (nm g)]) := Lib.hid ((Blk.new _ _ _).below hb)
  have HB : Hid (Below w.heap.size w w1) := Lib.hid (bl1 hb)
  have H1 := Lib.hid (H10.out.below HB.out (Nat.le_refl _))
  have H2 := Lib.hid (H20.out.below HB.out (Nat.le_refl _))
  clear hb H10 H20
  have g0 := HG.out.at0.1
  have g1 := HG.out.at0.2
  go_wp2_with fail
  clear g0 g1
  refine (HLi.out _ _ H1.out).mono ?_
  rintro e w2 ⟨la, lc, rfl, hm1, hb⟩
  have HBn : Hid (Below w1.heap.size w1 w2) := Lib.hid (hb)
  have HG_n := Lib.hid (HG.out.below HBn.out)
  have H1_n := Lib.hid (H1.out.below HBn.out (Nat.le_refl _))
  have H2_n := Lib.hid (H2.out.below HBn.out (Nat.le_refl _))
  have HB_n := Lib.hid (HB.out.trans (HBn.out.mono HB.out.size))
  clear HG H1 H2 HB
  have HG := HG_n
  have H1 := H1_n
  have H2 := H2_n
  have HB := HB_n
  clear HG_n H1_n H2_n HB_n HBn hb
  have HM1 := Lib.hid hm1
  clear hm1
  have g0 := HG.out.at0.1
  have g1 := HG.out.at0.2
  go_wp2_with fail
  clear g0 g1
  refine (HLj.out _ _ H2.out).mono ?_
  rintro e w3 ⟨lb, ld, rfl, hm2, hb⟩
  have HBn : Hid (Below w2.heap.size w2 w3) := Lib.hid (hb)
  have HG_n := Lib.hid (HG.out.below HBn.out)
  have H1_n := Lib.hid (H1.out.below HBn.out (Nat.le_refl _))
  have H2_n := Lib.hid (H2.out.below HBn.out (Nat.le_refl _))
  have HM1_n := Lib.hid (HM1.out.below HBn.out (Nat.le_refl _))
  have HB_n := Lib.hid (HB.out.trans (HBn.out.mono HB.out.size))
  clear HG H1 H2 HM1 HB
  have HG := HG_n
  have H1 := H1_n
  have H2 := H2_n
  have HM1 := HM1_n
  have HB := HB_n
  clear HG_n H1_n H2_n HM1_n HB_n HBn hb
  have HM2 := Lib.hid hm2
  clear hm2
  have g0 := HG.out.at0.1
  have g1 := HG.out.at0.2
  go_wp2_with fail
  clear g0 g1
  refine (HPp.out _ _ _ HM1.out HM2.out).mono ?_
  rintro e w4 ⟨pa, pc, rfl, hpl, hb⟩
  have HBn : Hid (Below w3.heap.size w3 w4) := Lib.hid (hb)
  have HG_n := Lib.hid (HG.out.below HBn.out)
  have H1_n := Lib.hid (H1.out.below HBn.out (Nat.le_refl _))
  have H2_n := Lib.hid (H2.out.below HBn.out (Nat.le_refl _))
  have HM1_n := Lib.hid (HM1.out.below HBn.out (Nat.le_refl _))
  have HM2_n := Lib.hid (HM2.out.below HBn.out (Nat.le_refl _))
  have HB_n := Lib.hid (HB.out.trans (HBn.out.mono HB.out.size))
  clear HG H1 H2 HM1 HM2 HB
  have HG := HG_n
  have H1 := H1_n
  have H2 := H2_n
  have HM1 := HM1_n
  have HM2 := HM2_n
  have HB := HB_n
  clear HG_n H1_n H2_n HM1_n HM2_n HB_n HBn hb
  have HPL := Lib.hid hpl
  clear hpl
  have g0 := HG.out.at0.1
  have g1 := HG.out.at0.2
  go_wp2_with fail
  clear HM1 HM2
  clear g0 g1
  refine (HOf.out _).mono ?_
  rintro e w5 ⟨rfl, hb⟩
  have HBn : Hid (Below w4.heap.size w4 w5) := Lib.hid (hb)
  have HG_n := Lib.hid (HG.out.below HBn.out)
  have H1_n := Lib.hid (H1.out.below HBn.out (Nat.le_refl _))
  have H2_n := Lib.hid (H2.out.below HBn.out (Nat.le_refl _))
  have HPL_n := Lib.hid (HPL.out.below HBn.out (Nat.le_refl _))
  have HB_n := Lib.hid (HB.out.trans (HBn.out.mono HB.out.size))
  clear HG H1 H2 HPL HB
  have HG := HG_n
  have H1 := H1_n
  have H2 := H2_n
  have HPL := HPL_n
  have HB := HB_n
  clear HG_n H1_n H2_n HPL_n HB_n HBn hb
  have g0 := HG.out.at0.1
  have g1 := HG.out.at0.2
  go_wp2_with fail
  clear g0 g1
  refine (HLi.out _ _ H1.out).mono ?_
  rintro e w6 ⟨la, lc, rfl, hm1, hb⟩
  have HBn : Hid (Below w5.heap.size w5 w6) := Lib.hid (hb)
  have HG_n := Lib.hid (HG.out.below HBn.out)
  have H1_n := Lib.hid (H1.out.below HBn.out (Nat.le_refl _))
  have H2_n := Lib.hid (H2.out.below HBn.out (Nat.le_refl _))
  have HPL_n := Lib.hid (HPL.out.below HBn.out (Nat.le_refl _))
  have HB_n := Lib.hid (HB.out.trans (HBn.out.mono HB.out.size))
  clear HG H1 H2 HPL HB
  have HG := HG_n
  have H1 := H1_n
  have H2 := H2_n
  have HPL := HPL_n
  have HB := HB_n
  clear HG_n H1_n H2_n HPL_n HB_n HBn hb
  have HM1 := Lib.hid hm1
  clear hm1
  have g0 := HG.out.at0.1
  have g1 := HG.out.at0.2
  go_wp2_with fail
  clear g0 g1
  refine (HLj.out _ _ H2.out).mono ?_
  rintro e w7 ⟨lb, ld, rfl, hm2, hb⟩
  have HBn : Hid (Below w6.heap.size w6 w7) := Lib.hid (hb)
  have HG_n := Lib.hid (HG.out.below HBn.out)
  have H1_n := Lib.hid (H1.out.below HBn.out (Nat.le_refl _))
  have H2_n := Lib.hid (H2.out.below HBn.out (Nat.le_refl _))
  have HPL_n := Lib.hid (HPL.out.below HBn.out (Nat.le_refl _))
  have HM1_n := Lib.hid (HM1.out.below HBn.out (Nat.le_refl _))
  have HB_n := Lib.hid (HB.out.trans (HBn.out.mono HB.out.size))
  clear HG H1 H2 HPL HM1 HB
  have HG := HG_n
  have H1 := H1_n
  have H2 := H2_n
  have HPL := HPL_n
  have HM1 := HM1_n
  have HB := HB_n
  clear HG_n H1_n H2_n HPL_n HM1_n HB_n HBn hb
  have HM2 := Lib.hid hm2
  clear hm2
  have g0 := HG.out.at0.1
  have g1 := HG.out.at0.2
  go_wp2_with fail
  clear g0 g1
  refine (HR.out _ _ _ HM1.out HM2.out).mono ?_
  rintro e w8 ⟨ra, rc, rfl, hrl, hb⟩
  have HBn : Hid (Below w7.heap.size w7 w8) := Lib.hid (hb)
  have HG_n := Lib.hid (HG.out.below HBn.out)
  have H1_n := Lib.hid (H1.out.below HBn.out (Nat.le_refl _))
  have H2_n := Lib.hid (H2.out.below HBn.out (Nat.le_refl _))
  have HPL_n := Lib.hid (HPL.out.below HBn.out (Nat.le_refl _))
  have HM1_n := Lib.hid (HM1.out.below HBn.out (Nat.le_refl _))
  have HM2_n := Lib.hid (HM2.out.below HBn.out (Nat.le_refl _))
  have HB_n := Lib.hid (HB.out.trans (HBn.out.mono HB.out.size))
  clear HG H1 H2 HPL HM1 HM2 HB
  have HG := HG_n
  have H1 := H1_n
  have H2 := H2_n
  have HPL := HPL_n
  have HM1 := HM1_n
  have HM2 := HM2_n
  have HB := HB_n
  clear HG_n H1_n H2_n HPL_n HM1_n HM2_n HB_n HBn hb
  have HRL := Lib.hid hrl
  clear hrl
  have g0 := HG.out.at0.1
  have g1 := HG.out.at0.2
  go_wp2_with fail
  clear HM1 HM2
  clear g0 g1
  refine (HFi.out _ _ (rows2 (Blk.new _ _ _) (H1.out.alloc _) (H2.out.alloc _))).mono ?_
  rintro e w9 ⟨rfl, hb⟩
  have HBn : Hid (Below w8.heap.size w8 w9) := Lib.hid (bl1 hb)
  have HG_n := Lib.hid (HG.out.below HBn.out)
  have H1_n := Lib.hid (H1.out.below HBn.out (Nat.le_refl _))
  have H2_n := Lib.hid (H2.out.below HBn.out (Nat.le_refl _))
  have HPL_n := Lib.hid (HPL.out.below HBn.out (Nat.le_refl _))
  have HRL_n := Lib.hid (HRL.out.below HBn.out (Nat.le_refl _))
  have HB_n := Lib.hid (HB.out.trans (HBn.out.mono HB.out.size))
  clear HG H1 H2 HPL HRL HB
  have HG := HG_n
  have H1 := H1_n
  have H2 := H2_n
  have HPL := HPL_n
  have HRL := HRL_n
  have HB := HB_n
  clear HG_n H1_n H2_n HPL_n HRL_n HB_n HBn hb
  have g0 := HG.out.at0.1
  have g1 := HG.out.at0.2
  go_wp2_with fail
  clear g0 g1
  refine (HOf.out _).mono ?_
  rintro e w10 ⟨rfl, hb⟩
  have HBn : Hid (Below w9.heap.size w9 w10) := Lib.hid (hb)
  have HG_n := Lib.hid (HG.out.below HBn.out)
  have H1_n := Lib.hid (H1.out.below HBn.out (Nat.le_refl _))
  have H2_n := Lib.hid (H2.out.below HBn.out (Nat.le_refl _))
  have HPL_n := Lib.hid (HPL.out.below HBn.out (Nat.le_refl _))
  have HRL_n := Lib.hid (HRL.out.below HBn.out (Nat.le_refl _))
  have HB_n := Lib.hid (HB.out.trans (HBn.out.mono HB.out.size))
  clear HG H1 H2 HPL HRL HB
  have HG := HG_n
  have H1 := H1_n
  have H2 := H2_n
  have HPL := HPL_n
  have HRL := HRL_n
  have HB := HB_n
  clear HG_n H1_n H2_n HPL_n HRL_n HB_n HBn hb
  have g0 := HG.out.at0.1
  have g1 := HG.out.at0.2
  go_wp2_with fail
  clear g0 g1
  refine (HLi.out _ _ H1.out).mono ?_
  rintro e w11 ⟨la, lc, rfl, hm1, hb⟩
  have HBn : Hid (Below w10.heap.size w10 w11) := Lib.hid (hb)
  have HG_n := Lib.hid (HG.out.below HBn.out)
  have H1_n := Lib.hid (H1.out.below HBn.out (Nat.le_refl _))
  have H2_n := Lib.hid (H2.out.below HBn.out (Nat.le_refl _))
  have HPL_n := Lib.hid (HPL.out.below HBn.out (Nat.le_refl _))
  have HRL_n := Lib.hid (HRL.out.below HBn.out (Nat.le_refl _))
  have HB_n := Lib.hid (HB.out.trans (HBn.out.mono HB.out.size))
  clear HG H1 H2 HPL HRL HB
  have HG := HG_n
  have H1 := H1_n
  have H2 := H2_n
  have HPL := HPL_n
  have HRL := HRL_n
  have HB := HB_n
  clear HG_n H1_n H2_n HPL_n HRL_n HB_n HBn hb
  have HM1 := Lib.hid hm1
  clear hm1
  have g0 := HG.out.at0.1
  have g1 := HG.out.at0.2
  go_wp2_with fail
  clear g0 g1
  refine (HN1.out _ _ HM1.out).mono ?_
  rintro e w12 ⟨xa, xc, rfl, _, hb⟩
  have HBn : Hid (Below w11.heap.size w11 w12) := Lib.hid (hb)
  have HG_n := Lib.hid (HG.out.below HBn.out)
  have H1_n := Lib.hid (H1.out.below HBn.out (Nat.le_refl _))
  have H2_n := Lib.hid (H2.out.below HBn.out (Nat.le_refl _))
  have HPL_n := Lib.hid (HPL.out.below HBn.out (Nat.le_refl _))
  have HRL_n := Lib.hid (HRL.out.below HBn.out (Nat.le_refl _))
  have HM1_n := Lib.hid (HM1.out.below HBn.out (Nat.le_refl _))
  have HB_n := Lib.hid (HB.out.trans (HBn.out.mono HB.out.size))
  clear HG H1 H2 HPL HRL HM1 HB
  have HG := HG_n
  have H1 := H1_n
  have H2 := H2_n
  have HPL := HPL_n
  have HRL := HRL_n
  have HM1 := HM1_n
  have HB := HB_n
  clear HG_n H1_n H2_n HPL_n HRL_n HM1_n HB_n HBn hb
  have g0 := HG.out.at0.1
  have g1 := HG.out.at0.2
  go_wp2_with fail
  clear HM1
  clear g0 g1
  refine (HOf.out _).mono ?_
  rintro e w13 ⟨rfl, hb⟩
  have HBn : Hid (Below w12.heap.size w12 w13) := Lib.hid (hb)
  have HG_n := Lib.hid (HG.out.below HBn.out)
  have H1_n := Lib.hid (H1.out.below HBn.out (Nat.le_refl _))
  have H2_n := Lib.hid (H2.out.below HBn.out (Nat.le_refl _))
  have HPL_n := Lib.hid (HPL.out.below HBn.out (Nat.le_refl _))
  have HRL_n := Lib.hid (HRL.out.below HBn.out (Nat.le_refl _))
  have HB_n := Lib.hid (HB.out.trans (HBn.out.mono HB.out.size))
  clear HG H1 H2 HPL HRL HB
  have HG := HG_n
  have H1 := H1_n
  have H2 := H2_n
  have HPL := HPL_n
  have HRL := HRL_n
  have HB := HB_n
  clear HG_n H1_n H2_n HPL_n HRL_n HB_n HBn hb
  have g0 := HG.out.at0.1
  have g1 := HG.out.at0.2
  go_wp2_with fail
  clear g0 g1
  refine (HLj.out _ _ H2.out).mono ?_
  rintro e w14 ⟨lb, ld, rfl, hm2, hb⟩
  have HBn : Hid (Below w13.heap.size w13 w14) := Lib.hid (hb)
  have HG_n := Lib.hid (HG.out.below HBn.out)
  have H1_n := Lib.hid (H1.out.below HBn.out (Nat.le_refl _))
  have H2_n := Lib.hid (H2.out.below HBn.out (Nat.le_refl _))
  have HPL_n := Lib.hid (HPL.out.below HBn.out (Nat.le_refl _))
  have HRL_n := Lib.hid (HRL.out.below HBn.out (Nat.le_refl _))
  have HB_n := Lib.hid (HB.out.trans (HBn.out.mono HB.out.size))
  clear HG H1 H2 HPL HRL HB
  have HG := HG_n
  have H1 := H1_n
  have H2 := H2_n
  have HPL := HPL_n
  have HRL := HRL_n
  have HB := HB_n
  clear HG_n H1_n H2_n HPL_n HRL_n HB_n HBn hb
  have HM2 := Lib.hid hm2
  clear hm2
  have g0 := HG.out.at0.1
  have g1 := HG.out.at0.2
  go_wp2_with fail
  clear g0 g1
  refine (HN2.out _ _ HM2.out).mono ?_
  rintro e w15 ⟨ya, yc, rfl, _, hb⟩
  have HBn : Hid (Below w14.heap.size w14 w15) := Lib.hid (hb)
  have HG_n := Lib.hid (HG.out.below HBn.out)
  have H1_n := Lib.hid (H1.out.below HBn.out (Nat.le_refl _))
  have H2_n := Lib.hid (H2.out.below HBn.out (Nat.le_refl _))
  have HPL_n := Lib.hid (HPL.out.below HBn.out (Nat.le_refl _))
  have HRL_n := Lib.hid (HRL.out.below HBn.out (Nat.le_refl _))
  have HM2_n := Lib.hid (HM2.out.below HBn.out (Nat.le_refl _))
  have HB_n := Lib.hid (HB.out.trans (HBn.out.mono HB.out.size))
  clear HG H1 H2 HPL HRL HM2 HB
  have HG := HG_n
  have H1 := H1_n
  have H2 := H2_n
  have HPL := HPL_n
  have HRL := HRL_n
  have HM2 := HM2_n
  have HB := HB_n
  clear HG_n H1_n H2_n HPL_n HRL_n HM2_n HB_n HBn hb
  have g0 := HG.out.at0.1
  have g1 := HG.out.at0.2
  go_wp2_with fail
  clear HM2
  clear g0 g1
  refine (HOf.out _).mono ?_
  rintro e w16 ⟨rfl, hb⟩
  have HBn : Hid (Below w15.heap.size w15 w16) := Lib.hid (hb)
  have HG_n := Lib.hid (HG.out.below HBn.out)
  have H1_n := Lib.hid (H1.out.below HBn.out (Nat.le_refl _))
  have H2_n := Lib.hid (H2.out.below HBn.out (Nat.le_refl _))
  have HPL_n := Lib.hid (HPL.out.below HBn.out (Nat.le_refl _))
  have HRL_n := Lib.hid (HRL.out.below HBn.out (Nat.le_refl _))
  have HB_n := Lib.hid (HB.out.trans (HBn.out.mono HB.out.size))
  clear HG H1 H2 HPL HRL HB
  have HG := HG_n
  have H1 := H1_n
  have H2 := H2_n
  have HPL := HPL_n
  have HRL := HRL_n
  have HB := HB_n
  clear HG_n H1_n H2_n HPL_n HRL_n HB_n HBn hb
  have g0 := HG.out.at0.1
  have g1 := HG.out.at0.2
  go_wp2_with fail
  clear g0 g1
  refine (HLi.out _ _ H1.out).mono ?_
  rintro e w17 ⟨la, lc, rfl, hm1, hb⟩
  have HBn : Hid (Below w16.heap.size w16 w17) := Lib.hid (hb)
  have HG_n := Lib.hid (HG.out.below HBn.out)
  have H1_n := Lib.hid (H1.out.below HBn.out (Nat.le_refl _))
  have H2_n := Lib.hid (H2.out.below HBn.out (Nat.le_refl _))
  have HPL_n := Lib.hid (HPL.out.below HBn.out (Nat.le_refl _))
  have HRL_n := Lib.hid (HRL.out.below HBn.out (Nat.le_refl _))
  have HB_n := Lib.hid (HB.out.trans (HBn.out.mono HB.out.size))
  clear HG H1 H2 HPL HRL HB
  have HG := HG_n
  have H1 := H1_n
  have H2 := H2_n
  have HPL := HPL_n
  have HRL := HRL_n
  have HB := HB_n
  clear HG_n H1_n H2_n HPL_n HRL_n HB_n HBn hb
  have HM1 := Lib.hid hm1
  clear hm1
  have g0 := HG.out.at0.1
  have g1 := HG.out.at0.2
  go_wp2_with fail
  clear g0 g1
  refine (HLj.out _ _ H2.out).mono ?_
  rintro e w18 ⟨lb, ld, rfl, hm2, hb⟩
  have HBn : Hid (Below w17.heap.size w17 w18) := Lib.hid (hb)
  have HG_n := Lib.hid (HG.out.below HBn.out)
  have H1_n := Lib.hid (H1.out.below HBn.out (Nat.le_refl _))
  have H2_n := Lib.hid (H2.out.below HBn.out (Nat.le_refl _))
  have HPL_n := Lib.hid (HPL.out.below HBn.out (Nat.le_refl _))
  have HRL_n := Lib.hid (HRL.out.below HBn.out (Nat.le_refl _))
  have HM1_n := Lib.hid (HM1.out.below HBn.out (Nat.le_refl _))
  have HB_n := Lib.hid (HB.out.trans (HBn.out.mono HB.out.size))
  clear HG H1 H2 HPL HRL HM1 HB
  have HG := HG_n
  have H1 := H1_n
  have H2 := H2_n
  have HPL := HPL_n
  have HRL := HRL_n
  have HM1 := HM1_n
  have HB := HB_n
  clear HG_n H1_n H2_n HPL_n HRL_n HM1_n HB_n HBn hb
  have HM2 := Lib.hid hm2
  clear hm2
  have g0 := HG.out.at0.1
  have g1 := HG.out.at0.2
  go_wp2_with fail
  clear g0 g1
  refine (HBl.out _ _ _ HM1.out HM2.out).mono ?_
  rintro e w19 ⟨rfl, hb⟩
  have HBn : Hid (Below w18.heap.size w18 w19) := Lib.hid (hb)
  have HG_n := Lib.hid (HG.out.below HBn.out)
  have H1_n := Lib.hid (H1.out.below HBn.out (Nat.le_refl _))
  have H2_n := Lib.hid (H2.out.below HBn.out (Nat.le_refl _))
  have HPL_n := Lib.hid (HPL.out.below HBn.out (Nat.le_refl _))
  have HRL_n := Lib.hid (HRL.out.below HBn.out (Nat.le_refl _))
  have HM1_n := Lib.hid (HM1.out.below HBn.out (Nat.le_refl _))
  have HM2_n := Lib.hid (HM2.out.below HBn.out (Nat.le_refl _))
  have HB_n := Lib.hid (HB.out.trans (HBn.out.mono HB.out.size))
  clear HG H1 H2 HPL HRL HM1 HM2 HB
  have HG := HG_n
  have H1 := H1_n
  have H2 := H2_n
  have HPL := HPL_n
  have HRL := HRL_n
  have HM1 := HM1_n
  have HM2 := HM2_n
  have HB := HB_n
  clear HG_n H1_n H2_n HPL_n HRL_n HM1_n HM2_n HB_n HBn hb
  have g0 := HG.out.at0.1
  have g1 := HG.out.at0.2
  go_wp2_with fail
  clear HM1 HM2
  clear g0 g1
  refine (HOf.out _).mono ?_
  rintro e w20 ⟨rfl, hb⟩
  have HBn : Hid (Below w19.heap.size w19 w20) := Lib.hid (hb)
  have HG_n := Lib.hid (HG.out.below HBn.out)
  have H1_n := Lib.hid (H1.out.below HBn.out (Nat.le_refl _))
  have H2_n := Lib.hid (H2.out.below HBn.out (Nat.le_refl _))
  have HPL_n := Lib.hid (HPL.out.below HBn.out (Nat.le_refl _))
  have HRL_n := Lib.hid (HRL.out.below HBn.out (Nat.le_refl _))
  have HB_n := Lib.hid (HB.out.trans (HBn.out.mono HB.out.size))
  clear HG H1 H2 HPL HRL HB
  have HG := HG_n
  have H1 := H1_n
  have H2 := H2_n
  have HPL := HPL_n
  have HRL := HRL_n
  have HB := HB_n
  clear HG_n H1_n H2_n HPL_n HRL_n HB_n HBn hb
  have g0 := HG.out.at0.1
  have g1 := HG.out.at0.2
  go_wp2_with fail
  clear g0 g1
  refine (HLj.out _ _ H2.out).mono ?_
  rintro e w21 ⟨lb2, ld2, rfl, hm2, hb⟩
  have HBn : Hid (Below w20.heap.size w20 w21) := Lib.hid (hb)
  have HG_n := Lib.hid (HG.out.below HBn.out)
  have H1_n := Lib.hid (H1.out.below HBn.out (Nat.le_refl _))
  have H2_n := Lib.hid (H2.out.below HBn.out (Nat.le_refl _))
  have HPL_n := Lib.hid (HPL.out.below HBn.out (Nat.le_refl _))
  have HRL_n := Lib.hid (HRL.out.below HBn.out (Nat.le_refl _))
  have HB_n := Lib.hid (HB.out.trans (HBn.out.mono HB.out.size))
  clear HG H1 H2 HPL HRL HB
  have HG := HG_n
  have H1 := H1_n
  have H2 := H2_n
  have HPL := HPL_n
  have HRL := HRL_n
  have HB := HB_n
  clear HG_n H1_n H2_n HPL_n HRL_n HB_n HBn hb
  have HM2 := Lib.hid hm2
  clear hm2
  have g0 := HG.out.at0.1
  have g1 := HG.out.at0.2
  go_wp2_with fail
  clear g0 g1
  refine (HFa.out _ _ HM2.out).mono ?_
  rintro e w22 ⟨rfl, hb⟩
  have HBn : Hid (Below w21.heap.size w21 w22) := Lib.hid (hb)
  have HG_n := Lib.hid (HG.out.below HBn.out)
  have H1_n := Lib.hid (H1.out.below HBn.out (Nat.le_refl _))
  have H2_n := Lib.hid (H2.out.below HBn.out (Nat.le_refl _))
  have HPL_n := Lib.hid (HPL.out.below HBn.out (Nat.le_refl _))
  have HRL_n := Lib.hid (HRL.out.below HBn.out (Nat.le_refl _))
  have HM2_n := Lib.hid (HM2.out.below HBn.out (Nat.le_refl _))
  have HB_n := Lib.hid (HB.out.trans (HBn.out.mono HB.out.size))
  clear HG H1 H2 HPL HRL HM2 HB
  have HG := HG_n
  have H1 := H1_n
  have H2 := H2_n
  have HPL := HPL_n
  have HRL := HRL_n
  have HM2 := HM2_n
  have HB := HB_n
  clear HG_n H1_n H2_n HPL_n HRL_n HM2_n HB_n HBn hb
  have g0 := HG.out.at0.1
  have g1 := HG.out.at0.2
  go_wp2_with fail
  clear HM2
  clear g0 g1
  refine (HMi.out _).mono ?_
  rintro e w23 ⟨rfl, hb⟩
  have HBn : Hid (Below w22.heap.size w22 w23) := Lib.hid (hb)
  have HG_n := Lib.hid (HG.out.below HBn.out)
  have H1_n := Lib.hid (H1.out.below HBn.out (Nat.le_refl _))
  have H2_n := Lib.hid (H2.out.below HBn.out (Nat.le_refl _))
  have HPL_n := Lib.hid (HPL.out.below HBn.out (Nat.le_refl _))
  have HRL_n := Lib.hid (HRL.out.below HBn.out (Nat.le_refl _))
  have HB_n := Lib.hid (HB.out.trans (HBn.out.mono HB.out.size))
  clear HG H1 H2 HPL HRL HB
  have HG := HG_n
  have H1 := H1_n
  have H2 := H2_n
  have HPL := HPL_n
  have HRL := HRL_n
  have HB := HB_n
  clear HG_n H1_n H2_n HPL_n HRL_n HB_n HBn hb
  have g0 := HG.out.at0.1
  have g1 := HG.out.at0.2
  go_wp2_with fail
  clear g0 g1
  have HBo := HB
  have HGo := HG
  have H1o := H1
  have H2o := H2
  have HPo := HPL
  have HRo := HRL
  clear HB HG H1 H2 HPL HRL HR HPp HN1 HN2 HBl HFa HFi HMi
  go_loopw [143] (fun i w100 => ∃ s : Nat, s ≤ kM g ∧ i = .int .i64 (s : Nat) ∧ Below w23.heap.size w23 w100) (fun i _ => kM g - (intOf i).toNat)
  case atStart => exact ⟨0, Nat.zero_le _, rfl, Below.refl _ _⟩
  case round =>
    rename World => w100
    obtain ⟨s, hs, rfl, hb⟩ := hrel
    have HB := Lib.hid hb
    have HG := Lib.hid (HGo.out.below HB.out)
    have H1 := Lib.hid (H1o.out.below HB.out (Nat.le_refl _))
    have H2 := Lib.hid (H2o.out.below HB.out (Nat.le_refl _))
    have HPL := Lib.hid (HPo.out.below HB.out (Nat.le_refl _))
    clear hb
    by_cases hl : s < kM g
    · have hbit := bit_and1 FF s hF
      have HFs := Lib.hid (HFb.out s)
      cases hbk : FF.testBit s with
      | false =>
        rw [hbk] at hbit
        have hbit' : bits .and .i64 ((FF : Int) / 2 ^ s) 1 = 0 := hbit
        clear hbit hbk HFs
        go_wp2_with fail
        go_roundw
        case rel => exact ⟨s + 1, by omega, by go_num, HB.out⟩
        case measure => (first | (simp [intOf]; done) | (simp [intOf]; omega))
      | true =>
        rw [hbk] at hbit HFs
        have hbit' : bits .and .i64 ((FF : Int) / 2 ^ s) 1 = 1 := hbit
        have hfl : ln g (rt g Y s) < ln g Y := by
          have h9 := HFs.out
          rw [decide_eq_true hl, Bool.true_and] at h9
          exact of_decide_eq_true h9.symm
        have HTs := Lib.hid (HTi.out s hl)
        have HPs := Lib.hid (HPt.out s hl hfl)
        generalize nats (wd g (rt g X s)) = XL at *
        have g0 := HG.out.at0.1
        have g1 := HG.out.at0.2
        clear hbit hbk HFs hfl
        go_wp2_with fail
        clear g0 g1
        refine (HOf.out _).mono ?_
        rintro e w101 ⟨rfl, hb⟩
        have HBn : Hid (Below w100.heap.size w100 w101) := Lib.hid (hb)
        have HG_n := Lib.hid (HG.out.below HBn.out)
        have H1_n := Lib.hid (H1.out.below HBn.out (Nat.le_refl _))
        have H2_n := Lib.hid (H2.out.below HBn.out (Nat.le_refl _))
        have HPL_n := Lib.hid (HPL.out.below HBn.out (Nat.le_refl _))
        have HB_n := Lib.hid (HB.out.trans (HBn.out.mono HB.out.size))
        clear HG H1 H2 HPL HB
        have HG := HG_n
        have H1 := H1_n
        have H2 := H2_n
        have HPL := HPL_n
        have HB := HB_n
        clear HG_n H1_n H2_n HPL_n HB_n HBn hb
        have g0 := HG.out.at0.1
        have g1 := HG.out.at0.2
        go_wp2_with fail
        clear g0 g1
        refine (HLi.out _ _ H1.out).mono ?_
        rintro e w102 ⟨la9, lc9, rfl, hm1, hb⟩
        have HBn : Hid (Below w101.heap.size w101 w102) := Lib.hid (hb)
        have HG_n := Lib.hid (HG.out.below HBn.out)
        have H1_n := Lib.hid (H1.out.below HBn.out (Nat.le_refl _))
        have H2_n := Lib.hid (H2.out.below HBn.out (Nat.le_refl _))
        have HPL_n := Lib.hid (HPL.out.below HBn.out (Nat.le_refl _))
        have HB_n := Lib.hid (HB.out.trans (HBn.out.mono HB.out.size))
        clear HG H1 H2 HPL HB
        have HG := HG_n
        have H1 := H1_n
        have H2 := H2_n
        have HPL := HPL_n
        have HB := HB_n
        clear HG_n H1_n H2_n HPL_n HB_n HBn hb
        have HM1 := Lib.hid hm1
        clear hm1
        have g0 := HG.out.at0.1
        have g1 := HG.out.at0.2
        go_wp2_with fail
        clear g0 g1
        refine (HTs.out _ _ _ (HM1.out.alloc _) (one_ints _ _ _ (Blk.new _ _ _) (by unfold I64; omega))).mono ?_
        rintro e w103 ⟨ta, tc, rfl, htw, hb⟩
        have HBn : Hid (Below w102.heap.size w102 w103) := Lib.hid (bl1 hb)
        have HG_n := Lib.hid (HG.out.below HBn.out)
        have H1_n := Lib.hid (H1.out.below HBn.out (Nat.le_refl _))
        have H2_n := Lib.hid (H2.out.below HBn.out (Nat.le_refl _))
        have HPL_n := Lib.hid (HPL.out.below HBn.out (Nat.le_refl _))
        have HM1_n := Lib.hid (HM1.out.below HBn.out (Nat.le_refl _))
        have HB_n := Lib.hid (HB.out.trans (HBn.out.mono HB.out.size))
        clear HG H1 H2 HPL HM1 HB
        have HG := HG_n
        have H1 := H1_n
        have H2 := H2_n
        have HPL := HPL_n
        have HM1 := HM1_n
        have HB := HB_n
        clear HG_n H1_n H2_n HPL_n HM1_n HB_n HBn hb
        have HTW := Lib.hid htw
        clear htw
        have g0 := HG.out.at0.1
        have g1 := HG.out.at0.2
        go_wp2_with fail
        clear HM1
        clear g0 g1
        refine (HOf.out _).mono ?_
        rintro e w104 ⟨rfl, hb⟩
        have HBn : Hid (Below w103.heap.size w103 w104) := Lib.hid (hb)
        have HG_n := Lib.hid (HG.out.below HBn.out)
        have H1_n := Lib.hid (H1.out.below HBn.out (Nat.le_refl _))
        have H2_n := Lib.hid (H2.out.below HBn.out (Nat.le_refl _))
        have HPL_n := Lib.hid (HPL.out.below HBn.out (Nat.le_refl _))
        have HTW_n := Lib.hid (HTW.out.below HBn.out (Nat.le_refl _))
        have HB_n := Lib.hid (HB.out.trans (HBn.out.mono HB.out.size))
        clear HG H1 H2 HPL HTW HB
        have HG := HG_n
        have H1 := H1_n
        have H2 := H2_n
        have HPL := HPL_n
        have HTW := HTW_n
        have HB := HB_n
        clear HG_n H1_n H2_n HPL_n HTW_n HB_n HBn hb
        have g0 := HG.out.at0.1
        have g1 := HG.out.at0.2
        go_wp2_with fail
        clear g0 g1
        refine (HLj.out _ _ H2.out).mono ?_
        rintro e w105 ⟨lb9, ld9, rfl, hm2, hb⟩
        have HBn : Hid (Below w104.heap.size w104 w105) := Lib.hid (hb)
        have HG_n := Lib.hid (HG.out.below HBn.out)
        have H1_n := Lib.hid (H1.out.below HBn.out (Nat.le_refl _))
        have H2_n := Lib.hid (H2.out.below HBn.out (Nat.le_refl _))
        have HPL_n := Lib.hid (HPL.out.below HBn.out (Nat.le_refl _))
        have HTW_n := Lib.hid (HTW.out.below HBn.out (Nat.le_refl _))
        have HB_n := Lib.hid (HB.out.trans (HBn.out.mono HB.out.size))
        clear HG H1 H2 HPL HTW HB
        have HG := HG_n
        have H1 := H1_n
        have H2 := H2_n
        have HPL := HPL_n
        have HTW := HTW_n
        have HB := HB_n
        clear HG_n H1_n H2_n HPL_n HTW_n HB_n HBn hb
        have HM2 := Lib.hid hm2
        clear hm2
        have g0 := HG.out.at0.1
        have g1 := HG.out.at0.2
        go_wp2_with fail
        clear g0 g1
        refine (HPs.out _ _ _ HTW.out HM2.out).mono ?_
        rintro e w106 ⟨qa, qc, rfl, hql, hb⟩
        have HBn : Hid (Below w105.heap.size w105 w106) := Lib.hid (hb)
        have HG_n := Lib.hid (HG.out.below HBn.out)
        have H1_n := Lib.hid (H1.out.below HBn.out (Nat.le_refl _))
        have H2_n := Lib.hid (H2.out.below HBn.out (Nat.le_refl _))
        have HPL_n := Lib.hid (HPL.out.below HBn.out (Nat.le_refl _))
        have HTW_n := Lib.hid (HTW.out.below HBn.out (Nat.le_refl _))
        have HM2_n := Lib.hid (HM2.out.below HBn.out (Nat.le_refl _))
        have HB_n := Lib.hid (HB.out.trans (HBn.out.mono HB.out.size))
        clear HG H1 H2 HPL HTW HM2 HB
        have HG := HG_n
        have H1 := H1_n
        have H2 := H2_n
        have HPL := HPL_n
        have HTW := HTW_n
        have HM2 := HM2_n
        have HB := HB_n
        clear HG_n H1_n H2_n HPL_n HTW_n HM2_n HB_n HBn hb
        have HQL := Lib.hid hql
        clear hql
        have g0 := HG.out.at0.1
        have g1 := HG.out.at0.2
        go_wp2_with fail
        clear HM2 HTW
        clear g0 g1
        refine (HEq.out _ _ _ HPL.out HQL.out).mono ?_
        rintro e w107 ⟨rfl, hb⟩
        have HBn : Hid (Below w106.heap.size w106 w107) := Lib.hid (hb)
        have HG_n := Lib.hid (HG.out.below HBn.out)
        have H1_n := Lib.hid (H1.out.below HBn.out (Nat.le_refl _))
        have H2_n := Lib.hid (H2.out.below HBn.out (Nat.le_refl _))
        have HPL_n := Lib.hid (HPL.out.below HBn.out (Nat.le_refl _))
        have HQL_n := Lib.hid (HQL.out.below HBn.out (Nat.le_refl _))
        have HB_n := Lib.hid (HB.out.trans (HBn.out.mono HB.out.size))
        clear HG H1 H2 HPL HQL HB
        have HG := HG_n
        have H1 := H1_n
        have H2 := H2_n
        have HPL := HPL_n
        have HQL := HQL_n
        have HB := HB_n
        clear HG_n H1_n H2_n HPL_n HQL_n HB_n HBn hb
        have g0 := HG.out.at0.1
        have g1 := HG.out.at0.2
        go_wp2_with fail
        go_roundw
        case rel => exact ⟨s + 1, by omega, by go_num, HB.out⟩
        case measure => (first | (simp [intOf]; done) | (simp [intOf]; omega))
    · have HB9 : Hid (Below w.heap.size w w100) := Lib.hid (HBo.out.trans (HB.out.mono HBo.out.size))
      have HRr := Lib.hid (HRo.out.below HB.out (Nat.le_refl _))
      have g0 := HG.out.at0.1
      have g1 := HG.out.at0.2
      obtain ⟨_, _, e', hrc, _, hrx⟩ := HRr.out.open
      cases e'
      obtain ⟨_, _, e', hpc, _, hpx⟩ := HPL.out.open
      cases e'
      have HRx := Lib.hid hrx
      have HPx := Lib.hid hpx
      clear HB hrx hpx HRr H1 H2 HFb HTi HPt HEq
      generalize ln g X = p at *
      generalize ln g Y = q at *
      go_wp2_with fail
      go_loop [188, 24] (fun i y => ∃ k : Nat, k ≤ RL.length ∧ i = .int .i64 (k : Nat) ∧ y = .int .i64 (isum (RL.take k))) (fun i _ => RL.length - (intOf i).toNat)
      case atStart => exact ⟨0, Nat.zero_le _, rfl, by simp [isum]⟩
      case round =>
        obtain ⟨k, hk, rfl, rfl⟩ := hrel
        have hsb := isum_bd HbR.out k hk
        by_cases hlt : k < RL.length
        · obtain ⟨b, o, rfl, d1⟩ := HRx.out k hlt
          have hzb := HbR.out.get k
          have HS : Hid (isum (RL.take (k + 1)) = isum (RL.take k) + RL.getD k 0) := Lib.hid (by rw [take_snoc RL k hlt, isum_snoc])
          generalize isum (RL.take k) = sm at *
          generalize RL.getD k 0 = z at *
          generalize RL.length = rl at *
          go_wp2_with fail
          go_round
          case rel => exact ⟨k + 1, by omega, by go_num, by rw [HS.out]⟩
          case measure => (first | (simp [intOf]; done) | (simp [intOf]; omega))
        · have hkk : k = RL.length := by omega
          have hsm : isum (RL.take k) = RL.sum := by rw [hkk, List.take_length]; rfl
          rw [hsm] at hsb ⊢
          clear hkk hsm
          go_wp2_with fail
          go_loop [206] (fun i => ∃ j : Nat, j ≤ PL_.length ∧ i = .int .i64 (j : Nat)) (fun i => PL_.length - (intOf i).toNat)
          case atStart => exact ⟨0, Nat.zero_le _, rfl⟩
          case round =>
            obtain ⟨j, hj, rfl⟩ := hrel
            by_cases hjl : j < PL_.length
            · obtain ⟨b, o, rfl, d1⟩ := HPx.out j hjl
              have hz0 := HPos.out (PL_.getD j 0) (getD_mem hjl)
              generalize PL_.getD j 0 = z at *
              generalize PL_.length = pl at *
              go_wp2_with fail
              go_round
              case rel => exact ⟨j + 1, by omega, by go_num⟩
              case measure => (first | (simp [intOf]; done) | (simp [intOf]; omega))
            · obtain ⟨pb, po, rfl, d1⟩ := HPx.out 0 hnp
              rw [hone, Nat.add_zero] at d1
              have hMx : ∀ M : Nat, M = q - p - 1 → max ((q : Int) - (p : Int) - 1) 0 = (M : Nat) := fun M hM => by omega
              have HMx := Lib.hid hMx
              have HPl := Lib.hid HPlain.out
              have HSu := Lib.hid HSum.out
              generalize hsm : RL.sum = sm at *
              clear hsm hMx
              clear HPlain HSum HPos HPx HRx hone
              obtain ⟨M, hM⟩ : ∃ M, M = q - p - 1 := ⟨_, rfl⟩
              have hmx := HMx.out M hM
              have hdeg' : 2 * (PL_.length - 1) ≤ M := by omega
              generalize PL_.length = pl at *
              generalize RL.length = rl at *
              have hrl' : ((rl : Int) == (q : Int) - (p : Int) + 1) = true := beq_iff_eq.2 (by omega)
              clear HMx hdeg hM hrlen
              by_cases hd0 : p < q
              · have hs0 : sm = 0 := HSu.out.2 (by omega)
                subst hs0
                clear HSu
                by_cases hd2 : q ≤ p + 2
                · obtain rfl : pl = 1 := HPl.out (.inl (by omega))
                  clear HPl
                  go_wp2_with fail
                  refine (HAw.out _).mono ?_
                  rintro e w200 ⟨rfl, hb⟩
                  have HBz : Hid (Below w.heap.size w w200) := Lib.hid (HB9.out.trans (hb.mono HB9.out.size))
                  clear hb
                  go_wp2_with fail
                  go_ret
                  exact ⟨rfl, HBz.out⟩
                · by_cases h73 : kd g = 73
                  · obtain rfl : pl = 1 := HPl.out (.inr (.inl h73))
                    have hk73 : (((kd g : Nat) : Int) == 73) = true := beq_iff_eq.2 (by omega)
                    clear HPl h73
                    go_wp2_with fail
                    refine (HAw.out _).mono ?_
                    rintro e w200 ⟨rfl, hb⟩
                    have HBz : Hid (Below w.heap.size w w200) := Lib.hid (HB9.out.trans (hb.mono HB9.out.size))
                    clear hb
                    go_wp2_with fail
                    go_ret
                    exact ⟨rfl, HBz.out⟩
                  · have hk73 : (((kd g : Nat) : Int) == 73) = false := beq_eq_false_iff_ne.2 (by omega)
                    by_cases h65 : kd g = 65
                    · have hk65 : (((kd g : Nat) : Int) == 65) = true := beq_iff_eq.2 (by omega)
                      by_cases hn2 : nm g ≤ 2
                      · obtain rfl : pl = 1 := HPl.out (.inr (.inr ⟨h65, hn2⟩))
                        clear HPl h65
                        go_wp2_with fail
                        refine (HAw.out _).mono ?_
                        rintro e w200 ⟨rfl, hb⟩
                        have HBz : Hid (Below w.heap.size w w200) := Lib.hid (HB9.out.trans (hb.mono HB9.out.size))
                        clear hb
                        go_wp2_with fail
                        go_ret
                        exact ⟨rfl, HBz.out⟩
                      · clear HPl h65
                        go_wp2_with fail
                        refine (HAw.out _).mono ?_
                        rintro e w200 ⟨rfl, hb⟩
                        have HBz : Hid (Below w.heap.size w w200) := Lib.hid (HB9.out.trans (hb.mono HB9.out.size))
                        clear hb
                        go_wp2_with fail
                        go_ret
                        exact ⟨rfl, HBz.out⟩
                    · have hk65 : (((kd g : Nat) : Int) == 65) = false := beq_eq_false_iff_ne.2 (by omega)
                      clear HPl
                      go_wp2_with fail
                      refine (HAw.out _).mono ?_
                      rintro e w200 ⟨rfl, hb⟩
                      have HBz : Hid (Below w.heap.size w w200) := Lib.hid (HB9.out.trans (hb.mono HB9.out.size))
                      clear hb
                      go_wp2_with fail
                      go_ret
                      exact ⟨rfl, HBz.out⟩
              · have hs0 : (sm == 0) = false := beq_eq_false_iff_ne.2 (fun e => by have := HSu.out.1 e; omega)
                obtain rfl : pl = 1 := HPl.out (.inl (by omega))
                clear HSu HPl
                go_wp2_with fail
                refine (HAw.out _).mono ?_
                rintro e w200 ⟨rfl, hb⟩
                have HBz : Hid (Below w.heap.size w w200) := Lib.hid (HB9.out.trans (hb.mono HB9.out.size))
                clear hb
                go_wp2_with fail
                go_ret
                exact ⟨rfl, HBz.out⟩

set_option maxRecDepth 100000 in
set_option maxHeartbeats 4000000 in
theorem sums_no (g : Nat) (hg : g < 17) (h3 : g ≠ 3) (v1 v2 : Value) (l1 l2 : List Int) (w : World) (h1 : Ints w v1 l1) (h2 : Ints w v2 l2) (hw1 : wordB g l1 = true) (hw2 : wordB g l2 = true) (hlo : loB g (folI g l1) (folI g l2) = false) :
    Calls Try.prog 16 #[gV (kd g) (nm g), v1, v2] w fun e w' => e = .returned (.bool true) ∧ Below w.heap.size w w' := by
  have q1 : l1.length ≤ 30 := by simp [wordB] at hw1; omega
  have q2 : l2.length ≤ 30 := by simp [wordB] at hw2; omega
  have hE := tE hg
  have hX := folI_lt hg hw1
  have hY := folI_lt hg hw2
  have hk4 := (tg hg).2.2.2.1
  have HOf := Lib.hid (fun W => Of_any (kd g) (nm g) W)
  have HLi := Lib.hid (fun v W h => listOk q1 v W h)
  have HLj := Lib.hid (fun v W h => listOk q2 v W h)
  have HFi := Lib.hid (fun v W h => fine_any g hg v [l1, l2] W h (by simp))
  rw [show [l1, l2].all (wordB g) = true by simp [hw1, hw2]] at HFi
  have HAw := Lib.hid (fun W => awake_any W)
  have HMi := Lib.hid (fun W => Mirrors_any g hg W)
  have HR := Lib.hid (fun v v' W h h' => R_ok g hg h3 v v' l1 l2 W h h' hw1 hw2)
  have HPp := Lib.hid (fun v v' W h h' => P_ok g hg h3 v v' l1 l2 W h h' hw1 hw2)
  have HN1 := Lib.hid (fun v W h => Normal_ok g hg v l1 W h hw1)
  have HN2 := Lib.hid (fun v W h => Normal_ok g hg v l2 W h hw2)
  have HBl := Lib.hid (fun v v' W h h' => Below_ok g hg v v' l1 l2 W h h' hw1 hw2)
  have HFa := Lib.hid (fun v W h => Falls_ok g hg v l2 W h hw2)
  have HSO := Lib.hid (sumsOk hg h3 hX hY)
  have HTi : Hid (∀ (s : Nat), s < kM g → ∀ v v' W, Ints W v l1 → Ints W v' [(s : Int)] → Calls Try.prog 32 #[gV (kd g) (nm g), v, v'] W fun e w' => ∃ a c, e = .returned (.tuple #[.slice a (nats (wd g (rt g (folI g l1) s))).length c, .int .i64 0]) ∧ Ints w' (.slice a (nats (wd g (rt g (folI g l1) s))).length c) (nats (wd g (rt g (folI g l1) s))) ∧ Below W.heap.size W w') := Lib.hid (fun s hs v v' W h h' => by
    have hws : wordB g [(s : Int)] = true := by simp [wordB, letB, mirB]; omega
    have h9 := Times_ok g hg v v' l1 [(s : Int)] W h h' hw1 hws
    have e : (nats (wd g (rt g (folI g l1) s))).length = ln g (rt g (folI g l1) s) := by simp [nats, ln]
    rw [e]
    exact h9)
  have HPt : Hid (∀ (s : Nat), s < kM g → ln g (rt g (folI g l2) s) < ln g (folI g l2) → ∀ v v' W, Ints W v (nats (wd g (rt g (folI g l1) s))) → Ints W v' l2 → Calls Try.prog 53 #[gV (kd g) (nm g), v, v'] W fun e w' => ∃ a c, e = .returned (.tuple #[.slice a (dP g (folI g l1) (folI g l2)).length c, .int .i64 0]) ∧ Ints w' (.slice a (dP g (folI g l1) (folI g l2)).length c) (dP g (folI g l1) (folI g l2)) ∧ Below W.heap.size W w') := Lib.hid (fun s hs hf v v' W h h' => by
    have hz := (tb hg hX hs).2.1
    have h9 := P_ok g hg h3 v v' (nats (wd g (rt g (folI g l1) s))) l2 W h h' (word_wd hg hz) hw2
    rw [folI_wd hg hz, HSO.out.turn s hs hf] at h9
    exact h9)
  have hF : flS g (folI g l2) (kM g) < 65536 := Nat.lt_of_lt_of_le (flS_lt _ _ _) (Nat.le_trans (Nat.pow_le_pow_right (by omega) (show kM g ≤ 16 by omega)) (by omega))
  have HFb := Lib.hid (fun s => falls_bit g (folI g l2) s (kM g))
  have hlX := (tx hg hX).2.1
  have hlY := (tx hg hY).2.1
  have HbR := Lib.hid (dR_bd hg h3 hX hY)
  have hR13 := dR_len g (folI g l1) (folI g l2)
  have hP4 := dP_len g (folI g l1) (folI g l2)

  have hnp : dP g (folI g l1) (folI g l2) = [] := by have h9 := HSO.out.p; rw [hlo] at h9; simpa using h9.symm
  have hnr : dR g (folI g l1) (folI g l2) = [] := by have h9 := HSO.out.r; rw [hlo] at h9; simpa using h9.symm
  rw [hlo] at HBl
  rw [hnp] at HPp HPt
  rw [hnr] at HR
  simp only [List.length_nil] at HPp HPt HR
  clear HSO hlo hnp hnr hR13 hP4 HbR
  generalize folI g l1 = X at *
  generalize folI g l2 = Y at *
  have HEq := Lib.hid (fun v v' W h h' => equalT [] v v' W h h')
  generalize hFF : flS g Y (kM g) = FF at *
  clear hFF
  obtain ⟨va1, vc1, rfl, _, _, _⟩ := h1.open
  obtain ⟨va2, vc2, rfl, _, _, _⟩ := h2.open
  have H10 := Lib.hid h1
  have H20 := Lib.hid h2
  clear h1 h2 hw1 hw2
  go_enter Try.func16, Try.ntmps16
  go_wp2_with fail
  refine (HOf.out _).mono ?_
  rintro e w1 ⟨rfl, hb⟩
  have HG : Hid (Blk 23 w1 w.heap.size #[.int .u8 (kd g), .int .i64 (nm g)]) := Lib.hid ((Blk.new _ _ _).below hb)
  have HB : Hid (Below w.heap.size w w1) := Lib.hid (bl1 hb)
  have H1 := Lib.hid (H10.out.below HB.out (Nat.le_refl _))
  have H2 := Lib.hid (H20.out.below HB.out (Nat.le_refl _))
  clear hb H10 H20
  have g0 := HG.out.at0.1
  have g1 := HG.out.at0.2
  go_wp2_with fail
  clear g0 g1
  refine (HLi.out _ _ H1.out).mono ?_
  rintro e w2 ⟨la, lc, rfl, hm1, hb⟩
  have HBn : Hid (Below w1.heap.size w1 w2) := Lib.hid (hb)
  have HG_n := Lib.hid (HG.out.below HBn.out)
  have H1_n := Lib.hid (H1.out.below HBn.out (Nat.le_refl _))
  have H2_n := Lib.hid (H2.out.below HBn.out (Nat.le_refl _))
  have HB_n := Lib.hid (HB.out.trans (HBn.out.mono HB.out.size))
  clear HG H1 H2 HB
  have HG := HG_n
  have H1 := H1_n
  have H2 := H2_n
  have HB := HB_n
  clear HG_n H1_n H2_n HB_n HBn hb
  have HM1 := Lib.hid hm1
  clear hm1
  have g0 := HG.out.at0.1
  have g1 := HG.out.at0.2
  go_wp2_with fail
  clear g0 g1
  refine (HLj.out _ _ H2.out).mono ?_
  rintro e w3 ⟨lb, ld, rfl, hm2, hb⟩
  have HBn : Hid (Below w2.heap.size w2 w3) := Lib.hid (hb)
  have HG_n := Lib.hid (HG.out.below HBn.out)
  have H1_n := Lib.hid (H1.out.below HBn.out (Nat.le_refl _))
  have H2_n := Lib.hid (H2.out.below HBn.out (Nat.le_refl _))
  have HM1_n := Lib.hid (HM1.out.below HBn.out (Nat.le_refl _))
  have HB_n := Lib.hid (HB.out.trans (HBn.out.mono HB.out.size))
  clear HG H1 H2 HM1 HB
  have HG := HG_n
  have H1 := H1_n
  have H2 := H2_n
  have HM1 := HM1_n
  have HB := HB_n
  clear HG_n H1_n H2_n HM1_n HB_n HBn hb
  have HM2 := Lib.hid hm2
  clear hm2
  have g0 := HG.out.at0.1
  have g1 := HG.out.at0.2
  go_wp2_with fail
  clear g0 g1
  refine (HPp.out _ _ _ HM1.out HM2.out).mono ?_
  rintro e w4 ⟨pa, pc, rfl, hpl, hb⟩
  have HBn : Hid (Below w3.heap.size w3 w4) := Lib.hid (hb)
  have HG_n := Lib.hid (HG.out.below HBn.out)
  have H1_n := Lib.hid (H1.out.below HBn.out (Nat.le_refl _))
  have H2_n := Lib.hid (H2.out.below HBn.out (Nat.le_refl _))
  have HM1_n := Lib.hid (HM1.out.below HBn.out (Nat.le_refl _))
  have HM2_n := Lib.hid (HM2.out.below HBn.out (Nat.le_refl _))
  have HB_n := Lib.hid (HB.out.trans (HBn.out.mono HB.out.size))
  clear HG H1 H2 HM1 HM2 HB
  have HG := HG_n
  have H1 := H1_n
  have H2 := H2_n
  have HM1 := HM1_n
  have HM2 := HM2_n
  have HB := HB_n
  clear HG_n H1_n H2_n HM1_n HM2_n HB_n HBn hb
  have HPL := Lib.hid hpl
  clear hpl
  have g0 := HG.out.at0.1
  have g1 := HG.out.at0.2
  go_wp2_with fail
  clear HM1 HM2
  clear g0 g1
  refine (HOf.out _).mono ?_
  rintro e w5 ⟨rfl, hb⟩
  have HBn : Hid (Below w4.heap.size w4 w5) := Lib.hid (hb)
  have HG_n := Lib.hid (HG.out.below HBn.out)
  have H1_n := Lib.hid (H1.out.below HBn.out (Nat.le_refl _))
  have H2_n := Lib.hid (H2.out.below HBn.out (Nat.le_refl _))
  have HPL_n := Lib.hid (HPL.out.below HBn.out (Nat.le_refl _))
  have HB_n := Lib.hid (HB.out.trans (HBn.out.mono HB.out.size))
  clear HG H1 H2 HPL HB
  have HG := HG_n
  have H1 := H1_n
  have H2 := H2_n
  have HPL := HPL_n
  have HB := HB_n
  clear HG_n H1_n H2_n HPL_n HB_n HBn hb
  have g0 := HG.out.at0.1
  have g1 := HG.out.at0.2
  go_wp2_with fail
  clear g0 g1
  refine (HLi.out _ _ H1.out).mono ?_
  rintro e w6 ⟨la, lc, rfl, hm1, hb⟩
  have HBn : Hid (Below w5.heap.size w5 w6) := Lib.hid (hb)
  have HG_n := Lib.hid (HG.out.below HBn.out)
  have H1_n := Lib.hid (H1.out.below HBn.out (Nat.le_refl _))
  have H2_n := Lib.hid (H2.out.below HBn.out (Nat.le_refl _))
  have HPL_n := Lib.hid (HPL.out.below HBn.out (Nat.le_refl _))
  have HB_n := Lib.hid (HB.out.trans (HBn.out.mono HB.out.size))
  clear HG H1 H2 HPL HB
  have HG := HG_n
  have H1 := H1_n
  have H2 := H2_n
  have HPL := HPL_n
  have HB := HB_n
  clear HG_n H1_n H2_n HPL_n HB_n HBn hb
  have HM1 := Lib.hid hm1
  clear hm1
  have g0 := HG.out.at0.1
  have g1 := HG.out.at0.2
  go_wp2_with fail
  clear g0 g1
  refine (HLj.out _ _ H2.out).mono ?_
  rintro e w7 ⟨lb, ld, rfl, hm2, hb⟩
  have HBn : Hid (Below w6.heap.size w6 w7) := Lib.hid (hb)
  have HG_n := Lib.hid (HG.out.below HBn.out)
  have H1_n := Lib.hid (H1.out.below HBn.out (Nat.le_refl _))
  have H2_n := Lib.hid (H2.out.below HBn.out (Nat.le_refl _))
  have HPL_n := Lib.hid (HPL.out.below HBn.out (Nat.le_refl _))
  have HM1_n := Lib.hid (HM1.out.below HBn.out (Nat.le_refl _))
  have HB_n := Lib.hid (HB.out.trans (HBn.out.mono HB.out.size))
  clear HG H1 H2 HPL HM1 HB
  have HG := HG_n
  have H1 := H1_n
  have H2 := H2_n
  have HPL := HPL_n
  have HM1 := HM1_n
  have HB := HB_n
  clear HG_n H1_n H2_n HPL_n HM1_n HB_n HBn hb
  have HM2 := Lib.hid hm2
  clear hm2
  have g0 := HG.out.at0.1
  have g1 := HG.out.at0.2
  go_wp2_with fail
  clear g0 g1
  refine (HR.out _ _ _ HM1.out HM2.out).mono ?_
  rintro e w8 ⟨ra, rc, rfl, hrl, hb⟩
  have HBn : Hid (Below w7.heap.size w7 w8) := Lib.hid (hb)
  have HG_n := Lib.hid (HG.out.below HBn.out)
  have H1_n := Lib.hid (H1.out.below HBn.out (Nat.le_refl _))
  have H2_n := Lib.hid (H2.out.below HBn.out (Nat.le_refl _))
  have HPL_n := Lib.hid (HPL.out.below HBn.out (Nat.le_refl _))
  have HM1_n := Lib.hid (HM1.out.below HBn.out (Nat.le_refl _))
  have HM2_n := Lib.hid (HM2.out.below HBn.out (Nat.le_refl _))
  have HB_n := Lib.hid (HB.out.trans (HBn.out.mono HB.out.size))
  clear HG H1 H2 HPL HM1 HM2 HB
  have HG := HG_n
  have H1 := H1_n
  have H2 := H2_n
  have HPL := HPL_n
  have HM1 := HM1_n
  have HM2 := HM2_n
  have HB := HB_n
  clear HG_n H1_n H2_n HPL_n HM1_n HM2_n HB_n HBn hb
  have HRL := Lib.hid hrl
  clear hrl
  have g0 := HG.out.at0.1
  have g1 := HG.out.at0.2
  go_wp2_with fail
  clear HM1 HM2
  clear g0 g1
  refine (HFi.out _ _ (rows2 (Blk.new _ _ _) (H1.out.alloc _) (H2.out.alloc _))).mono ?_
  rintro e w9 ⟨rfl, hb⟩
  have HBn : Hid (Below w8.heap.size w8 w9) := Lib.hid (bl1 hb)
  have HG_n := Lib.hid (HG.out.below HBn.out)
  have H1_n := Lib.hid (H1.out.below HBn.out (Nat.le_refl _))
  have H2_n := Lib.hid (H2.out.below HBn.out (Nat.le_refl _))
  have HPL_n := Lib.hid (HPL.out.below HBn.out (Nat.le_refl _))
  have HRL_n := Lib.hid (HRL.out.below HBn.out (Nat.le_refl _))
  have HB_n := Lib.hid (HB.out.trans (HBn.out.mono HB.out.size))
  clear HG H1 H2 HPL HRL HB
  have HG := HG_n
  have H1 := H1_n
  have H2 := H2_n
  have HPL := HPL_n
  have HRL := HRL_n
  have HB := HB_n
  clear HG_n H1_n H2_n HPL_n HRL_n HB_n HBn hb
  have g0 := HG.out.at0.1
  have g1 := HG.out.at0.2
  go_wp2_with fail
  clear g0 g1
  refine (HOf.out _).mono ?_
  rintro e w10 ⟨rfl, hb⟩
  have HBn : Hid (Below w9.heap.size w9 w10) := Lib.hid (hb)
  have HG_n := Lib.hid (HG.out.below HBn.out)
  have H1_n := Lib.hid (H1.out.below HBn.out (Nat.le_refl _))
  have H2_n := Lib.hid (H2.out.below HBn.out (Nat.le_refl _))
  have HPL_n := Lib.hid (HPL.out.below HBn.out (Nat.le_refl _))
  have HRL_n := Lib.hid (HRL.out.below HBn.out (Nat.le_refl _))
  have HB_n := Lib.hid (HB.out.trans (HBn.out.mono HB.out.size))
  clear HG H1 H2 HPL HRL HB
  have HG := HG_n
  have H1 := H1_n
  have H2 := H2_n
  have HPL := HPL_n
  have HRL := HRL_n
  have HB := HB_n
  clear HG_n H1_n H2_n HPL_n HRL_n HB_n HBn hb
  have g0 := HG.out.at0.1
  have g1 := HG.out.at0.2
  go_wp2_with fail
  clear g0 g1
  refine (HLi.out _ _ H1.out).mono ?_
  rintro e w11 ⟨la, lc, rfl, hm1, hb⟩
  have HBn : Hid (Below w10.heap.size w10 w11) := Lib.hid (hb)
  have HG_n := Lib.hid (HG.out.below HBn.out)
  have H1_n := Lib.hid (H1.out.below HBn.out (Nat.le_refl _))
  have H2_n := Lib.hid (H2.out.below HBn.out (Nat.le_refl _))
  have HPL_n := Lib.hid (HPL.out.below HBn.out (Nat.le_refl _))
  have HRL_n := Lib.hid (HRL.out.below HBn.out (Nat.le_refl _))
  have HB_n := Lib.hid (HB.out.trans (HBn.out.mono HB.out.size))
  clear HG H1 H2 HPL HRL HB
  have HG := HG_n
  have H1 := H1_n
  have H2 := H2_n
  have HPL := HPL_n
  have HRL := HRL_n
  have HB := HB_n
  clear HG_n H1_n H2_n HPL_n HRL_n HB_n HBn hb
  have HM1 := Lib.hid hm1
  clear hm1
  have g0 := HG.out.at0.1
  have g1 := HG.out.at0.2
  go_wp2_with fail
  clear g0 g1
  refine (HN1.out _ _ HM1.out).mono ?_
  rintro e w12 ⟨xa, xc, rfl, _, hb⟩
  have HBn : Hid (Below w11.heap.size w11 w12) := Lib.hid (hb)
  have HG_n := Lib.hid (HG.out.below HBn.out)
  have H1_n := Lib.hid (H1.out.below HBn.out (Nat.le_refl _))
  have H2_n := Lib.hid (H2.out.below HBn.out (Nat.le_refl _))
  have HPL_n := Lib.hid (HPL.out.below HBn.out (Nat.le_refl _))
  have HRL_n := Lib.hid (HRL.out.below HBn.out (Nat.le_refl _))
  have HM1_n := Lib.hid (HM1.out.below HBn.out (Nat.le_refl _))
  have HB_n := Lib.hid (HB.out.trans (HBn.out.mono HB.out.size))
  clear HG H1 H2 HPL HRL HM1 HB
  have HG := HG_n
  have H1 := H1_n
  have H2 := H2_n
  have HPL := HPL_n
  have HRL := HRL_n
  have HM1 := HM1_n
  have HB := HB_n
  clear HG_n H1_n H2_n HPL_n HRL_n HM1_n HB_n HBn hb
  have g0 := HG.out.at0.1
  have g1 := HG.out.at0.2
  go_wp2_with fail
  clear HM1
  clear g0 g1
  refine (HOf.out _).mono ?_
  rintro e w13 ⟨rfl, hb⟩
  have HBn : Hid (Below w12.heap.size w12 w13) := Lib.hid (hb)
  have HG_n := Lib.hid (HG.out.below HBn.out)
  have H1_n := Lib.hid (H1.out.below HBn.out (Nat.le_refl _))
  have H2_n := Lib.hid (H2.out.below HBn.out (Nat.le_refl _))
  have HPL_n := Lib.hid (HPL.out.below HBn.out (Nat.le_refl _))
  have HRL_n := Lib.hid (HRL.out.below HBn.out (Nat.le_refl _))
  have HB_n := Lib.hid (HB.out.trans (HBn.out.mono HB.out.size))
  clear HG H1 H2 HPL HRL HB
  have HG := HG_n
  have H1 := H1_n
  have H2 := H2_n
  have HPL := HPL_n
  have HRL := HRL_n
  have HB := HB_n
  clear HG_n H1_n H2_n HPL_n HRL_n HB_n HBn hb
  have g0 := HG.out.at0.1
  have g1 := HG.out.at0.2
  go_wp2_with fail
  clear g0 g1
  refine (HLj.out _ _ H2.out).mono ?_
  rintro e w14 ⟨lb, ld, rfl, hm2, hb⟩
  have HBn : Hid (Below w13.heap.size w13 w14) := Lib.hid (hb)
  have HG_n := Lib.hid (HG.out.below HBn.out)
  have H1_n := Lib.hid (H1.out.below HBn.out (Nat.le_refl _))
  have H2_n := Lib.hid (H2.out.below HBn.out (Nat.le_refl _))
  have HPL_n := Lib.hid (HPL.out.below HBn.out (Nat.le_refl _))
  have HRL_n := Lib.hid (HRL.out.below HBn.out (Nat.le_refl _))
  have HB_n := Lib.hid (HB.out.trans (HBn.out.mono HB.out.size))
  clear HG H1 H2 HPL HRL HB
  have HG := HG_n
  have H1 := H1_n
  have H2 := H2_n
  have HPL := HPL_n
  have HRL := HRL_n
  have HB := HB_n
  clear HG_n H1_n H2_n HPL_n HRL_n HB_n HBn hb
  have HM2 := Lib.hid hm2
  clear hm2
  have g0 := HG.out.at0.1
  have g1 := HG.out.at0.2
  go_wp2_with fail
  clear g0 g1
  refine (HN2.out _ _ HM2.out).mono ?_
  rintro e w15 ⟨ya, yc, rfl, _, hb⟩
  have HBn : Hid (Below w14.heap.size w14 w15) := Lib.hid (hb)
  have HG_n := Lib.hid (HG.out.below HBn.out)
  have H1_n := Lib.hid (H1.out.below HBn.out (Nat.le_refl _))
  have H2_n := Lib.hid (H2.out.below HBn.out (Nat.le_refl _))
  have HPL_n := Lib.hid (HPL.out.below HBn.out (Nat.le_refl _))
  have HRL_n := Lib.hid (HRL.out.below HBn.out (Nat.le_refl _))
  have HM2_n := Lib.hid (HM2.out.below HBn.out (Nat.le_refl _))
  have HB_n := Lib.hid (HB.out.trans (HBn.out.mono HB.out.size))
  clear HG H1 H2 HPL HRL HM2 HB
  have HG := HG_n
  have H1 := H1_n
  have H2 := H2_n
  have HPL := HPL_n
  have HRL := HRL_n
  have HM2 := HM2_n
  have HB := HB_n
  clear HG_n H1_n H2_n HPL_n HRL_n HM2_n HB_n HBn hb
  have g0 := HG.out.at0.1
  have g1 := HG.out.at0.2
  go_wp2_with fail
  clear HM2
  clear g0 g1
  refine (HOf.out _).mono ?_
  rintro e w16 ⟨rfl, hb⟩
  have HBn : Hid (Below w15.heap.size w15 w16) := Lib.hid (hb)
  have HG_n := Lib.hid (HG.out.below HBn.out)
  have H1_n := Lib.hid (H1.out.below HBn.out (Nat.le_refl _))
  have H2_n := Lib.hid (H2.out.below HBn.out (Nat.le_refl _))
  have HPL_n := Lib.hid (HPL.out.below HBn.out (Nat.le_refl _))
  have HRL_n := Lib.hid (HRL.out.below HBn.out (Nat.le_refl _))
  have HB_n := Lib.hid (HB.out.trans (HBn.out.mono HB.out.size))
  clear HG H1 H2 HPL HRL HB
  have HG := HG_n
  have H1 := H1_n
  have H2 := H2_n
  have HPL := HPL_n
  have HRL := HRL_n
  have HB := HB_n
  clear HG_n H1_n H2_n HPL_n HRL_n HB_n HBn hb
  have g0 := HG.out.at0.1
  have g1 := HG.out.at0.2
  go_wp2_with fail
  clear g0 g1
  refine (HLi.out _ _ H1.out).mono ?_
  rintro e w17 ⟨la, lc, rfl, hm1, hb⟩
  have HBn : Hid (Below w16.heap.size w16 w17) := Lib.hid (hb)
  have HG_n := Lib.hid (HG.out.below HBn.out)
  have H1_n := Lib.hid (H1.out.below HBn.out (Nat.le_refl _))
  have H2_n := Lib.hid (H2.out.below HBn.out (Nat.le_refl _))
  have HPL_n := Lib.hid (HPL.out.below HBn.out (Nat.le_refl _))
  have HRL_n := Lib.hid (HRL.out.below HBn.out (Nat.le_refl _))
  have HB_n := Lib.hid (HB.out.trans (HBn.out.mono HB.out.size))
  clear HG H1 H2 HPL HRL HB
  have HG := HG_n
  have H1 := H1_n
  have H2 := H2_n
  have HPL := HPL_n
  have HRL := HRL_n
  have HB := HB_n
  clear HG_n H1_n H2_n HPL_n HRL_n HB_n HBn hb
  have HM1 := Lib.hid hm1
  clear hm1
  have g0 := HG.out.at0.1
  have g1 := HG.out.at0.2
  go_wp2_with fail
  clear g0 g1
  refine (HLj.out _ _ H2.out).mono ?_
  rintro e w18 ⟨lb, ld, rfl, hm2, hb⟩
  have HBn : Hid (Below w17.heap.size w17 w18) := Lib.hid (hb)
  have HG_n := Lib.hid (HG.out.below HBn.out)
  have H1_n := Lib.hid (H1.out.below HBn.out (Nat.le_refl _))
  have H2_n := Lib.hid (H2.out.below HBn.out (Nat.le_refl _))
  have HPL_n := Lib.hid (HPL.out.below HBn.out (Nat.le_refl _))
  have HRL_n := Lib.hid (HRL.out.below HBn.out (Nat.le_refl _))
  have HM1_n := Lib.hid (HM1.out.below HBn.out (Nat.le_refl _))
  have HB_n := Lib.hid (HB.out.trans (HBn.out.mono HB.out.size))
  clear HG H1 H2 HPL HRL HM1 HB
  have HG := HG_n
  have H1 := H1_n
  have H2 := H2_n
  have HPL := HPL_n
  have HRL := HRL_n
  have HM1 := HM1_n
  have HB := HB_n
  clear HG_n H1_n H2_n HPL_n HRL_n HM1_n HB_n HBn hb
  have HM2 := Lib.hid hm2
  clear hm2
  have g0 := HG.out.at0.1
  have g1 := HG.out.at0.2
  go_wp2_with fail
  clear g0 g1
  refine (HBl.out _ _ _ HM1.out HM2.out).mono ?_
  rintro e w19 ⟨rfl, hb⟩
  have HBn : Hid (Below w18.heap.size w18 w19) := Lib.hid (hb)
  have HG_n := Lib.hid (HG.out.below HBn.out)
  have H1_n := Lib.hid (H1.out.below HBn.out (Nat.le_refl _))
  have H2_n := Lib.hid (H2.out.below HBn.out (Nat.le_refl _))
  have HPL_n := Lib.hid (HPL.out.below HBn.out (Nat.le_refl _))
  have HRL_n := Lib.hid (HRL.out.below HBn.out (Nat.le_refl _))
  have HM1_n := Lib.hid (HM1.out.below HBn.out (Nat.le_refl _))
  have HM2_n := Lib.hid (HM2.out.below HBn.out (Nat.le_refl _))
  have HB_n := Lib.hid (HB.out.trans (HBn.out.mono HB.out.size))
  clear HG H1 H2 HPL HRL HM1 HM2 HB
  have HG := HG_n
  have H1 := H1_n
  have H2 := H2_n
  have HPL := HPL_n
  have HRL := HRL_n
  have HM1 := HM1_n
  have HM2 := HM2_n
  have HB := HB_n
  clear HG_n H1_n H2_n HPL_n HRL_n HM1_n HM2_n HB_n HBn hb
  have g0 := HG.out.at0.1
  have g1 := HG.out.at0.2
  go_wp2_with fail
  clear HM1 HM2
  clear g0 g1
  refine (HOf.out _).mono ?_
  rintro e w20 ⟨rfl, hb⟩
  have HBn : Hid (Below w19.heap.size w19 w20) := Lib.hid (hb)
  have HG_n := Lib.hid (HG.out.below HBn.out)
  have H1_n := Lib.hid (H1.out.below HBn.out (Nat.le_refl _))
  have H2_n := Lib.hid (H2.out.below HBn.out (Nat.le_refl _))
  have HPL_n := Lib.hid (HPL.out.below HBn.out (Nat.le_refl _))
  have HRL_n := Lib.hid (HRL.out.below HBn.out (Nat.le_refl _))
  have HB_n := Lib.hid (HB.out.trans (HBn.out.mono HB.out.size))
  clear HG H1 H2 HPL HRL HB
  have HG := HG_n
  have H1 := H1_n
  have H2 := H2_n
  have HPL := HPL_n
  have HRL := HRL_n
  have HB := HB_n
  clear HG_n H1_n H2_n HPL_n HRL_n HB_n HBn hb
  have g0 := HG.out.at0.1
  have g1 := HG.out.at0.2
  go_wp2_with fail
  clear g0 g1
  refine (HLj.out _ _ H2.out).mono ?_
  rintro e w21 ⟨lb2, ld2, rfl, hm2, hb⟩
  have HBn : Hid (Below w20.heap.size w20 w21) := Lib.hid (hb)
  have HG_n := Lib.hid (HG.out.below HBn.out)
  have H1_n := Lib.hid (H1.out.below HBn.out (Nat.le_refl _))
  have H2_n := Lib.hid (H2.out.below HBn.out (Nat.le_refl _))
  have HPL_n := Lib.hid (HPL.out.below HBn.out (Nat.le_refl _))
  have HRL_n := Lib.hid (HRL.out.below HBn.out (Nat.le_refl _))
  have HB_n := Lib.hid (HB.out.trans (HBn.out.mono HB.out.size))
  clear HG H1 H2 HPL HRL HB
  have HG := HG_n
  have H1 := H1_n
  have H2 := H2_n
  have HPL := HPL_n
  have HRL := HRL_n
  have HB := HB_n
  clear HG_n H1_n H2_n HPL_n HRL_n HB_n HBn hb
  have HM2 := Lib.hid hm2
  clear hm2
  have g0 := HG.out.at0.1
  have g1 := HG.out.at0.2
  go_wp2_with fail
  clear g0 g1
  refine (HFa.out _ _ HM2.out).mono ?_
  rintro e w22 ⟨rfl, hb⟩
  have HBn : Hid (Below w21.heap.size w21 w22) := Lib.hid (hb)
  have HG_n := Lib.hid (HG.out.below HBn.out)
  have H1_n := Lib.hid (H1.out.below HBn.out (Nat.le_refl _))
  have H2_n := Lib.hid (H2.out.below HBn.out (Nat.le_refl _))
  have HPL_n := Lib.hid (HPL.out.below HBn.out (Nat.le_refl _))
  have HRL_n := Lib.hid (HRL.out.below HBn.out (Nat.le_refl _))
  have HM2_n := Lib.hid (HM2.out.below HBn.out (Nat.le_refl _))
  have HB_n := Lib.hid (HB.out.trans (HBn.out.mono HB.out.size))
  clear HG H1 H2 HPL HRL HM2 HB
  have HG := HG_n
  have H1 := H1_n
  have H2 := H2_n
  have HPL := HPL_n
  have HRL := HRL_n
  have HM2 := HM2_n
  have HB := HB_n
  clear HG_n H1_n H2_n HPL_n HRL_n HM2_n HB_n HBn hb
  have g0 := HG.out.at0.1
  have g1 := HG.out.at0.2
  go_wp2_with fail
  clear HM2
  clear g0 g1
  refine (HMi.out _).mono ?_
  rintro e w23 ⟨rfl, hb⟩
  have HBn : Hid (Below w22.heap.size w22 w23) := Lib.hid (hb)
  have HG_n := Lib.hid (HG.out.below HBn.out)
  have H1_n := Lib.hid (H1.out.below HBn.out (Nat.le_refl _))
  have H2_n := Lib.hid (H2.out.below HBn.out (Nat.le_refl _))
  have HPL_n := Lib.hid (HPL.out.below HBn.out (Nat.le_refl _))
  have HRL_n := Lib.hid (HRL.out.below HBn.out (Nat.le_refl _))
  have HB_n := Lib.hid (HB.out.trans (HBn.out.mono HB.out.size))
  clear HG H1 H2 HPL HRL HB
  have HG := HG_n
  have H1 := H1_n
  have H2 := H2_n
  have HPL := HPL_n
  have HRL := HRL_n
  have HB := HB_n
  clear HG_n H1_n H2_n HPL_n HRL_n HB_n HBn hb
  have g0 := HG.out.at0.1
  have g1 := HG.out.at0.2
  go_wp2_with fail
  clear g0 g1
  have HBo := HB
  have HGo := HG
  have H1o := H1
  have H2o := H2
  have HPo := HPL
  have HRo := HRL
  clear HB HG H1 H2 HPL HRL HR HPp HN1 HN2 HBl HFa HFi HMi
  go_loopw [143] (fun i w100 => ∃ s : Nat, s ≤ kM g ∧ i = .int .i64 (s : Nat) ∧ Below w23.heap.size w23 w100) (fun i _ => kM g - (intOf i).toNat)
  case atStart => exact ⟨0, Nat.zero_le _, rfl, Below.refl _ _⟩
  case round =>
    rename World => w100
    obtain ⟨s, hs, rfl, hb⟩ := hrel
    have HB := Lib.hid hb
    have HG := Lib.hid (HGo.out.below HB.out)
    have H1 := Lib.hid (H1o.out.below HB.out (Nat.le_refl _))
    have H2 := Lib.hid (H2o.out.below HB.out (Nat.le_refl _))
    have HPL := Lib.hid (HPo.out.below HB.out (Nat.le_refl _))
    clear hb
    by_cases hl : s < kM g
    · have hbit := bit_and1 FF s hF
      have HFs := Lib.hid (HFb.out s)
      cases hbk : FF.testBit s with
      | false =>
        rw [hbk] at hbit
        have hbit' : bits .and .i64 ((FF : Int) / 2 ^ s) 1 = 0 := hbit
        clear hbit hbk HFs
        go_wp2_with fail
        go_roundw
        case rel => exact ⟨s + 1, by omega, by go_num, HB.out⟩
        case measure => (first | (simp [intOf]; done) | (simp [intOf]; omega))
      | true =>
        rw [hbk] at hbit HFs
        have hbit' : bits .and .i64 ((FF : Int) / 2 ^ s) 1 = 1 := hbit
        have hfl : ln g (rt g Y s) < ln g Y := by
          have h9 := HFs.out
          rw [decide_eq_true hl, Bool.true_and] at h9
          exact of_decide_eq_true h9.symm
        have HTs := Lib.hid (HTi.out s hl)
        have HPs := Lib.hid (HPt.out s hl hfl)
        generalize nats (wd g (rt g X s)) = XL at *
        have g0 := HG.out.at0.1
        have g1 := HG.out.at0.2
        clear hbit hbk HFs hfl
        go_wp2_with fail
        clear g0 g1
        refine (HOf.out _).mono ?_
        rintro e w101 ⟨rfl, hb⟩
        have HBn : Hid (Below w100.heap.size w100 w101) := Lib.hid (hb)
        have HG_n := Lib.hid (HG.out.below HBn.out)
        have H1_n := Lib.hid (H1.out.below HBn.out (Nat.le_refl _))
        have H2_n := Lib.hid (H2.out.below HBn.out (Nat.le_refl _))
        have HPL_n := Lib.hid (HPL.out.below HBn.out (Nat.le_refl _))
        have HB_n := Lib.hid (HB.out.trans (HBn.out.mono HB.out.size))
        clear HG H1 H2 HPL HB
        have HG := HG_n
        have H1 := H1_n
        have H2 := H2_n
        have HPL := HPL_n
        have HB := HB_n
        clear HG_n H1_n H2_n HPL_n HB_n HBn hb
        have g0 := HG.out.at0.1
        have g1 := HG.out.at0.2
        go_wp2_with fail
        clear g0 g1
        refine (HLi.out _ _ H1.out).mono ?_
        rintro e w102 ⟨la9, lc9, rfl, hm1, hb⟩
        have HBn : Hid (Below w101.heap.size w101 w102) := Lib.hid (hb)
        have HG_n := Lib.hid (HG.out.below HBn.out)
        have H1_n := Lib.hid (H1.out.below HBn.out (Nat.le_refl _))
        have H2_n := Lib.hid (H2.out.below HBn.out (Nat.le_refl _))
        have HPL_n := Lib.hid (HPL.out.below HBn.out (Nat.le_refl _))
        have HB_n := Lib.hid (HB.out.trans (HBn.out.mono HB.out.size))
        clear HG H1 H2 HPL HB
        have HG := HG_n
        have H1 := H1_n
        have H2 := H2_n
        have HPL := HPL_n
        have HB := HB_n
        clear HG_n H1_n H2_n HPL_n HB_n HBn hb
        have HM1 := Lib.hid hm1
        clear hm1
        have g0 := HG.out.at0.1
        have g1 := HG.out.at0.2
        go_wp2_with fail
        clear g0 g1
        refine (HTs.out _ _ _ (HM1.out.alloc _) (one_ints _ _ _ (Blk.new _ _ _) (by unfold I64; omega))).mono ?_
        rintro e w103 ⟨ta, tc, rfl, htw, hb⟩
        have HBn : Hid (Below w102.heap.size w102 w103) := Lib.hid (bl1 hb)
        have HG_n := Lib.hid (HG.out.below HBn.out)
        have H1_n := Lib.hid (H1.out.below HBn.out (Nat.le_refl _))
        have H2_n := Lib.hid (H2.out.below HBn.out (Nat.le_refl _))
        have HPL_n := Lib.hid (HPL.out.below HBn.out (Nat.le_refl _))
        have HM1_n := Lib.hid (HM1.out.below HBn.out (Nat.le_refl _))
        have HB_n := Lib.hid (HB.out.trans (HBn.out.mono HB.out.size))
        clear HG H1 H2 HPL HM1 HB
        have HG := HG_n
        have H1 := H1_n
        have H2 := H2_n
        have HPL := HPL_n
        have HM1 := HM1_n
        have HB := HB_n
        clear HG_n H1_n H2_n HPL_n HM1_n HB_n HBn hb
        have HTW := Lib.hid htw
        clear htw
        have g0 := HG.out.at0.1
        have g1 := HG.out.at0.2
        go_wp2_with fail
        clear HM1
        clear g0 g1
        refine (HOf.out _).mono ?_
        rintro e w104 ⟨rfl, hb⟩
        have HBn : Hid (Below w103.heap.size w103 w104) := Lib.hid (hb)
        have HG_n := Lib.hid (HG.out.below HBn.out)
        have H1_n := Lib.hid (H1.out.below HBn.out (Nat.le_refl _))
        have H2_n := Lib.hid (H2.out.below HBn.out (Nat.le_refl _))
        have HPL_n := Lib.hid (HPL.out.below HBn.out (Nat.le_refl _))
        have HTW_n := Lib.hid (HTW.out.below HBn.out (Nat.le_refl _))
        have HB_n := Lib.hid (HB.out.trans (HBn.out.mono HB.out.size))
        clear HG H1 H2 HPL HTW HB
        have HG := HG_n
        have H1 := H1_n
        have H2 := H2_n
        have HPL := HPL_n
        have HTW := HTW_n
        have HB := HB_n
        clear HG_n H1_n H2_n HPL_n HTW_n HB_n HBn hb
        have g0 := HG.out.at0.1
        have g1 := HG.out.at0.2
        go_wp2_with fail
        clear g0 g1
        refine (HLj.out _ _ H2.out).mono ?_
        rintro e w105 ⟨lb9, ld9, rfl, hm2, hb⟩
        have HBn : Hid (Below w104.heap.size w104 w105) := Lib.hid (hb)
        have HG_n := Lib.hid (HG.out.below HBn.out)
        have H1_n := Lib.hid (H1.out.below HBn.out (Nat.le_refl _))
        have H2_n := Lib.hid (H2.out.below HBn.out (Nat.le_refl _))
        have HPL_n := Lib.hid (HPL.out.below HBn.out (Nat.le_refl _))
        have HTW_n := Lib.hid (HTW.out.below HBn.out (Nat.le_refl _))
        have HB_n := Lib.hid (HB.out.trans (HBn.out.mono HB.out.size))
        clear HG H1 H2 HPL HTW HB
        have HG := HG_n
        have H1 := H1_n
        have H2 := H2_n
        have HPL := HPL_n
        have HTW := HTW_n
        have HB := HB_n
        clear HG_n H1_n H2_n HPL_n HTW_n HB_n HBn hb
        have HM2 := Lib.hid hm2
        clear hm2
        have g0 := HG.out.at0.1
        have g1 := HG.out.at0.2
        go_wp2_with fail
        clear g0 g1
        refine (HPs.out _ _ _ HTW.out HM2.out).mono ?_
        rintro e w106 ⟨qa, qc, rfl, hql, hb⟩
        have HBn : Hid (Below w105.heap.size w105 w106) := Lib.hid (hb)
        have HG_n := Lib.hid (HG.out.below HBn.out)
        have H1_n := Lib.hid (H1.out.below HBn.out (Nat.le_refl _))
        have H2_n := Lib.hid (H2.out.below HBn.out (Nat.le_refl _))
        have HPL_n := Lib.hid (HPL.out.below HBn.out (Nat.le_refl _))
        have HTW_n := Lib.hid (HTW.out.below HBn.out (Nat.le_refl _))
        have HM2_n := Lib.hid (HM2.out.below HBn.out (Nat.le_refl _))
        have HB_n := Lib.hid (HB.out.trans (HBn.out.mono HB.out.size))
        clear HG H1 H2 HPL HTW HM2 HB
        have HG := HG_n
        have H1 := H1_n
        have H2 := H2_n
        have HPL := HPL_n
        have HTW := HTW_n
        have HM2 := HM2_n
        have HB := HB_n
        clear HG_n H1_n H2_n HPL_n HTW_n HM2_n HB_n HBn hb
        have HQL := Lib.hid hql
        clear hql
        have g0 := HG.out.at0.1
        have g1 := HG.out.at0.2
        go_wp2_with fail
        clear HM2 HTW
        clear g0 g1
        refine (HEq.out _ _ _ HPL.out HQL.out).mono ?_
        rintro e w107 ⟨rfl, hb⟩
        have HBn : Hid (Below w106.heap.size w106 w107) := Lib.hid (hb)
        have HG_n := Lib.hid (HG.out.below HBn.out)
        have H1_n := Lib.hid (H1.out.below HBn.out (Nat.le_refl _))
        have H2_n := Lib.hid (H2.out.below HBn.out (Nat.le_refl _))
        have HPL_n := Lib.hid (HPL.out.below HBn.out (Nat.le_refl _))
        have HQL_n := Lib.hid (HQL.out.below HBn.out (Nat.le_refl _))
        have HB_n := Lib.hid (HB.out.trans (HBn.out.mono HB.out.size))
        clear HG H1 H2 HPL HQL HB
        have HG := HG_n
        have H1 := H1_n
        have H2 := H2_n
        have HPL := HPL_n
        have HQL := HQL_n
        have HB := HB_n
        clear HG_n H1_n H2_n HPL_n HQL_n HB_n HBn hb
        have g0 := HG.out.at0.1
        have g1 := HG.out.at0.2
        go_wp2_with fail
        go_roundw
        case rel => exact ⟨s + 1, by omega, by go_num, HB.out⟩
        case measure => (first | (simp [intOf]; done) | (simp [intOf]; omega))
    · have HB9 : Hid (Below w.heap.size w w100) := Lib.hid (HBo.out.trans (HB.out.mono HBo.out.size))
      clear HB
      go_wp2_with fail
      refine (HAw.out _).mono ?_
      rintro e w200 ⟨rfl, hb⟩
      have HBz : Hid (Below w.heap.size w w200) := Lib.hid (HB9.out.trans (hb.mono HB9.out.size))
      clear hb
      go_wp2_with fail
      go_ret
      exact ⟨rfl, HBz.out⟩

/-- THE LAW MirrorSums. -/
theorem mirrorSums_law (k n : Int) (v1 v2 : Value) (l1 l2 : List Int) (w : World) (h1 : Ints w v1 l1) (h2 : Ints w v2 l2) :
    Calls Try.prog 16 #[gV k n, v1, v2] w fun e w' => e = .returned (.bool true) ∧ Below w.heap.size w w' := by
  by_cases hk : grpB k n = true
  · obtain ⟨g, hg, rfl, rfl⟩ := grp_of hk
    by_cases hw : [l1, l2].all (wordB g) = true
    · have hw1 : wordB g l1 = true := by simp at hw; exact hw.1
      have hw2 : wordB g l2 = true := by simp at hw; exact hw.2
      by_cases h3 : g = 3
      · subst h3
        have hk3 : kd 3 = 65 := by decide +kernel
        have hn3 : nm 3 = 4 := by decide +kernel
        rw [hk3, hn3]
        exact sums_size v1 v2 l1 l2 w h1 h2 hw1 hw2
      · cases hlo : loB g (folI g l1) (folI g l2) with
        | true => exact sums_yes g hg h3 v1 v2 l1 l2 w h1 h2 hw1 hw2 hlo
        | false => exact sums_no g hg h3 v1 v2 l1 l2 w h1 h2 hw1 hw2 hlo
    · have hf : [l1, l2].all (wordB g) = false := Bool.eq_false_iff.2 hw
      exact sums_bad _ _ v1 v2 l1 l2 w h1 h2 (.inr ⟨g, hg, rfl, rfl, by simpa [word_take] using hf⟩)
  · exact sums_bad k n v1 v2 l1 l2 w h1 h2 (.inl (by simpa using hk))
end Go.Proofs.Ytlnbodpdgebflaa
