/- MirrorPolynomials -/
import Derived.Test.YtlnbodpdgebflaaQt
import Derived.Test.YtlnbodpdgebflaaV3
import Derived.Test.YtlnbodpdgebflaaV4
namespace Go.Proofs.Ytlnbodpdgebflaa
open Go.RowKit
theorem equalS (l : List Int) (v v' : Value) (W : World) (h : Ints W v l) (h' : Ints W v' l) : Calls Try.prog 28 #[v, v'] W fun e w' => e = .returned (.bool true) ∧ Below W.heap.size W w' :=
  (equal_any v v' _ _ W h h').mono fun e w' hh => by
    obtain ⟨rfl, hb⟩ := hh
    exact ⟨by rw [eqB_refl], hb⟩

set_option maxRecDepth 100000 in
set_option maxHeartbeats 2000000 in
theorem pol_bad (k n : Int) (v1 v2 : Value) (l1 l2 : List Int) (w : World) (h1 : Ints w v1 l1) (h2 : Ints w v2 l2) (hb2 : Bad k n [l1.take 34, l2.take 34])
    (hfn : ∀ v W, IntRows W v [l1, l2] → Calls Try.prog 24 #[gV k n, v] W fun e w' => e = .returned (.bool false) ∧ Below W.heap.size W w') :
    Calls Try.prog 9 #[gV k n, v1, v2] w fun e w' => e = .returned (.bool true) ∧ Below w.heap.size w w' := by
  have HOf := Lib.hid (fun W => Of_any k n W)
  have HLi := Lib.hid (fun v W h => listBad l1 v W h)
  have HLj := Lib.hid (fun v W h => listBad l2 v W h)
  have HR := Lib.hid (fun v v' W h h' => R_bad k n v v' (l1.take 34) (l2.take 34) W h h' hb2)
  have HP := Lib.hid (fun v v' W h h' => P_bad k n v v' (l1.take 34) (l2.take 34) W h h' hb2)
  have HF := Lib.hid hfn
  generalize l1.take 34 = m1 at *
  generalize l2.take 34 = m2 at *
  have HAw := Lib.hid (fun W => awake_any W)
  obtain ⟨va1, vc1, rfl, _, _, _⟩ := h1.open
  obtain ⟨va2, vc2, rfl, _, _, _⟩ := h2.open
  have H10 := Lib.hid h1
  have H20 := Lib.hid h2
  clear h1 h2 hb2 hfn
  go_enter Try.func9, Try.ntmps9
  go_wp2_with fail
  refine (HOf.out _).mono ?_
  rintro e w1 ⟨rfl, hb⟩
  have HG : Hid (Blk 23 w1 w.heap.size #[.int .u8 k, .int .i64 n]) := Lib.hid ((Blk.new _ _ _).below hb)
  have HB : Hid (Below w.heap.size w w1) := Lib.hid (bl1 hb)
  have H1 := Lib.hid (H10.out.below HB.out (Nat.le_refl _))
  have H2 := Lib.hid (H20.out.below HB.out (Nat.le_refl _))
  clear hb H10 H20
  have g0 := HG.out.at0.1
  have g1 := HG.out.at0.2
  go_wp2_with fail
  clear g0 g1
  refine (HLi.out _ _ H1.out).mono ?_
  rintro e w2 ⟨la, lc, rfl, hm1, hb⟩
  have HBn : Hid (Below w1.heap.size w1 w2) := Lib.hid (hb)
  have HG_n := Lib.hid (HG.out.below HBn.out)
  have H1_n := Lib.hid (H1.out.below HBn.out (Nat.le_refl _))
  have H2_n := Lib.hid (H2.out.below HBn.out (Nat.le_refl _))
  have HB_n := Lib.hid (HB.out.trans (HBn.out.mono HB.out.size))
  clear HG H1 H2 HB
  have HG := HG_n
  have H1 := H1_n
  have H2 := H2_n
  have HB := HB_n
  clear HG_n H1_n H2_n HB_n HBn hb
  have HM1 := Lib.hid hm1
  clear hm1
  have g0 := HG.out.at0.1
  have g1 := HG.out.at0.2
  go_wp2_with fail
  clear g0 g1
  refine (HLj.out _ _ H2.out).mono ?_
  rintro e w3 ⟨lb, ld, rfl, hm2, hb⟩
  have HBn : Hid (Below w2.heap.size w2 w3) := Lib.hid (hb)
  have HG_n := Lib.hid (HG.out.below HBn.out)
  have H1_n := Lib.hid (H1.out.below HBn.out (Nat.le_refl _))
  have H2_n := Lib.hid (H2.out.below HBn.out (Nat.le_refl _))
  have HM1_n := Lib.hid (HM1.out.below HBn.out (Nat.le_refl _))
  have HB_n := Lib.hid (HB.out.trans (HBn.out.mono HB.out.size))
  clear HG H1 H2 HM1 HB
  have HG := HG_n
  have H1 := H1_n
  have H2 := H2_n
  have HM1 := HM1_n
  have HB := HB_n
  clear HG_n H1_n H2_n HM1_n HB_n HBn hb
  have HM2 := Lib.hid hm2
  clear hm2
  have g0 := HG.out.at0.1
  have g1 := HG.out.at0.2
  go_wp2_with fail
  clear g0 g1
  refine (HR.out _ _ _ HM1.out HM2.out).mono ?_
  rintro e w4 ⟨rfl, hb⟩
  have HBn : Hid (Below w3.heap.size w3 w4) := Lib.hid (hb)
  have HG_n := Lib.hid (HG.out.below HBn.out)
  have H1_n := Lib.hid (H1.out.below HBn.out (Nat.le_refl _))
  have H2_n := Lib.hid (H2.out.below HBn.out (Nat.le_refl _))
  have HM1_n := Lib.hid (HM1.out.below HBn.out (Nat.le_refl _))
  have HM2_n := Lib.hid (HM2.out.below HBn.out (Nat.le_refl _))
  have HB_n := Lib.hid (HB.out.trans (HBn.out.mono HB.out.size))
  clear HG H1 H2 HM1 HM2 HB
  have HG := HG_n
  have H1 := H1_n
  have H2 := H2_n
  have HM1 := HM1_n
  have HM2 := HM2_n
  have HB := HB_n
  clear HG_n H1_n H2_n HM1_n HM2_n HB_n HBn hb
  have g0 := HG.out.at0.1
  have g1 := HG.out.at0.2
  go_wp2_with fail
  clear HM1 HM2
  clear g0 g1
  refine (HOf.out _).mono ?_
  rintro e w5 ⟨rfl, hb⟩
  have HBn : Hid (Below w4.heap.size w4 w5) := Lib.hid (hb)
  have HG_n := Lib.hid (HG.out.below HBn.out)
  have H1_n := Lib.hid (H1.out.below HBn.out (Nat.le_refl _))
  have H2_n := Lib.hid (H2.out.below HBn.out (Nat.le_refl _))
  have HB_n := Lib.hid (HB.out.trans (HBn.out.mono HB.out.size))
  clear HG H1 H2 HB
  have HG := HG_n
  have H1 := H1_n
  have H2 := H2_n
  have HB := HB_n
  clear HG_n H1_n H2_n HB_n HBn hb
  have g0 := HG.out.at0.1
  have g1 := HG.out.at0.2
  go_wp2_with fail
  clear g0 g1
  refine (HLi.out _ _ H1.out).mono ?_
  rintro e w6 ⟨la, lc, rfl, hm1, hb⟩
  have HBn : Hid (Below w5.heap.size w5 w6) := Lib.hid (hb)
  have HG_n := Lib.hid (HG.out.below HBn.out)
  have H1_n := Lib.hid (H1.out.below HBn.out (Nat.le_refl _))
  have H2_n := Lib.hid (H2.out.below HBn.out (Nat.le_refl _))
  have HB_n := Lib.hid (HB.out.trans (HBn.out.mono HB.out.size))
  clear HG H1 H2 HB
  have HG := HG_n
  have H1 := H1_n
  have H2 := H2_n
  have HB := HB_n
  clear HG_n H1_n H2_n HB_n HBn hb
  have HM1 := Lib.hid hm1
  clear hm1
  have g0 := HG.out.at0.1
  have g1 := HG.out.at0.2
  go_wp2_with fail
  clear g0 g1
  refine (HLj.out _ _ H2.out).mono ?_
  rintro e w7 ⟨lb, ld, rfl, hm2, hb⟩
  have HBn : Hid (Below w6.heap.size w6 w7) := Lib.hid (hb)
  have HG_n := Lib.hid (HG.out.below HBn.out)
  have H1_n := Lib.hid (H1.out.below HBn.out (Nat.le_refl _))
  have H2_n := Lib.hid (H2.out.below HBn.out (Nat.le_refl _))
  have HM1_n := Lib.hid (HM1.out.below HBn.out (Nat.le_refl _))
  have HB_n := Lib.hid (HB.out.trans (HBn.out.mono HB.out.size))
  clear HG H1 H2 HM1 HB
  have HG := HG_n
  have H1 := H1_n
  have H2 := H2_n
  have HM1 := HM1_n
  have HB := HB_n
  clear HG_n H1_n H2_n HM1_n HB_n HBn hb
  have HM2 := Lib.hid hm2
  clear hm2
  have g0 := HG.out.at0.1
  have g1 := HG.out.at0.2
  go_wp2_with fail
  clear g0 g1
  refine (HP.out _ _ _ HM1.out HM2.out).mono ?_
  rintro e w8 ⟨rfl, hb⟩
  have HBn : Hid (Below w7.heap.size w7 w8) := Lib.hid (hb)
  have HG_n := Lib.hid (HG.out.below HBn.out)
  have H1_n := Lib.hid (H1.out.below HBn.out (Nat.le_refl _))
  have H2_n := Lib.hid (H2.out.below HBn.out (Nat.le_refl _))
  have HM1_n := Lib.hid (HM1.out.below HBn.out (Nat.le_refl _))
  have HM2_n := Lib.hid (HM2.out.below HBn.out (Nat.le_refl _))
  have HB_n := Lib.hid (HB.out.trans (HBn.out.mono HB.out.size))
  clear HG H1 H2 HM1 HM2 HB
  have HG := HG_n
  have H1 := H1_n
  have H2 := H2_n
  have HM1 := HM1_n
  have HM2 := HM2_n
  have HB := HB_n
  clear HG_n H1_n H2_n HM1_n HM2_n HB_n HBn hb
  have g0 := HG.out.at0.1
  have g1 := HG.out.at0.2
  go_wp2_with fail
  clear HM1 HM2
  clear g0 g1
  refine (HF.out _ _ (rows2 (Blk.new _ _ _) (H1.out.alloc _) (H2.out.alloc _))).mono ?_
  rintro e w9 ⟨rfl, hb⟩
  have HBn : Hid (Below w8.heap.size w8 w9) := Lib.hid (bl1 hb)
  have HG_n := Lib.hid (HG.out.below HBn.out)
  have H1_n := Lib.hid (H1.out.below HBn.out (Nat.le_refl _))
  have H2_n := Lib.hid (H2.out.below HBn.out (Nat.le_refl _))
  have HB_n := Lib.hid (HB.out.trans (HBn.out.mono HB.out.size))
  clear HG H1 H2 HB
  have HG := HG_n
  have H1 := H1_n
  have H2 := H2_n
  have HB := HB_n
  clear HG_n H1_n H2_n HB_n HBn hb
  have g0 := HG.out.at0.1
  have g1 := HG.out.at0.2
  go_wp2_with fail
  clear g0 g1
  refine (HAw.out _).mono ?_
  rintro e w10 ⟨rfl, hb⟩
  have HBn : Hid (Below w9.heap.size w9 w10) := Lib.hid (hb)
  have HG_n := Lib.hid (HG.out.below HBn.out)
  have H1_n := Lib.hid (H1.out.below HBn.out (Nat.le_refl _))
  have H2_n := Lib.hid (H2.out.below HBn.out (Nat.le_refl _))
  have HB_n := Lib.hid (HB.out.trans (HBn.out.mono HB.out.size))
  clear HG H1 H2 HB
  have HG := HG_n
  have H1 := H1_n
  have H2 := H2_n
  have HB := HB_n
  clear HG_n H1_n H2_n HB_n HBn hb
  have g0 := HG.out.at0.1
  have g1 := HG.out.at0.2
  go_wp2_with fail
  go_ret
  exact ⟨rfl, HB.out⟩

set_option maxRecDepth 100000 in
set_option maxHeartbeats 2000000 in
theorem pol_size (v1 v2 : Value) (l1 l2 : List Int) (w : World) (h1 : Ints w v1 l1) (h2 : Ints w v2 l2) (hw1 : wordB 3 l1 = true) (hw2 : wordB 3 l2 = true) :
    Calls Try.prog 9 #[gV 65 4, v1, v2] w fun e w' => e = .returned (.bool true) ∧ Below w.heap.size w w' := by
  have q1 : l1.length ≤ 30 := by simp [wordB] at hw1; omega
  have q2 : l2.length ≤ 30 := by simp [wordB] at hw2; omega
  have hk3 : kd 3 = 65 := by decide +kernel
  have hn3 : nm 3 = 4 := by decide +kernel
  have HOf := Lib.hid (fun W => Of_any 65 4 W)
  have HLi := Lib.hid (fun v W h => listOk q1 v W h)
  have HLj := Lib.hid (fun v W h => listOk q2 v W h)
  have HR : Hid (∀ v v' W, Ints W v l1 → Ints W v' l2 → Calls Try.prog 52 #[gV 65 4, v, v'] W fun e w' => e = .returned (.tuple #[.slice none 0 0, .int .i64 6]) ∧ Below W.heap.size W w') := Lib.hid (fun v v' W h h' => by
    have h9 := R_size v v' l1 l2 W h h' hw1 hw2
    rw [hk3, hn3] at h9
    exact h9)
  have HP : Hid (∀ v v' W, Ints W v l1 → Ints W v' l2 → Calls Try.prog 53 #[gV 65 4, v, v'] W fun e w' => e = .returned (.tuple #[.slice none 0 0, .int .i64 6]) ∧ Below W.heap.size W w') := Lib.hid (fun v v' W h h' => by
    have h9 := P_size v v' l1 l2 W h h' hw1 hw2
    rw [hk3, hn3] at h9
    exact h9)
  have HF : Hid (∀ v W, IntRows W v [l1, l2] → Calls Try.prog 24 #[gV 65 4, v] W fun e w' => e = .returned (.bool true) ∧ Below W.heap.size W w') := Lib.hid (fun v W h => by
    have h9 := fine_any 3 (by omega) v [l1, l2] W h (by simp)
    rw [hk3, hn3, show [l1, l2].all (wordB 3) = true by simp [hw1, hw2]] at h9
    exact h9)
  have HAw := Lib.hid (fun W => awake_any W)
  obtain ⟨va1, vc1, rfl, _, _, _⟩ := h1.open
  obtain ⟨va2, vc2, rfl, _, _, _⟩ := h2.open
  have H10 := Lib.hid h1
  have H20 := Lib.hid h2
  clear h1 h2 hw1 hw2 hk3 hn3
  go_enter Try.func9, Try.ntmps9
  go_wp2_with fail
  refine (HOf.out _).mono ?_
  rintro e w1 ⟨rfl, hb⟩
  have HG : Hid (Blk 23 w1 w.heap.size #[.int .u8 65, .int .i64 4]) := Lib.hid ((Blk.new _ _ _).below hb)
  have HB : Hid (Below w.heap.size w w1) := Lib.hid (bl1 hb)
  have H1 := Lib.hid (H10.out.below HB.out (Nat.le_refl _))
  have H2 := Lib.hid (H20.out.below HB.out (Nat.le_refl _))
  clear hb H10 H20
  have g0 := HG.out.at0.1
  have g1 := HG.out.at0.2
  go_wp2_with fail
  clear g0 g1
  refine (HLi.out _ _ H1.out).mono ?_
  rintro e w2 ⟨la, lc, rfl, hm1, hb⟩
  have HBn : Hid (Below w1.heap.size w1 w2) := Lib.hid (hb)
  have HG_n := Lib.hid (HG.out.below HBn.out)
  have H1_n := Lib.hid (H1.out.below HBn.out (Nat.le_refl _))
  have H2_n := Lib.hid (H2.out.below HBn.out (Nat.le_refl _))
  have HB_n := Lib.hid (HB.out.trans (HBn.out.mono HB.out.size))
  clear HG H1 H2 HB
  have HG := HG_n
  have H1 := H1_n
  have H2 := H2_n
  have HB := HB_n
  clear HG_n H1_n H2_n HB_n HBn hb
  have HM1 := Lib.hid hm1
  clear hm1
  have g0 := HG.out.at0.1
  have g1 := HG.out.at0.2
  go_wp2_with fail
  clear g0 g1
  refine (HLj.out _ _ H2.out).mono ?_
  rintro e w3 ⟨lb, ld, rfl, hm2, hb⟩
  have HBn : Hid (Below w2.heap.size w2 w3) := Lib.hid (hb)
  have HG_n := Lib.hid (HG.out.below HBn.out)
  have H1_n := Lib.hid (H1.out.below HBn.out (Nat.le_refl _))
  have H2_n := Lib.hid (H2.out.below HBn.out (Nat.le_refl _))
  have HM1_n := Lib.hid (HM1.out.below HBn.out (Nat.le_refl _))
  have HB_n := Lib.hid (HB.out.trans (HBn.out.mono HB.out.size))
  clear HG H1 H2 HM1 HB
  have HG := HG_n
  have H1 := H1_n
  have H2 := H2_n
  have HM1 := HM1_n
  have HB := HB_n
  clear HG_n H1_n H2_n HM1_n HB_n HBn hb
  have HM2 := Lib.hid hm2
  clear hm2
  have g0 := HG.out.at0.1
  have g1 := HG.out.at0.2
  go_wp2_with fail
  clear g0 g1
  refine (HR.out _ _ _ HM1.out HM2.out).mono ?_
  rintro e w4 ⟨rfl, hb⟩
  have HBn : Hid (Below w3.heap.size w3 w4) := Lib.hid (hb)
  have HG_n := Lib.hid (HG.out.below HBn.out)
  have H1_n := Lib.hid (H1.out.below HBn.out (Nat.le_refl _))
  have H2_n := Lib.hid (H2.out.below HBn.out (Nat.le_refl _))
  have HM1_n := Lib.hid (HM1.out.below HBn.out (Nat.le_refl _))
  have HM2_n := Lib.hid (HM2.out.below HBn.out (Nat.le_refl _))
  have HB_n := Lib.hid (HB.out.trans (HBn.out.mono HB.out.size))
  clear HG H1 H2 HM1 HM2 HB
  have HG := HG_n
  have H1 := H1_n
  have H2 := H2_n
  have HM1 := HM1_n
  have HM2 := HM2_n
  have HB := HB_n
  clear HG_n H1_n H2_n HM1_n HM2_n HB_n HBn hb
  have g0 := HG.out.at0.1
  have g1 := HG.out.at0.2
  go_wp2_with fail
  clear HM1 HM2
  clear g0 g1
  refine (HOf.out _).mono ?_
  rintro e w5 ⟨rfl, hb⟩
  have HBn : Hid (Below w4.heap.size w4 w5) := Lib.hid (hb)
  have HG_n := Lib.hid (HG.out.below HBn.out)
  have H1_n := Lib.hid (H1.out.below HBn.out (Nat.le_refl _))
  have H2_n := Lib.hid (H2.out.below HBn.out (Nat.le_refl _))
  have HB_n := Lib.hid (HB.out.trans (HBn.out.mono HB.out.size))
  clear HG H1 H2 HB
  have HG := HG_n
  have H1 := H1_n
  have H2 := H2_n
  have HB := HB_n
  clear HG_n H1_n H2_n HB_n HBn hb
  have g0 := HG.out.at0.1
  have g1 := HG.out.at0.2
  go_wp2_with fail
  clear g0 g1
  refine (HLi.out _ _ H1.out).mono ?_
  rintro e w6 ⟨la, lc, rfl, hm1, hb⟩
  have HBn : Hid (Below w5.heap.size w5 w6) := Lib.hid (hb)
  have HG_n := Lib.hid (HG.out.below HBn.out)
  have H1_n := Lib.hid (H1.out.below HBn.out (Nat.le_refl _))
  have H2_n := Lib.hid (H2.out.below HBn.out (Nat.le_refl _))
  have HB_n := Lib.hid (HB.out.trans (HBn.out.mono HB.out.size))
  clear HG H1 H2 HB
  have HG := HG_n
  have H1 := H1_n
  have H2 := H2_n
  have HB := HB_n
  clear HG_n H1_n H2_n HB_n HBn hb
  have HM1 := Lib.hid hm1
  clear hm1
  have g0 := HG.out.at0.1
  have g1 := HG.out.at0.2
  go_wp2_with fail
  clear g0 g1
  refine (HLj.out _ _ H2.out).mono ?_
  rintro e w7 ⟨lb, ld, rfl, hm2, hb⟩
  have HBn : Hid (Below w6.heap.size w6 w7) := Lib.hid (hb)
  have HG_n := Lib.hid (HG.out.below HBn.out)
  have H1_n := Lib.hid (H1.out.below HBn.out (Nat.le_refl _))
  have H2_n := Lib.hid (H2.out.below HBn.out (Nat.le_refl _))
  have HM1_n := Lib.hid (HM1.out.below HBn.out (Nat.le_refl _))
  have HB_n := Lib.hid (HB.out.trans (HBn.out.mono HB.out.size))
  clear HG H1 H2 HM1 HB
  have HG := HG_n
  have H1 := H1_n
  have H2 := H2_n
  have HM1 := HM1_n
  have HB := HB_n
  clear HG_n H1_n H2_n HM1_n HB_n HBn hb
  have HM2 := Lib.hid hm2
  clear hm2
  have g0 := HG.out.at0.1
  have g1 := HG.out.at0.2
  go_wp2_with fail
  clear g0 g1
  refine (HP.out _ _ _ HM1.out HM2.out).mono ?_
  rintro e w8 ⟨rfl, hb⟩
  have HBn : Hid (Below w7.heap.size w7 w8) := Lib.hid (hb)
  have HG_n := Lib.hid (HG.out.below HBn.out)
  have H1_n := Lib.hid (H1.out.below HBn.out (Nat.le_refl _))
  have H2_n := Lib.hid (H2.out.below HBn.out (Nat.le_refl _))
  have HM1_n := Lib.hid (HM1.out.below HBn.out (Nat.le_refl _))
  have HM2_n := Lib.hid (HM2.out.below HBn.out (Nat.le_refl _))
  have HB_n := Lib.hid (HB.out.trans (HBn.out.mono HB.out.size))
  clear HG H1 H2 HM1 HM2 HB
  have HG := HG_n
  have H1 := H1_n
  have H2 := H2_n
  have HM1 := HM1_n
  have HM2 := HM2_n
  have HB := HB_n
  clear HG_n H1_n H2_n HM1_n HM2_n HB_n HBn hb
  have g0 := HG.out.at0.1
  have g1 := HG.out.at0.2
  go_wp2_with fail
  clear HM1 HM2
  clear g0 g1
  refine (HF.out _ _ (rows2 (Blk.new _ _ _) (H1.out.alloc _) (H2.out.alloc _))).mono ?_
  rintro e w9 ⟨rfl, hb⟩
  have HBn : Hid (Below w8.heap.size w8 w9) := Lib.hid (bl1 hb)
  have HG_n := Lib.hid (HG.out.below HBn.out)
  have H1_n := Lib.hid (H1.out.below HBn.out (Nat.le_refl _))
  have H2_n := Lib.hid (H2.out.below HBn.out (Nat.le_refl _))
  have HB_n := Lib.hid (HB.out.trans (HBn.out.mono HB.out.size))
  clear HG H1 H2 HB
  have HG := HG_n
  have H1 := H1_n
  have H2 := H2_n
  have HB := HB_n
  clear HG_n H1_n H2_n HB_n HBn hb
  have g0 := HG.out.at0.1
  have g1 := HG.out.at0.2
  go_wp2_with fail
  clear g0 g1
  refine (HAw.out _).mono ?_
  rintro e w10 ⟨rfl, hb⟩
  have HBn : Hid (Below w9.heap.size w9 w10) := Lib.hid (hb)
  have HG_n := Lib.hid (HG.out.below HBn.out)
  have H1_n := Lib.hid (H1.out.below HBn.out (Nat.le_refl _))
  have H2_n := Lib.hid (H2.out.below HBn.out (Nat.le_refl _))
  have HB_n := Lib.hid (HB.out.trans (HBn.out.mono HB.out.size))
  clear HG H1 H2 HB
  have HG := HG_n
  have H1 := H1_n
  have H2 := H2_n
  have HB := HB_n
  clear HG_n H1_n H2_n HB_n HBn hb
  have g0 := HG.out.at0.1
  have g1 := HG.out.at0.2
  go_wp2_with fail
  go_ret
  exact ⟨rfl, HB.out⟩

set_option maxRecDepth 100000 in
set_option maxHeartbeats 4000000 in
theorem pol_ok1 (g : Nat) (hg : g < 17) (h3 : g ≠ 3) (v1 v2 : Value) (l1 l2 : List Int) (w : World) (h1 : Ints w v1 l1) (h2 : Ints w v2 l2) (hw1 : wordB g l1 = true) (hw2 : wordB g l2 = true) (hA : kd g ≠ 65) :
    Calls Try.prog 9 #[gV (kd g) (nm g), v1, v2] w fun e w' => e = .returned (.bool true) ∧ Below w.heap.size w w' := by
  have q1 : l1.length ≤ 30 := by simp [wordB] at hw1; omega
  have q2 : l2.length ≤ 30 := by simp [wordB] at hw2; omega
  have HOf := Lib.hid (fun W => Of_any (kd g) (nm g) W)
  have HLi := Lib.hid (fun v W h => listOk q1 v W h)
  have HLj := Lib.hid (fun v W h => listOk q2 v W h)
  have HFi := Lib.hid (fun v W h => fine_any g hg v [l1, l2] W h (by simp))
  rw [show [l1, l2].all (wordB g) = true by simp [hw1, hw2]] at HFi
  have HAw := Lib.hid (fun W => awake_any W)
  have HEl := Lib.hid (fun W => Elements_any g hg W)
  have hE := tE hg
  have hX := folI_lt hg hw1
  have hY := folI_lt hg hw2
  have HR := Lib.hid (fun v v' W h h' => R_ok g hg h3 v v' l1 l2 W h h' hw1 hw2)
  have HPp := Lib.hid (fun v v' W h h' => P_ok g hg h3 v v' l1 l2 W h h' hw1 hw2)
  have HNu : Hid (∀ b0 c0 b1 c1 b2 c2 v W, RP W g b0 b1 b2 → Ints W v l1 → Calls Try.prog 27 #[rV g b0 c0 b1 c1 b2 c2, .int .i64 0, v] W fun e w' => e = .returned (.int .i64 (folI g l1 : Nat)) ∧ Below W.heap.size W w') := Lib.hid (fun b0 c0 b1 c1 b2 c2 v W h hv =>
    Number_any g b0 c0 b1 c1 b2 c2 0 hg v (toN l1) W h hE.1 (hv.toN (word_let hw1)) (toN_lt (word_let hw1)))
  have HNv : Hid (∀ b0 c0 b1 c1 b2 c2 v W, RP W g b0 b1 b2 → Ints W v l2 → Calls Try.prog 27 #[rV g b0 c0 b1 c1 b2 c2, .int .i64 0, v] W fun e w' => e = .returned (.int .i64 (folI g l2 : Nat)) ∧ Below W.heap.size W w') := Lib.hid (fun b0 c0 b1 c1 b2 c2 v W h hv =>
    Number_any g b0 c0 b1 c1 b2 c2 0 hg v (toN l2) W h hE.1 (hv.toN (word_let hw2)) (toN_lt (word_let hw2)))
  generalize folI g l1 = X at *
  generalize folI g l2 = Y at *
  have HRR := Lib.hid (fun b0 c0 b1 c1 b2 c2 W h => RR_any g hg h3 b0 c0 b1 c1 b2 c2 13 Y X W (by have := (tx hg hY).2.1; omega) hY hX h)
  have HPP := Lib.hid (fun b0 c0 b1 c1 b2 c2 W h => RefP_any g b0 c0 b1 c1 b2 c2 X Y hg h3 W h hX hY)
  have HEq := Lib.hid (fun v v' W h h' => equalS (dR g X Y) v v' W h h')
  have HEp := Lib.hid (fun v v' W h h' => equalS (dP g X Y) v v' W h h')
  generalize dR g X Y = RL at *
  generalize dP g X Y = PL_ at *
  obtain ⟨va1, vc1, rfl, _, _, _⟩ := h1.open
  obtain ⟨va2, vc2, rfl, _, _, _⟩ := h2.open
  have H10 := Lib.hid h1
  have H20 := Lib.hid h2
  clear h1 h2 hw1 hw2
  have hkA : (((kd g : Nat) : Int) == 65) = false := beq_eq_false_iff_ne.2 (by omega)
  clear hA
  go_enter Try.func9, Try.ntmps9
  go_wp2_with fail
  refine (HOf.out _).mono ?_
  rintro e w1 ⟨rfl, hb⟩
  have HG : Hid (Blk 23 w1 w.heap.size #[.int .u8 (kd g), .int .i64 (nm g)]) := Lib.hid ((Blk.new _ _ _).below hb)
  have HB : Hid (Below w.heap.size w w1) := Lib.hid (bl1 hb)
  have H1 := Lib.hid (H10.out.below HB.out (Nat.le_refl _))
  have H2 := Lib.hid (H20.out.below HB.out (Nat.le_refl _))
  clear hb H10 H20
  have g0 := HG.out.at0.1
  have g1 := HG.out.at0.2
  go_wp2_with fail
  clear g0 g1
  refine (HLi.out _ _ H1.out).mono ?_
  rintro e w2 ⟨la, lc, rfl, hm1, hb⟩
  have HBn : Hid (Below w1.heap.size w1 w2) := Lib.hid (hb)
  have HG_n := Lib.hid (HG.out.below HBn.out)
  have H1_n := Lib.hid (H1.out.below HBn.out (Nat.le_refl _))
  have H2_n := Lib.hid (H2.out.below HBn.out (Nat.le_refl _))
  have HB_n := Lib.hid (HB.out.trans (HBn.out.mono HB.out.size))
  clear HG H1 H2 HB
  have HG := HG_n
  have H1 := H1_n
  have H2 := H2_n
  have HB := HB_n
  clear HG_n H1_n H2_n HB_n HBn hb
  have HM1 := Lib.hid hm1
  clear hm1
  have g0 := HG.out.at0.1
  have g1 := HG.out.at0.2
  go_wp2_with fail
  clear g0 g1
  refine (HLj.out _ _ H2.out).mono ?_
  rintro e w3 ⟨lb, ld, rfl, hm2, hb⟩
  have HBn : Hid (Below w2.heap.size w2 w3) := Lib.hid (hb)
  have HG_n := Lib.hid (HG.out.below HBn.out)
  have H1_n := Lib.hid (H1.out.below HBn.out (Nat.le_refl _))
  have H2_n := Lib.hid (H2.out.below HBn.out (Nat.le_refl _))
  have HM1_n := Lib.hid (HM1.out.below HBn.out (Nat.le_refl _))
  have HB_n := Lib.hid (HB.out.trans (HBn.out.mono HB.out.size))
  clear HG H1 H2 HM1 HB
  have HG := HG_n
  have H1 := H1_n
  have H2 := H2_n
  have HM1 := HM1_n
  have HB := HB_n
  clear HG_n H1_n H2_n HM1_n HB_n HBn hb
  have HM2 := Lib.hid hm2
  clear hm2
  have g0 := HG.out.at0.1
  have g1 := HG.out.at0.2
  go_wp2_with fail
  clear g0 g1
  refine (HR.out _ _ _ HM1.out HM2.out).mono ?_
  rintro e w4 ⟨ra, rc, rfl, hrl, hb⟩
  have HBn : Hid (Below w3.heap.size w3 w4) := Lib.hid (hb)
  have HG_n := Lib.hid (HG.out.below HBn.out)
  have H1_n := Lib.hid (H1.out.below HBn.out (Nat.le_refl _))
  have H2_n := Lib.hid (H2.out.below HBn.out (Nat.le_refl _))
  have HM1_n := Lib.hid (HM1.out.below HBn.out (Nat.le_refl _))
  have HM2_n := Lib.hid (HM2.out.below HBn.out (Nat.le_refl _))
  have HB_n := Lib.hid (HB.out.trans (HBn.out.mono HB.out.size))
  clear HG H1 H2 HM1 HM2 HB
  have HG := HG_n
  have H1 := H1_n
  have H2 := H2_n
  have HM1 := HM1_n
  have HM2 := HM2_n
  have HB := HB_n
  clear HG_n H1_n H2_n HM1_n HM2_n HB_n HBn hb
  have HRL := Lib.hid hrl
  clear hrl
  have g0 := HG.out.at0.1
  have g1 := HG.out.at0.2
  go_wp2_with fail
  clear HM1 HM2
  clear g0 g1
  refine (HOf.out _).mono ?_
  rintro e w5 ⟨rfl, hb⟩
  have HBn : Hid (Below w4.heap.size w4 w5) := Lib.hid (hb)
  have HG_n := Lib.hid (HG.out.below HBn.out)
  have H1_n := Lib.hid (H1.out.below HBn.out (Nat.le_refl _))
  have H2_n := Lib.hid (H2.out.below HBn.out (Nat.le_refl _))
  have HRL_n := Lib.hid (HRL.out.below HBn.out (Nat.le_refl _))
  have HB_n := Lib.hid (HB.out.trans (HBn.out.mono HB.out.size))
  clear HG H1 H2 HRL HB
  have HG := HG_n
  have H1 := H1_n
  have H2 := H2_n
  have HRL := HRL_n
  have HB := HB_n
  clear HG_n H1_n H2_n HRL_n HB_n HBn hb
  have g0 := HG.out.at0.1
  have g1 := HG.out.at0.2
  go_wp2_with fail
  clear g0 g1
  refine (HLi.out _ _ H1.out).mono ?_
  rintro e w6 ⟨la, lc, rfl, hm1, hb⟩
  have HBn : Hid (Below w5.heap.size w5 w6) := Lib.hid (hb)
  have HG_n := Lib.hid (HG.out.below HBn.out)
  have H1_n := Lib.hid (H1.out.below HBn.out (Nat.le_refl _))
  have H2_n := Lib.hid (H2.out.below HBn.out (Nat.le_refl _))
  have HRL_n := Lib.hid (HRL.out.below HBn.out (Nat.le_refl _))
  have HB_n := Lib.hid (HB.out.trans (HBn.out.mono HB.out.size))
  clear HG H1 H2 HRL HB
  have HG := HG_n
  have H1 := H1_n
  have H2 := H2_n
  have HRL := HRL_n
  have HB := HB_n
  clear HG_n H1_n H2_n HRL_n HB_n HBn hb
  have HM1 := Lib.hid hm1
  clear hm1
  have g0 := HG.out.at0.1
  have g1 := HG.out.at0.2
  go_wp2_with fail
  clear g0 g1
  refine (HLj.out _ _ H2.out).mono ?_
  rintro e w7 ⟨lb, ld, rfl, hm2, hb⟩
  have HBn : Hid (Below w6.heap.size w6 w7) := Lib.hid (hb)
  have HG_n := Lib.hid (HG.out.below HBn.out)
  have H1_n := Lib.hid (H1.out.below HBn.out (Nat.le_refl _))
  have H2_n := Lib.hid (H2.out.below HBn.out (Nat.le_refl _))
  have HRL_n := Lib.hid (HRL.out.below HBn.out (Nat.le_refl _))
  have HM1_n := Lib.hid (HM1.out.below HBn.out (Nat.le_refl _))
  have HB_n := Lib.hid (HB.out.trans (HBn.out.mono HB.out.size))
  clear HG H1 H2 HRL HM1 HB
  have HG := HG_n
  have H1 := H1_n
  have H2 := H2_n
  have HRL := HRL_n
  have HM1 := HM1_n
  have HB := HB_n
  clear HG_n H1_n H2_n HRL_n HM1_n HB_n HBn hb
  have HM2 := Lib.hid hm2
  clear hm2
  have g0 := HG.out.at0.1
  have g1 := HG.out.at0.2
  go_wp2_with fail
  clear g0 g1
  refine (HPp.out _ _ _ HM1.out HM2.out).mono ?_
  rintro e w8 ⟨pa, pc, rfl, hpl, hb⟩
  have HBn : Hid (Below w7.heap.size w7 w8) := Lib.hid (hb)
  have HG_n := Lib.hid (HG.out.below HBn.out)
  have H1_n := Lib.hid (H1.out.below HBn.out (Nat.le_refl _))
  have H2_n := Lib.hid (H2.out.below HBn.out (Nat.le_refl _))
  have HRL_n := Lib.hid (HRL.out.below HBn.out (Nat.le_refl _))
  have HM1_n := Lib.hid (HM1.out.below HBn.out (Nat.le_refl _))
  have HM2_n := Lib.hid (HM2.out.below HBn.out (Nat.le_refl _))
  have HB_n := Lib.hid (HB.out.trans (HBn.out.mono HB.out.size))
  clear HG H1 H2 HRL HM1 HM2 HB
  have HG := HG_n
  have H1 := H1_n
  have H2 := H2_n
  have HRL := HRL_n
  have HM1 := HM1_n
  have HM2 := HM2_n
  have HB := HB_n
  clear HG_n H1_n H2_n HRL_n HM1_n HM2_n HB_n HBn hb
  have HPL := Lib.hid hpl
  clear hpl
  have g0 := HG.out.at0.1
  have g1 := HG.out.at0.2
  go_wp2_with fail
  clear HM1 HM2
  clear g0 g1
  refine (HFi.out _ _ (rows2 (Blk.new _ _ _) (H1.out.alloc _) (H2.out.alloc _))).mono ?_
  rintro e w9 ⟨rfl, hb⟩
  have HBn : Hid (Below w8.heap.size w8 w9) := Lib.hid (bl1 hb)
  have HG_n := Lib.hid (HG.out.below HBn.out)
  have H1_n := Lib.hid (H1.out.below HBn.out (Nat.le_refl _))
  have H2_n := Lib.hid (H2.out.below HBn.out (Nat.le_refl _))
  have HRL_n := Lib.hid (HRL.out.below HBn.out (Nat.le_refl _))
  have HPL_n := Lib.hid (HPL.out.below HBn.out (Nat.le_refl _))
  have HB_n := Lib.hid (HB.out.trans (HBn.out.mono HB.out.size))
  clear HG H1 H2 HRL HPL HB
  have HG := HG_n
  have H1 := H1_n
  have H2 := H2_n
  have HRL := HRL_n
  have HPL := HPL_n
  have HB := HB_n
  clear HG_n H1_n H2_n HRL_n HPL_n HB_n HBn hb
  have g0 := HG.out.at0.1
  have g1 := HG.out.at0.2
  go_wp2_with fail
  clear g0 g1
  refine (HEl.out _).mono ?_
  rintro e w10 ⟨tv, rfl, hrt, hb⟩
  have HBn : Hid (Below w9.heap.size w9 w10) := Lib.hid (hb)
  have HG_n := Lib.hid (HG.out.below HBn.out)
  have H1_n := Lib.hid (H1.out.below HBn.out (Nat.le_refl _))
  have H2_n := Lib.hid (H2.out.below HBn.out (Nat.le_refl _))
  have HRL_n := Lib.hid (HRL.out.below HBn.out (Nat.le_refl _))
  have HPL_n := Lib.hid (HPL.out.below HBn.out (Nat.le_refl _))
  have HB_n := Lib.hid (HB.out.trans (HBn.out.mono HB.out.size))
  clear HG H1 H2 HRL HPL HB
  have HG := HG_n
  have H1 := H1_n
  have H2 := H2_n
  have HRL := HRL_n
  have HPL := HPL_n
  have HB := HB_n
  clear HG_n H1_n H2_n HRL_n HPL_n HB_n HBn hb
  have HRT := Lib.hid hrt
  clear hrt
  have g0 := HG.out.at0.1
  have g1 := HG.out.at0.2
  obtain ⟨b0, c0, b1, c1, b2, c2, rfl, hpp, hcc⟩ := HRT.out
  have HP : Hid (RP w10 g b0 b1 b2) := Lib.hid ⟨hpp.1, hpp.2.1, hpp.2.2⟩
  clear hpp hcc HRT
  unfold rV at HNu HNv HRR HPP
  have HBz : Hid (Below w10.heap.size w10 (w10.alloc (.cells #[.slice (some ⟨b0, 0, none⟩) (nE g) c0, .slice (some ⟨b1, 0, none⟩) (nE g) c1, .slice (some ⟨b2, 0, none⟩) (nE g) c2] 39))) := Lib.hid (a1 _ _)
  have HRz := Lib.hid (HP.out.box c0 c1 c2)
  go_wp2_with fail
  clear g0 g1 HP
  generalize w10.alloc (.cells #[.slice (some ⟨b0, 0, none⟩) (nE g) c0, .slice (some ⟨b1, 0, none⟩) (nE g) c1, .slice (some ⟨b2, 0, none⟩) (nE g) c2] 39) = wz at *
  have H1z := Lib.hid (H1.out.below HBz.out (Nat.le_refl _))
  have H2z := Lib.hid (H2.out.below HBz.out (Nat.le_refl _))
  have HRlz := Lib.hid (HRL.out.below HBz.out (Nat.le_refl _))
  have HPlz := Lib.hid (HPL.out.below HBz.out (Nat.le_refl _))
  have HBw : Hid (Below w.heap.size w wz) := Lib.hid (HB.out.trans (HBz.out.mono HB.out.size))
  clear H1 H2 HRL HPL HB HG
  refine wp_region_held_drew (S := fun W => RB W w10.heap.size g b0 c0 b1 c1 b2 c2) (by kernel_rfl) (HRz.out.below (below_drew (Below.refl _ _))) (fun hS0 => ?_)
  have hBd : Below wz.heap.size wz wz.drew := below_drew (Below.refl _ _)
  refine tk0 (v := (.agg #[.slice (some ⟨b0, 0, none⟩) (nE g) c0, .slice (some ⟨b1, 0, none⟩) (nE g) c1, .slice (some ⟨b2, 0, none⟩) (nE g) c2])) (by kernel_rfl) (by kernel_rfl) (by kernel_rfl) (fun _ _ _ h => h) (Or.inl ⟨by kernel_rfl, fun w' hSw => by (have h0 := hSw.at.1; have h1 := hSw.at.2.1; have h2 := hSw.at.2.2; go_simp)⟩) hS0 ?_
  try simp only [Act.put, List.setIfInBounds_toArray, List.set_cons_zero, List.set_cons_succ]
  refine tk1 (v := (.slice va1 l1.length vc1)) (by kernel_rfl) (by kernel_rfl) (by kernel_rfl) (fun _ _ _ h => h) (Or.inl ⟨by kernel_rfl, fun w' hSw => by go_simp⟩) hS0 ?_
  try simp only [Act.put, List.setIfInBounds_toArray, List.set_cons_zero, List.set_cons_succ]
  refine tk3 (v := (.agg #[.slice (some ⟨b0, 0, none⟩) (nE g) c0, .slice (some ⟨b1, 0, none⟩) (nE g) c1, .slice (some ⟨b2, 0, none⟩) (nE g) c2])) (by kernel_rfl) (by kernel_rfl) (by kernel_rfl) (fun _ _ _ h => h) (Or.inl ⟨by kernel_rfl, fun w' hSw => by (have h0 := hSw.at.1; have h1 := hSw.at.2.1; have h2 := hSw.at.2.2; go_simp)⟩) hS0 ?_
  try simp only [Act.put, List.setIfInBounds_toArray, List.set_cons_zero, List.set_cons_succ]
  refine tk4 (v := (.slice va2 l2.length vc2)) (by kernel_rfl) (by kernel_rfl) (by kernel_rfl) (fun _ _ _ h => h) (Or.inl ⟨by kernel_rfl, fun w' hSw => by go_simp⟩) hS0 ?_
  try simp only [Act.put, List.setIfInBounds_toArray, List.set_cons_zero, List.set_cons_succ]
  refine wpAnyH_ready (rs := [2]) (by kernel_rfl) (by simp) (AllReadyH.cons rfl (fun K hK => ?_) AllReadyH.nil)
  rw [if_pos (by kernel_rfl)]
  go_simp
  refine (HNu.out _ _ _ _ _ _ _ _ hS0.rp (H1z.out.below hBd (Nat.le_refl _))).mono ?_
  rintro e wa ⟨rfl, hba⟩
  have hSa := hS0.below hba
  refine hK.out _ _ hSa fun _ => ?_
  clear hK
  refine wpAnyH_ready (rs := [5]) (by kernel_rfl) (by simp) (AllReadyH.cons rfl (fun K hK => ?_) AllReadyH.nil)
  rw [if_pos (by kernel_rfl)]
  go_simp
  refine (HNv.out _ _ _ _ _ _ _ _ hSa.rp ((H2z.out.below hBd (Nat.le_refl _)).below hba (Nat.le_refl _))).mono ?_
  rintro e wb ⟨rfl, hbb⟩
  have hSb := hSa.below hbb
  refine hK.out _ _ hSb fun _ => ?_
  clear hK
  refine tk6 (v := (.int .i64 (X : Nat))) (by kernel_rfl) (by kernel_rfl) (by kernel_rfl) (fun _ _ _ h => h) (Or.inl ⟨by kernel_rfl, fun w' hSw => by go_simp⟩) hSb ?_
  try simp only [Act.put, List.setIfInBounds_toArray, List.set_cons_zero, List.set_cons_succ]
  refine tk7 (v := (.int .i64 (Y : Nat))) (by kernel_rfl) (by kernel_rfl) (by kernel_rfl) (fun _ _ _ h => h) (Or.inl ⟨by kernel_rfl, fun w' hSw => by go_simp⟩) hSb ?_
  try simp only [Act.put, List.setIfInBounds_toArray, List.set_cons_zero, List.set_cons_succ]
  refine wpAnyH_done (by kernel_rfl) ?_ _
  have hBb : Below wz.heap.size wz wb := hBd.trans ((hba.mono hBd.size).trans (hbb.mono (Nat.le_trans hBd.size hba.size)))
  have HRL := Lib.hid (HRlz.out.below hBb (Nat.le_refl _))
  have HPL := Lib.hid (HPlz.out.below hBb (Nat.le_refl _))
  have HRb := Lib.hid hSb
  have HB : Hid (Below w.heap.size w wb) := Lib.hid (HBw.out.trans (hBb.mono HBw.out.size))
  clear hS0 hSa hSb hBd hba hbb hBb HRlz HPlz H1z H2z HBw HBz HRz
  have t0 := HRb.out.at.1
  have t1 := HRb.out.at.2.1
  have t2 := HRb.out.at.2.2
  go_wp2_with fail
  refine (HRR.out _ _ _ _ _ _ _ HRb.out.rp).mono ?_
  rintro e x1 ⟨fa, fc, rfl, hf, hb⟩
  have HF1 := Lib.hid hf
  have HRL1 := Lib.hid (HRL.out.below hb (Nat.le_refl _))
  have HPL1 := Lib.hid (HPL.out.below hb (Nat.le_refl _))
  have HRb1 := Lib.hid (HRb.out.below hb)
  have HB1 : Hid (Below w.heap.size w x1) := Lib.hid (HB.out.trans (hb.mono HB.out.size))
  clear hf hb t0 t1 t2 HRL HPL HRb HB
  go_wp2_with fail
  refine (HEq.out _ _ _ HRL1.out HF1.out).mono ?_
  rintro e x2 ⟨rfl, hb⟩
  have HPL2 := Lib.hid (HPL1.out.below hb (Nat.le_refl _))
  have HRb2 := Lib.hid (HRb1.out.below hb)
  have HB2 : Hid (Below w.heap.size w x2) := Lib.hid (HB1.out.trans (hb.mono HB1.out.size))
  clear hb HPL1 HRb1 HB1 HRL1 HF1
  have t0 := HRb2.out.at.1
  have t1 := HRb2.out.at.2.1
  have t2 := HRb2.out.at.2.2
  go_wp2_with fail
  refine (HPP.out _ _ _ _ _ _ _ HRb2.out.rp).mono ?_
  rintro e x3 ⟨fa', fc', rfl, hf, hb⟩
  have HF3 := Lib.hid hf
  have HPL3 := Lib.hid (HPL2.out.below hb (Nat.le_refl _))
  have HB3 : Hid (Below w.heap.size w x3) := Lib.hid (HB2.out.trans (hb.mono HB2.out.size))
  clear hf hb t0 t1 t2 HPL2 HRb2 HB2
  go_wp2_with fail
  refine (HEp.out _ _ _ HPL3.out HF3.out).mono ?_
  rintro e x4 ⟨rfl, hb⟩
  have HB4 : Hid (Below w.heap.size w x4) := Lib.hid (HB3.out.trans (hb.mono HB3.out.size))
  clear hb HPL3 HF3 HB3
  go_wp2_with fail
  refine (HAw.out _).mono ?_
  rintro e x5 ⟨rfl, hb⟩
  have HB5 : Hid (Below w.heap.size w x5) := Lib.hid (HB4.out.trans (hb.mono HB4.out.size))
  clear hb
  go_wp2_with fail
  go_ret
  exact ⟨rfl, HB5.out⟩

set_option maxRecDepth 100000 in
set_option maxHeartbeats 4000000 in
theorem pol_ok2 (g : Nat) (hg : g < 17) (h3 : g ≠ 3) (v1 v2 : Value) (l1 l2 : List Int) (w : World) (h1 : Ints w v1 l1) (h2 : Ints w v2 l2) (hw1 : wordB g l1 = true) (hw2 : wordB g l2 = true) (hA : kd g = 65) (hN : nm g ≠ 4) :
    Calls Try.prog 9 #[gV (kd g) (nm g), v1, v2] w fun e w' => e = .returned (.bool true) ∧ Below w.heap.size w w' := by
  have q1 : l1.length ≤ 30 := by simp [wordB] at hw1; omega
  have q2 : l2.length ≤ 30 := by simp [wordB] at hw2; omega
  have HOf := Lib.hid (fun W => Of_any (kd g) (nm g) W)
  have HLi := Lib.hid (fun v W h => listOk q1 v W h)
  have HLj := Lib.hid (fun v W h => listOk q2 v W h)
  have HFi := Lib.hid (fun v W h => fine_any g hg v [l1, l2] W h (by simp))
  rw [show [l1, l2].all (wordB g) = true by simp [hw1, hw2]] at HFi
  have HAw := Lib.hid (fun W => awake_any W)
  have HEl := Lib.hid (fun W => Elements_any g hg W)
  have hE := tE hg
  have hX := folI_lt hg hw1
  have hY := folI_lt hg hw2
  have HR := Lib.hid (fun v v' W h h' => R_ok g hg h3 v v' l1 l2 W h h' hw1 hw2)
  have HPp := Lib.hid (fun v v' W h h' => P_ok g hg h3 v v' l1 l2 W h h' hw1 hw2)
  have HNu : Hid (∀ b0 c0 b1 c1 b2 c2 v W, RP W g b0 b1 b2 → Ints W v l1 → Calls Try.prog 27 #[rV g b0 c0 b1 c1 b2 c2, .int .i64 0, v] W fun e w' => e = .returned (.int .i64 (folI g l1 : Nat)) ∧ Below W.heap.size W w') := Lib.hid (fun b0 c0 b1 c1 b2 c2 v W h hv =>
    Number_any g b0 c0 b1 c1 b2 c2 0 hg v (toN l1) W h hE.1 (hv.toN (word_let hw1)) (toN_lt (word_let hw1)))
  have HNv : Hid (∀ b0 c0 b1 c1 b2 c2 v W, RP W g b0 b1 b2 → Ints W v l2 → Calls Try.prog 27 #[rV g b0 c0 b1 c1 b2 c2, .int .i64 0, v] W fun e w' => e = .returned (.int .i64 (folI g l2 : Nat)) ∧ Below W.heap.size W w') := Lib.hid (fun b0 c0 b1 c1 b2 c2 v W h hv =>
    Number_any g b0 c0 b1 c1 b2 c2 0 hg v (toN l2) W h hE.1 (hv.toN (word_let hw2)) (toN_lt (word_let hw2)))
  generalize folI g l1 = X at *
  generalize folI g l2 = Y at *
  have HRR := Lib.hid (fun b0 c0 b1 c1 b2 c2 W h => RR_any g hg h3 b0 c0 b1 c1 b2 c2 13 Y X W (by have := (tx hg hY).2.1; omega) hY hX h)
  have HPP := Lib.hid (fun b0 c0 b1 c1 b2 c2 W h => RefP_any g b0 c0 b1 c1 b2 c2 X Y hg h3 W h hX hY)
  have HEq := Lib.hid (fun v v' W h h' => equalS (dR g X Y) v v' W h h')
  have HEp := Lib.hid (fun v v' W h h' => equalS (dP g X Y) v v' W h h')
  generalize dR g X Y = RL at *
  generalize dP g X Y = PL_ at *
  obtain ⟨va1, vc1, rfl, _, _, _⟩ := h1.open
  obtain ⟨va2, vc2, rfl, _, _, _⟩ := h2.open
  have H10 := Lib.hid h1
  have H20 := Lib.hid h2
  clear h1 h2 hw1 hw2
  have hkA : (((kd g : Nat) : Int) == 65) = true := beq_iff_eq.2 (by omega)
  have hnA : (((nm g : Nat) : Int) == 4) = false := beq_eq_false_iff_ne.2 (by omega)
  clear hA hN
  go_enter Try.func9, Try.ntmps9
  go_wp2_with fail
  refine (HOf.out _).mono ?_
  rintro e w1 ⟨rfl, hb⟩
  have HG : Hid (Blk 23 w1 w.heap.size #[.int .u8 (kd g), .int .i64 (nm g)]) := Lib.hid ((Blk.new _ _ _).below hb)
  have HB : Hid (Below w.heap.size w w1) := Lib.hid (bl1 hb)
  have H1 := Lib.hid (H10.out.below HB.out (Nat.le_refl _))
  have H2 := Lib.hid (H20.out.below HB.out (Nat.le_refl _))
  clear hb H10 H20
  have g0 := HG.out.at0.1
  have g1 := HG.out.at0.2
  go_wp2_with fail
  clear g0 g1
  refine (HLi.out _ _ H1.out).mono ?_
  rintro e w2 ⟨la, lc, rfl, hm1, hb⟩
  have HBn : Hid (Below w1.heap.size w1 w2) := Lib.hid (hb)
  have HG_n := Lib.hid (HG.out.below HBn.out)
  have H1_n := Lib.hid (H1.out.below HBn.out (Nat.le_refl _))
  have H2_n := Lib.hid (H2.out.below HBn.out (Nat.le_refl _))
  have HB_n := Lib.hid (HB.out.trans (HBn.out.mono HB.out.size))
  clear HG H1 H2 HB
  have HG := HG_n
  have H1 := H1_n
  have H2 := H2_n
  have HB := HB_n
  clear HG_n H1_n H2_n HB_n HBn hb
  have HM1 := Lib.hid hm1
  clear hm1
  have g0 := HG.out.at0.1
  have g1 := HG.out.at0.2
  go_wp2_with fail
  clear g0 g1
  refine (HLj.out _ _ H2.out).mono ?_
  rintro e w3 ⟨lb, ld, rfl, hm2, hb⟩
  have HBn : Hid (Below w2.heap.size w2 w3) := Lib.hid (hb)
  have HG_n := Lib.hid (HG.out.below HBn.out)
  have H1_n := Lib.hid (H1.out.below HBn.out (Nat.le_refl _))
  have H2_n := Lib.hid (H2.out.below HBn.out (Nat.le_refl _))
  have HM1_n := Lib.hid (HM1.out.below HBn.out (Nat.le_refl _))
  have HB_n := Lib.hid (HB.out.trans (HBn.out.mono HB.out.size))
  clear HG H1 H2 HM1 HB
  have HG := HG_n
  have H1 := H1_n
  have H2 := H2_n
  have HM1 := HM1_n
  have HB := HB_n
  clear HG_n H1_n H2_n HM1_n HB_n HBn hb
  have HM2 := Lib.hid hm2
  clear hm2
  have g0 := HG.out.at0.1
  have g1 := HG.out.at0.2
  go_wp2_with fail
  clear g0 g1
  refine (HR.out _ _ _ HM1.out HM2.out).mono ?_
  rintro e w4 ⟨ra, rc, rfl, hrl, hb⟩
  have HBn : Hid (Below w3.heap.size w3 w4) := Lib.hid (hb)
  have HG_n := Lib.hid (HG.out.below HBn.out)
  have H1_n := Lib.hid (H1.out.below HBn.out (Nat.le_refl _))
  have H2_n := Lib.hid (H2.out.below HBn.out (Nat.le_refl _))
  have HM1_n := Lib.hid (HM1.out.below HBn.out (Nat.le_refl _))
  have HM2_n := Lib.hid (HM2.out.below HBn.out (Nat.le_refl _))
  have HB_n := Lib.hid (HB.out.trans (HBn.out.mono HB.out.size))
  clear HG H1 H2 HM1 HM2 HB
  have HG := HG_n
  have H1 := H1_n
  have H2 := H2_n
  have HM1 := HM1_n
  have HM2 := HM2_n
  have HB := HB_n
  clear HG_n H1_n H2_n HM1_n HM2_n HB_n HBn hb
  have HRL := Lib.hid hrl
  clear hrl
  have g0 := HG.out.at0.1
  have g1 := HG.out.at0.2
  go_wp2_with fail
  clear HM1 HM2
  clear g0 g1
  refine (HOf.out _).mono ?_
  rintro e w5 ⟨rfl, hb⟩
  have HBn : Hid (Below w4.heap.size w4 w5) := Lib.hid (hb)
  have HG_n := Lib.hid (HG.out.below HBn.out)
  have H1_n := Lib.hid (H1.out.below HBn.out (Nat.le_refl _))
  have H2_n := Lib.hid (H2.out.below HBn.out (Nat.le_refl _))
  have HRL_n := Lib.hid (HRL.out.below HBn.out (Nat.le_refl _))
  have HB_n := Lib.hid (HB.out.trans (HBn.out.mono HB.out.size))
  clear HG H1 H2 HRL HB
  have HG := HG_n
  have H1 := H1_n
  have H2 := H2_n
  have HRL := HRL_n
  have HB := HB_n
  clear HG_n H1_n H2_n HRL_n HB_n HBn hb
  have g0 := HG.out.at0.1
  have g1 := HG.out.at0.2
  go_wp2_with fail
  clear g0 g1
  refine (HLi.out _ _ H1.out).mono ?_
  rintro e w6 ⟨la, lc, rfl, hm1, hb⟩
  have HBn : Hid (Below w5.heap.size w5 w6) := Lib.hid (hb)
  have HG_n := Lib.hid (HG.out.below HBn.out)
  have H1_n := Lib.hid (H1.out.below HBn.out (Nat.le_refl _))
  have H2_n := Lib.hid (H2.out.below HBn.out (Nat.le_refl _))
  have HRL_n := Lib.hid (HRL.out.below HBn.out (Nat.le_refl _))
  have HB_n := Lib.hid (HB.out.trans (HBn.out.mono HB.out.size))
  clear HG H1 H2 HRL HB
  have HG := HG_n
  have H1 := H1_n
  have H2 := H2_n
  have HRL := HRL_n
  have HB := HB_n
  clear HG_n H1_n H2_n HRL_n HB_n HBn hb
  have HM1 := Lib.hid hm1
  clear hm1
  have g0 := HG.out.at0.1
  have g1 := HG.out.at0.2
  go_wp2_with fail
  clear g0 g1
  refine (HLj.out _ _ H2.out).mono ?_
  rintro e w7 ⟨lb, ld, rfl, hm2, hb⟩
  have HBn : Hid (Below w6.heap.size w6 w7) := Lib.hid (hb)
  have HG_n := Lib.hid (HG.out.below HBn.out)
  have H1_n := Lib.hid (H1.out.below HBn.out (Nat.le_refl _))
  have H2_n := Lib.hid (H2.out.below HBn.out (Nat.le_refl _))
  have HRL_n := Lib.hid (HRL.out.below HBn.out (Nat.le_refl _))
  have HM1_n := Lib.hid (HM1.out.below HBn.out (Nat.le_refl _))
  have HB_n := Lib.hid (HB.out.trans (HBn.out.mono HB.out.size))
  clear HG H1 H2 HRL HM1 HB
  have HG := HG_n
  have H1 := H1_n
  have H2 := H2_n
  have HRL := HRL_n
  have HM1 := HM1_n
  have HB := HB_n
  clear HG_n H1_n H2_n HRL_n HM1_n HB_n HBn hb
  have HM2 := Lib.hid hm2
  clear hm2
  have g0 := HG.out.at0.1
  have g1 := HG.out.at0.2
  go_wp2_with fail
  clear g0 g1
  refine (HPp.out _ _ _ HM1.out HM2.out).mono ?_
  rintro e w8 ⟨pa, pc, rfl, hpl, hb⟩
  have HBn : Hid (Below w7.heap.size w7 w8) := Lib.hid (hb)
  have HG_n := Lib.hid (HG.out.below HBn.out)
  have H1_n := Lib.hid (H1.out.below HBn.out (Nat.le_refl _))
  have H2_n := Lib.hid (H2.out.below HBn.out (Nat.le_refl _))
  have HRL_n := Lib.hid (HRL.out.below HBn.out (Nat.le_refl _))
  have HM1_n := Lib.hid (HM1.out.below HBn.out (Nat.le_refl _))
  have HM2_n := Lib.hid (HM2.out.below HBn.out (Nat.le_refl _))
  have HB_n := Lib.hid (HB.out.trans (HBn.out.mono HB.out.size))
  clear HG H1 H2 HRL HM1 HM2 HB
  have HG := HG_n
  have H1 := H1_n
  have H2 := H2_n
  have HRL := HRL_n
  have HM1 := HM1_n
  have HM2 := HM2_n
  have HB := HB_n
  clear HG_n H1_n H2_n HRL_n HM1_n HM2_n HB_n HBn hb
  have HPL := Lib.hid hpl
  clear hpl
  have g0 := HG.out.at0.1
  have g1 := HG.out.at0.2
  go_wp2_with fail
  clear HM1 HM2
  clear g0 g1
  refine (HFi.out _ _ (rows2 (Blk.new _ _ _) (H1.out.alloc _) (H2.out.alloc _))).mono ?_
  rintro e w9 ⟨rfl, hb⟩
  have HBn : Hid (Below w8.heap.size w8 w9) := Lib.hid (bl1 hb)
  have HG_n := Lib.hid (HG.out.below HBn.out)
  have H1_n := Lib.hid (H1.out.below HBn.out (Nat.le_refl _))
  have H2_n := Lib.hid (H2.out.below HBn.out (Nat.le_refl _))
  have HRL_n := Lib.hid (HRL.out.below HBn.out (Nat.le_refl _))
  have HPL_n := Lib.hid (HPL.out.below HBn.out (Nat.le_refl _))
  have HB_n := Lib.hid (HB.out.trans (HBn.out.mono HB.out.size))
  clear HG H1 H2 HRL HPL HB
  have HG := HG_n
  have H1 := H1_n
  have H2 := H2_n
  have HRL := HRL_n
  have HPL := HPL_n
  have HB := HB_n
  clear HG_n H1_n H2_n HRL_n HPL_n HB_n HBn hb
  have g0 := HG.out.at0.1
  have g1 := HG.out.at0.2
  go_wp2_with fail
  clear g0 g1
  refine (HEl.out _).mono ?_
  rintro e w10 ⟨tv, rfl, hrt, hb⟩
  have HBn : Hid (Below w9.heap.size w9 w10) := Lib.hid (hb)
  have HG_n := Lib.hid (HG.out.below HBn.out)
  have H1_n := Lib.hid (H1.out.below HBn.out (Nat.le_refl _))
  have H2_n := Lib.hid (H2.out.below HBn.out (Nat.le_refl _))
  have HRL_n := Lib.hid (HRL.out.below HBn.out (Nat.le_refl _))
  have HPL_n := Lib.hid (HPL.out.below HBn.out (Nat.le_refl _))
  have HB_n := Lib.hid (HB.out.trans (HBn.out.mono HB.out.size))
  clear HG H1 H2 HRL HPL HB
  have HG := HG_n
  have H1 := H1_n
  have H2 := H2_n
  have HRL := HRL_n
  have HPL := HPL_n
  have HB := HB_n
  clear HG_n H1_n H2_n HRL_n HPL_n HB_n HBn hb
  have HRT := Lib.hid hrt
  clear hrt
  have g0 := HG.out.at0.1
  have g1 := HG.out.at0.2
  obtain ⟨b0, c0, b1, c1, b2, c2, rfl, hpp, hcc⟩ := HRT.out
  have HP : Hid (RP w10 g b0 b1 b2) := Lib.hid ⟨hpp.1, hpp.2.1, hpp.2.2⟩
  clear hpp hcc HRT
  unfold rV at HNu HNv HRR HPP
  have HBz : Hid (Below w10.heap.size w10 (w10.alloc (.cells #[.slice (some ⟨b0, 0, none⟩) (nE g) c0, .slice (some ⟨b1, 0, none⟩) (nE g) c1, .slice (some ⟨b2, 0, none⟩) (nE g) c2] 39))) := Lib.hid (a1 _ _)
  have HRz := Lib.hid (HP.out.box c0 c1 c2)
  go_wp2_with fail
  clear g0 g1 HP
  generalize w10.alloc (.cells #[.slice (some ⟨b0, 0, none⟩) (nE g) c0, .slice (some ⟨b1, 0, none⟩) (nE g) c1, .slice (some ⟨b2, 0, none⟩) (nE g) c2] 39) = wz at *
  have H1z := Lib.hid (H1.out.below HBz.out (Nat.le_refl _))
  have H2z := Lib.hid (H2.out.below HBz.out (Nat.le_refl _))
  have HRlz := Lib.hid (HRL.out.below HBz.out (Nat.le_refl _))
  have HPlz := Lib.hid (HPL.out.below HBz.out (Nat.le_refl _))
  have HBw : Hid (Below w.heap.size w wz) := Lib.hid (HB.out.trans (HBz.out.mono HB.out.size))
  clear H1 H2 HRL HPL HB HG
  refine wp_region_held_drew (S := fun W => RB W w10.heap.size g b0 c0 b1 c1 b2 c2) (by kernel_rfl) (HRz.out.below (below_drew (Below.refl _ _))) (fun hS0 => ?_)
  have hBd : Below wz.heap.size wz wz.drew := below_drew (Below.refl _ _)
  refine tk0 (v := (.agg #[.slice (some ⟨b0, 0, none⟩) (nE g) c0, .slice (some ⟨b1, 0, none⟩) (nE g) c1, .slice (some ⟨b2, 0, none⟩) (nE g) c2])) (by kernel_rfl) (by kernel_rfl) (by kernel_rfl) (fun _ _ _ h => h) (Or.inl ⟨by kernel_rfl, fun w' hSw => by (have h0 := hSw.at.1; have h1 := hSw.at.2.1; have h2 := hSw.at.2.2; go_simp)⟩) hS0 ?_
  try simp only [Act.put, List.setIfInBounds_toArray, List.set_cons_zero, List.set_cons_succ]
  refine tk1 (v := (.slice va1 l1.length vc1)) (by kernel_rfl) (by kernel_rfl) (by kernel_rfl) (fun _ _ _ h => h) (Or.inl ⟨by kernel_rfl, fun w' hSw => by go_simp⟩) hS0 ?_
  try simp only [Act.put, List.setIfInBounds_toArray, List.set_cons_zero, List.set_cons_succ]
  refine tk3 (v := (.agg #[.slice (some ⟨b0, 0, none⟩) (nE g) c0, .slice (some ⟨b1, 0, none⟩) (nE g) c1, .slice (some ⟨b2, 0, none⟩) (nE g) c2])) (by kernel_rfl) (by kernel_rfl) (by kernel_rfl) (fun _ _ _ h => h) (Or.inl ⟨by kernel_rfl, fun w' hSw => by (have h0 := hSw.at.1; have h1 := hSw.at.2.1; have h2 := hSw.at.2.2; go_simp)⟩) hS0 ?_
  try simp only [Act.put, List.setIfInBounds_toArray, List.set_cons_zero, List.set_cons_succ]
  refine tk4 (v := (.slice va2 l2.length vc2)) (by kernel_rfl) (by kernel_rfl) (by kernel_rfl) (fun _ _ _ h => h) (Or.inl ⟨by kernel_rfl, fun w' hSw => by go_simp⟩) hS0 ?_
  try simp only [Act.put, List.setIfInBounds_toArray, List.set_cons_zero, List.set_cons_succ]
  refine wpAnyH_ready (rs := [2]) (by kernel_rfl) (by simp) (AllReadyH.cons rfl (fun K hK => ?_) AllReadyH.nil)
  rw [if_pos (by kernel_rfl)]
  go_simp
  refine (HNu.out _ _ _ _ _ _ _ _ hS0.rp (H1z.out.below hBd (Nat.le_refl _))).mono ?_
  rintro e wa ⟨rfl, hba⟩
  have hSa := hS0.below hba
  refine hK.out _ _ hSa fun _ => ?_
  clear hK
  refine wpAnyH_ready (rs := [5]) (by kernel_rfl) (by simp) (AllReadyH.cons rfl (fun K hK => ?_) AllReadyH.nil)
  rw [if_pos (by kernel_rfl)]
  go_simp
  refine (HNv.out _ _ _ _ _ _ _ _ hSa.rp ((H2z.out.below hBd (Nat.le_refl _)).below hba (Nat.le_refl _))).mono ?_
  rintro e wb ⟨rfl, hbb⟩
  have hSb := hSa.below hbb
  refine hK.out _ _ hSb fun _ => ?_
  clear hK
  refine tk6 (v := (.int .i64 (X : Nat))) (by kernel_rfl) (by kernel_rfl) (by kernel_rfl) (fun _ _ _ h => h) (Or.inl ⟨by kernel_rfl, fun w' hSw => by go_simp⟩) hSb ?_
  try simp only [Act.put, List.setIfInBounds_toArray, List.set_cons_zero, List.set_cons_succ]
  refine tk7 (v := (.int .i64 (Y : Nat))) (by kernel_rfl) (by kernel_rfl) (by kernel_rfl) (fun _ _ _ h => h) (Or.inl ⟨by kernel_rfl, fun w' hSw => by go_simp⟩) hSb ?_
  try simp only [Act.put, List.setIfInBounds_toArray, List.set_cons_zero, List.set_cons_succ]
  refine wpAnyH_done (by kernel_rfl) ?_ _
  have hBb : Below wz.heap.size wz wb := hBd.trans ((hba.mono hBd.size).trans (hbb.mono (Nat.le_trans hBd.size hba.size)))
  have HRL := Lib.hid (HRlz.out.below hBb (Nat.le_refl _))
  have HPL := Lib.hid (HPlz.out.below hBb (Nat.le_refl _))
  have HRb := Lib.hid hSb
  have HB : Hid (Below w.heap.size w wb) := Lib.hid (HBw.out.trans (hBb.mono HBw.out.size))
  clear hS0 hSa hSb hBd hba hbb hBb HRlz HPlz H1z H2z HBw HBz HRz
  have t0 := HRb.out.at.1
  have t1 := HRb.out.at.2.1
  have t2 := HRb.out.at.2.2
  go_wp2_with fail
  refine (HRR.out _ _ _ _ _ _ _ HRb.out.rp).mono ?_
  rintro e x1 ⟨fa, fc, rfl, hf, hb⟩
  have HF1 := Lib.hid hf
  have HRL1 := Lib.hid (HRL.out.below hb (Nat.le_refl _))
  have HPL1 := Lib.hid (HPL.out.below hb (Nat.le_refl _))
  have HRb1 := Lib.hid (HRb.out.below hb)
  have HB1 : Hid (Below w.heap.size w x1) := Lib.hid (HB.out.trans (hb.mono HB.out.size))
  clear hf hb t0 t1 t2 HRL HPL HRb HB
  go_wp2_with fail
  refine (HEq.out _ _ _ HRL1.out HF1.out).mono ?_
  rintro e x2 ⟨rfl, hb⟩
  have HPL2 := Lib.hid (HPL1.out.below hb (Nat.le_refl _))
  have HRb2 := Lib.hid (HRb1.out.below hb)
  have HB2 : Hid (Below w.heap.size w x2) := Lib.hid (HB1.out.trans (hb.mono HB1.out.size))
  clear hb HPL1 HRb1 HB1 HRL1 HF1
  have t0 := HRb2.out.at.1
  have t1 := HRb2.out.at.2.1
  have t2 := HRb2.out.at.2.2
  go_wp2_with fail
  refine (HPP.out _ _ _ _ _ _ _ HRb2.out.rp).mono ?_
  rintro e x3 ⟨fa', fc', rfl, hf, hb⟩
  have HF3 := Lib.hid hf
  have HPL3 := Lib.hid (HPL2.out.below hb (Nat.le_refl _))
  have HB3 : Hid (Below w.heap.size w x3) := Lib.hid (HB2.out.trans (hb.mono HB2.out.size))
  clear hf hb t0 t1 t2 HPL2 HRb2 HB2
  go_wp2_with fail
  refine (HEp.out _ _ _ HPL3.out HF3.out).mono ?_
  rintro e x4 ⟨rfl, hb⟩
  have HB4 : Hid (Below w.heap.size w x4) := Lib.hid (HB3.out.trans (hb.mono HB3.out.size))
  clear hb HPL3 HF3 HB3
  go_wp2_with fail
  refine (HAw.out _).mono ?_
  rintro e x5 ⟨rfl, hb⟩
  have HB5 : Hid (Below w.heap.size w x5) := Lib.hid (HB4.out.trans (hb.mono HB4.out.size))
  clear hb
  go_wp2_with fail
  go_ret
  exact ⟨rfl, HB5.out⟩

theorem four_chk : ((List.range 17).all fun g => g == 3 || !(kd g == 65 && nm g == 4)) = true := by decide +kernel
/-- THE LAW MirrorPolynomials. -/
theorem mirrorPolynomials_law (k n : Int) (v1 v2 : Value) (l1 l2 : List Int) (w : World) (h1 : Ints w v1 l1) (h2 : Ints w v2 l2) :
    Calls Try.prog 9 #[gV k n, v1, v2] w fun e w' => e = .returned (.bool true) ∧ Below w.heap.size w w' := by
  by_cases hk : grpB k n = true
  · obtain ⟨g, hg, rfl, rfl⟩ := grp_of hk
    by_cases hw : [l1, l2].all (wordB g) = true
    · have hw1 : wordB g l1 = true := by simp at hw; exact hw.1
      have hw2 : wordB g l2 = true := by simp at hw; exact hw.2
      by_cases h3 : g = 3
      · subst h3
        have hk3 : kd 3 = 65 := by decide +kernel
        have hn3 : nm 3 = 4 := by decide +kernel
        rw [hk3, hn3]
        exact pol_size v1 v2 l1 l2 w h1 h2 hw1 hw2
      · by_cases hA : kd g = 65
        · have h := List.all_eq_true.1 four_chk g (List.mem_range.2 hg)
          have hN : nm g ≠ 4 := fun q => by simp [h3, hA, q] at h
          exact pol_ok2 g hg h3 v1 v2 l1 l2 w h1 h2 hw1 hw2 hA hN
        · exact pol_ok1 g hg h3 v1 v2 l1 l2 w h1 h2 hw1 hw2 hA
    · have hf : [l1, l2].all (wordB g) = false := Bool.eq_false_iff.2 hw
      refine pol_bad _ _ v1 v2 l1 l2 w h1 h2 (.inr ⟨g, hg, rfl, rfl, by simpa [word_take] using hf⟩) fun v W h => ?_
      have := fine_any g hg v [l1, l2] W h (by simp)
      rwa [hf] at this
  · exact pol_bad k n v1 v2 l1 l2 w h1 h2 (.inl (by simpa using hk)) fun v W _ => fine_none k n (Bool.eq_false_iff.2 hk) v W
end Go.Proofs.Ytlnbodpdgebflaa
