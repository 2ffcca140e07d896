/- MirrorBelow -/
import Derived.Test.YtlnbodpdgebflaaQt
import Derived.Test.YtlnbodpdgebflaaCc
import Derived.Test.YtlnbodpdgebflaaTk
namespace Go.Proofs.Ytlnbodpdgebflaa
open Go.RowKit

/-- What is held on the way may be made more. -/
theorem wpAnyH_weak {P : Program} {ops : Array Oper} {Q : Exit → Act → World → Prop} {md : Region.Mode} {S T : World → Prop} (h : ∀ v, T v → S v) : ∀ (f : Nat) (d : Array Bool) (a : Act) (w : World), wpAnyH P md ops Q T f d a w → wpAnyH P md ops Q S f d a w
  | 0, _, _, _, q => q
  | f + 1, _, _, _, q => ⟨q.1, fun i hi => wpOp_mono (fun _ _ hh => ⟨h _ hh.1, wpAnyH_weak h f _ _ _ hh.2⟩) (q.2 i hi)⟩

set_option maxRecDepth 100000 in
set_option maxHeartbeats 2000000 in
theorem below_bad1 (k n : Int) (v1 v2 : Value) (l1 l2 : List Int) (w : World) (h1 : Ints w v1 l1) (h2 : Ints w v2 l2) (hb0 : Bad k n [l2.take 34]) (hb2 : Bad k n [l1.take 34, l2.take 34])
    (hfn : ∀ v W, IntRows W v [l2] → Calls Try.prog 24 #[gV k n, v] W fun e w' => e = .returned (.bool false) ∧ Below W.heap.size W w') :
    Calls Try.prog 7 #[gV k n, v1, v2] w fun e w' => e = .returned (.bool true) ∧ Below w.heap.size w w' := by
  have HOf := Lib.hid (fun W => Of_any k n W)
  have HLi := Lib.hid (fun v W h => listBad l1 v W h)
  have HLj := Lib.hid (fun v W h => listBad l2 v W h)
  have HBe := Lib.hid (fun v v' W h h' => Below_bad k n v v' (l1.take 34) (l2.take 34) W h h' hb2)
  have HCo := Lib.hid (fun v W h => Covers_bad k n v (l2.take 34) W h hb0)
  have HF := Lib.hid hfn
  generalize l1.take 34 = m1 at *
  generalize l2.take 34 = m2 at *
  have HAw := Lib.hid (fun W => awake_any W)
  obtain ⟨va1, vc1, rfl, _, _, _⟩ := h1.open
  obtain ⟨va2, vc2, rfl, _, _, _⟩ := h2.open
  have H10 := Lib.hid h1
  have H20 := Lib.hid h2
  clear h1 h2 hb0 hb2 hfn
  go_enter Try.func7, Try.ntmps7
  go_wp2_with fail
  refine (HOf.out _).mono ?_
  rintro e w1 ⟨rfl, hb⟩
  have HG : Hid (Blk 23 w1 w.heap.size #[.int .u8 k, .int .i64 n]) := Lib.hid ((Blk.new _ _ _).below hb)
  have HB : Hid (Below w.heap.size w w1) := Lib.hid (bl1 hb)
  have H1 := Lib.hid (H10.out.below HB.out (Nat.le_refl _))
  have H2 := Lib.hid (H20.out.below HB.out (Nat.le_refl _))
  clear hb H10 H20
  have g0 := HG.out.at0.1
  have g1 := HG.out.at0.2
  go_wp2_with fail
  clear g0 g1
  refine (HLi.out _ _ H1.out).mono ?_
  rintro e w2 ⟨la, lc, rfl, hm1, hb⟩
  have HBn : Hid (Below w1.heap.size w1 w2) := Lib.hid (hb)
  have HG_n := Lib.hid (HG.out.below HBn.out)
  have H1_n := Lib.hid (H1.out.below HBn.out (Nat.le_refl _))
  have H2_n := Lib.hid (H2.out.below HBn.out (Nat.le_refl _))
  have HB_n := Lib.hid (HB.out.trans (HBn.out.mono HB.out.size))
  clear HG H1 H2 HB
  have HG := HG_n
  have H1 := H1_n
  have H2 := H2_n
  have HB := HB_n
  clear HG_n H1_n H2_n HB_n HBn hb
  have HM1 := Lib.hid hm1
  clear hm1
  have g0 := HG.out.at0.1
  have g1 := HG.out.at0.2
  go_wp2_with fail
  clear g0 g1
  refine (HLj.out _ _ H2.out).mono ?_
  rintro e w3 ⟨lb, ld, rfl, hm2, hb⟩
  have HBn : Hid (Below w2.heap.size w2 w3) := Lib.hid (hb)
  have HG_n := Lib.hid (HG.out.below HBn.out)
  have H1_n := Lib.hid (H1.out.below HBn.out (Nat.le_refl _))
  have H2_n := Lib.hid (H2.out.below HBn.out (Nat.le_refl _))
  have HM1_n := Lib.hid (HM1.out.below HBn.out (Nat.le_refl _))
  have HB_n := Lib.hid (HB.out.trans (HBn.out.mono HB.out.size))
  clear HG H1 H2 HM1 HB
  have HG := HG_n
  have H1 := H1_n
  have H2 := H2_n
  have HM1 := HM1_n
  have HB := HB_n
  clear HG_n H1_n H2_n HM1_n HB_n HBn hb
  have HM2 := Lib.hid hm2
  clear hm2
  have g0 := HG.out.at0.1
  have g1 := HG.out.at0.2
  go_wp2_with fail
  clear g0 g1
  refine (HBe.out _ _ _ HM1.out HM2.out).mono ?_
  rintro e w4 ⟨rfl, hb⟩
  have HBn : Hid (Below w3.heap.size w3 w4) := Lib.hid (hb)
  have HG_n := Lib.hid (HG.out.below HBn.out)
  have H1_n := Lib.hid (H1.out.below HBn.out (Nat.le_refl _))
  have H2_n := Lib.hid (H2.out.below HBn.out (Nat.le_refl _))
  have HM1_n := Lib.hid (HM1.out.below HBn.out (Nat.le_refl _))
  have HM2_n := Lib.hid (HM2.out.below HBn.out (Nat.le_refl _))
  have HB_n := Lib.hid (HB.out.trans (HBn.out.mono HB.out.size))
  clear HG H1 H2 HM1 HM2 HB
  have HG := HG_n
  have H1 := H1_n
  have H2 := H2_n
  have HM1 := HM1_n
  have HM2 := HM2_n
  have HB := HB_n
  clear HG_n H1_n H2_n HM1_n HM2_n HB_n HBn hb
  have g0 := HG.out.at0.1
  have g1 := HG.out.at0.2
  go_wp2_with fail
  clear HM1 HM2 H1
  clear g0 g1
  refine (HOf.out _).mono ?_
  rintro e w5 ⟨rfl, hb⟩
  have HBn : Hid (Below w4.heap.size w4 w5) := Lib.hid (hb)
  have HG_n := Lib.hid (HG.out.below HBn.out)
  have H2_n := Lib.hid (H2.out.below HBn.out (Nat.le_refl _))
  have HB_n := Lib.hid (HB.out.trans (HBn.out.mono HB.out.size))
  clear HG H2 HB
  have HG := HG_n
  have H2 := H2_n
  have HB := HB_n
  clear HG_n H2_n HB_n HBn hb
  have g0 := HG.out.at0.1
  have g1 := HG.out.at0.2
  go_wp2_with fail
  clear g0 g1
  refine (HLj.out _ _ H2.out).mono ?_
  rintro e w6 ⟨lb, ld, rfl, hm2, hb⟩
  have HBn : Hid (Below w5.heap.size w5 w6) := Lib.hid (hb)
  have HG_n := Lib.hid (HG.out.below HBn.out)
  have H2_n := Lib.hid (H2.out.below HBn.out (Nat.le_refl _))
  have HB_n := Lib.hid (HB.out.trans (HBn.out.mono HB.out.size))
  clear HG H2 HB
  have HG := HG_n
  have H2 := H2_n
  have HB := HB_n
  clear HG_n H2_n HB_n HBn hb
  have HM2 := Lib.hid hm2
  clear hm2
  have g0 := HG.out.at0.1
  have g1 := HG.out.at0.2
  go_wp2_with fail
  clear g0 g1
  refine (HCo.out _ _ HM2.out).mono ?_
  rintro e w7 ⟨rfl, hb⟩
  have HBn : Hid (Below w6.heap.size w6 w7) := Lib.hid (hb)
  have HG_n := Lib.hid (HG.out.below HBn.out)
  have H2_n := Lib.hid (H2.out.below HBn.out (Nat.le_refl _))
  have HM2_n := Lib.hid (HM2.out.below HBn.out (Nat.le_refl _))
  have HB_n := Lib.hid (HB.out.trans (HBn.out.mono HB.out.size))
  clear HG H2 HM2 HB
  have HG := HG_n
  have H2 := H2_n
  have HM2 := HM2_n
  have HB := HB_n
  clear HG_n H2_n HM2_n HB_n HBn hb
  have g0 := HG.out.at0.1
  have g1 := HG.out.at0.2
  go_wp2_with fail
  clear HM2
  clear g0 g1
  refine (HF.out _ _ (rows1 (Blk.new _ _ _) (H2.out.alloc _))).mono ?_
  rintro e w8 ⟨rfl, hb⟩
  have HBn : Hid (Below w7.heap.size w7 w8) := Lib.hid (bl1 hb)
  have HG_n := Lib.hid (HG.out.below HBn.out)
  have H2_n := Lib.hid (H2.out.below HBn.out (Nat.le_refl _))
  have HB_n := Lib.hid (HB.out.trans (HBn.out.mono HB.out.size))
  clear HG H2 HB
  have HG := HG_n
  have H2 := H2_n
  have HB := HB_n
  clear HG_n H2_n HB_n HBn hb
  have g0 := HG.out.at0.1
  have g1 := HG.out.at0.2
  go_wp2_with fail
  clear g0 g1
  refine (HAw.out _).mono ?_
  rintro e w9 ⟨rfl, hb⟩
  have HBn : Hid (Below w8.heap.size w8 w9) := Lib.hid (hb)
  have HG_n := Lib.hid (HG.out.below HBn.out)
  have H2_n := Lib.hid (H2.out.below HBn.out (Nat.le_refl _))
  have HB_n := Lib.hid (HB.out.trans (HBn.out.mono HB.out.size))
  clear HG H2 HB
  have HG := HG_n
  have H2 := H2_n
  have HB := HB_n
  clear HG_n H2_n HB_n HBn hb
  have g0 := HG.out.at0.1
  have g1 := HG.out.at0.2
  go_wp2_with fail
  go_ret
  exact ⟨rfl, HB.out⟩

set_option maxRecDepth 100000 in
set_option maxHeartbeats 4000000 in
theorem below_good (g : Nat) (hg : g < 17) (v1 v2 : Value) (l1 l2 : List Int) (w : World) (h1 : Ints w v1 l1) (h2 : Ints w v2 l2) (hw1 : wordB g l1 = true) (hw2 : wordB g l2 = true) :
    Calls Try.prog 7 #[gV (kd g) (nm g), v1, v2] w fun e w' => e = .returned (.bool true) ∧ Below w.heap.size w w' := by
  have q2 : l2.length ≤ 30 := by simp [wordB] at hw2; omega
  have HOf := Lib.hid (fun W => Of_any (kd g) (nm g) W)
  have HLj := Lib.hid (fun v W h => listOk q2 v W h)
  have HFi := Lib.hid (fun v W h => fine_any g hg v [l2] W h (by simp))
  rw [show [l2].all (wordB g) = true by simp [hw2]] at HFi
  have HAw := Lib.hid (fun W => awake_any W)
  have HWo := Lib.hid (fun v W h => Word_any g hg v l1 W h)
  rw [hw1] at HWo
  have HEl := Lib.hid (fun W => Elements_any g hg W)
  have hE := tE hg
  have hX := folI_lt hg hw2
  have HCo := Lib.hid (fun v W h => Covers_ok g hg v l2 W h hw2)
  have HNu : Hid (∀ b0 c0 b1 c1 b2 c2 v W, RP W g b0 b1 b2 → Ints W v l2 → Calls Try.prog 27 #[rV g b0 c0 b1 c1 b2 c2, .int .i64 0, v] W fun e w' => e = .returned (.int .i64 (folI g l2 : Nat)) ∧ Below W.heap.size W w') := Lib.hid (fun b0 c0 b1 c1 b2 c2 v W h hv =>
    Number_any g b0 c0 b1 c1 b2 c2 0 hg v (toN l2) W h hE.1 (hv.toN (word_let hw2)) (toN_lt (word_let hw2)))
  have HRc := Lib.hid (fun b0 c0 b1 c1 b2 c2 W h => RCovers_any g b0 c0 b1 c1 b2 c2 (folI g l2) hg W h hX)
  have HSa := Lib.hid (fun v v' W h h' => sameR_any v v' ((cvL g (folI g l2) (nE g)).map (wd g)) W h h')
  have q1 : l1.length ≤ 30 := by simp [wordB] at hw1; omega
  have HLi := Lib.hid (fun v W h => listOk q1 v W h)
  have hZ := folI_lt hg hw1
  have HBe := Lib.hid (fun v v' W h h' => Below_ok g hg v v' l1 l2 W h h' hw1 hw2)
  have HLow := Lib.hid (fun b0 c0 b1 c1 b2 c2 W h => Lower_any g b0 c0 b1 c1 b2 c2 (folI g l2) hg W h hX)
  have HNv : Hid (∀ b0 c0 b1 c1 b2 c2 v W, RP W g b0 b1 b2 → Ints W v l1 → Calls Try.prog 27 #[rV g b0 c0 b1 c1 b2 c2, .int .i64 0, v] W fun e w' => e = .returned (.int .i64 (folI g l1 : Nat)) ∧ Below W.heap.size W w') := Lib.hid (fun b0 c0 b1 c1 b2 c2 v W h hv =>
    Number_any g b0 c0 b1 c1 b2 c2 0 hg v (toN l1) W h hE.1 (hv.toN (word_let hw1)) (toN_lt (word_let hw1)))
  have HLE : Hid (lwF g (wd g (folI g l2)) (folI g l1) = loB g (folI g l1) (folI g l2)) := Lib.hid (lwF_lo hg _ _ rfl hX _ hZ)
  generalize loB g (folI g l1) (folI g l2) = lo at *
  generalize folI g l1 = Z at *
  generalize hCL : (cvL g (folI g l2) (nE g)).length = cl at *
  generalize hCW : (cvL g (folI g l2) (nE g)).map (wd g) = cw at *
  clear hCL hCW
  generalize folI g l2 = X at *
  obtain ⟨va1, vc1, rfl, _, _, _⟩ := h1.open
  obtain ⟨va2, vc2, rfl, _, _, _⟩ := h2.open
  have H10 := Lib.hid h1
  have H20 := Lib.hid h2
  clear h1 h2 hw1 hw2
  go_enter Try.func7, Try.ntmps7
  go_wp2_with fail
  refine (HOf.out _).mono ?_
  rintro e w1 ⟨rfl, hb⟩
  have HG : Hid (Blk 23 w1 w.heap.size #[.int .u8 (kd g), .int .i64 (nm g)]) := Lib.hid ((Blk.new _ _ _).below hb)
  have HB : Hid (Below w.heap.size w w1) := Lib.hid (bl1 hb)
  have H1 := Lib.hid (H10.out.below HB.out (Nat.le_refl _))
  have H2 := Lib.hid (H20.out.below HB.out (Nat.le_refl _))
  clear hb H10 H20
  have g0 := HG.out.at0.1
  have g1 := HG.out.at0.2
  go_wp2_with fail
  clear g0 g1
  refine (HLi.out _ _ H1.out).mono ?_
  rintro e w2 ⟨la, lc, rfl, hm1, hb⟩
  have HBn : Hid (Below w1.heap.size w1 w2) := Lib.hid (hb)
  have HG_n := Lib.hid (HG.out.below HBn.out)
  have H1_n := Lib.hid (H1.out.below HBn.out (Nat.le_refl _))
  have H2_n := Lib.hid (H2.out.below HBn.out (Nat.le_refl _))
  have HB_n := Lib.hid (HB.out.trans (HBn.out.mono HB.out.size))
  clear HG H1 H2 HB
  have HG := HG_n
  have H1 := H1_n
  have H2 := H2_n
  have HB := HB_n
  clear HG_n H1_n H2_n HB_n HBn hb
  have HM1 := Lib.hid hm1
  clear hm1
  have g0 := HG.out.at0.1
  have g1 := HG.out.at0.2
  go_wp2_with fail
  clear g0 g1
  refine (HLj.out _ _ H2.out).mono ?_
  rintro e w3 ⟨lb, ld, rfl, hm2, hb⟩
  have HBn : Hid (Below w2.heap.size w2 w3) := Lib.hid (hb)
  have HG_n := Lib.hid (HG.out.below HBn.out)
  have H1_n := Lib.hid (H1.out.below HBn.out (Nat.le_refl _))
  have H2_n := Lib.hid (H2.out.below HBn.out (Nat.le_refl _))
  have HM1_n := Lib.hid (HM1.out.below HBn.out (Nat.le_refl _))
  have HB_n := Lib.hid (HB.out.trans (HBn.out.mono HB.out.size))
  clear HG H1 H2 HM1 HB
  have HG := HG_n
  have H1 := H1_n
  have H2 := H2_n
  have HM1 := HM1_n
  have HB := HB_n
  clear HG_n H1_n H2_n HM1_n HB_n HBn hb
  have HM2 := Lib.hid hm2
  clear hm2
  have g0 := HG.out.at0.1
  have g1 := HG.out.at0.2
  go_wp2_with fail
  clear g0 g1
  refine (HBe.out _ _ _ HM1.out HM2.out).mono ?_
  rintro e w4 ⟨rfl, hb⟩
  have HBn : Hid (Below w3.heap.size w3 w4) := Lib.hid (hb)
  have HG_n := Lib.hid (HG.out.below HBn.out)
  have H1_n := Lib.hid (H1.out.below HBn.out (Nat.le_refl _))
  have H2_n := Lib.hid (H2.out.below HBn.out (Nat.le_refl _))
  have HM1_n := Lib.hid (HM1.out.below HBn.out (Nat.le_refl _))
  have HM2_n := Lib.hid (HM2.out.below HBn.out (Nat.le_refl _))
  have HB_n := Lib.hid (HB.out.trans (HBn.out.mono HB.out.size))
  clear HG H1 H2 HM1 HM2 HB
  have HG := HG_n
  have H1 := H1_n
  have H2 := H2_n
  have HM1 := HM1_n
  have HM2 := HM2_n
  have HB := HB_n
  clear HG_n H1_n H2_n HM1_n HM2_n HB_n HBn hb
  have g0 := HG.out.at0.1
  have g1 := HG.out.at0.2
  go_wp2_with fail
  clear HM1 HM2
  clear g0 g1
  refine (HOf.out _).mono ?_
  rintro e w5 ⟨rfl, hb⟩
  have HBn : Hid (Below w4.heap.size w4 w5) := Lib.hid (hb)
  have HG_n := Lib.hid (HG.out.below HBn.out)
  have H1_n := Lib.hid (H1.out.below HBn.out (Nat.le_refl _))
  have H2_n := Lib.hid (H2.out.below HBn.out (Nat.le_refl _))
  have HB_n := Lib.hid (HB.out.trans (HBn.out.mono HB.out.size))
  clear HG H1 H2 HB
  have HG := HG_n
  have H1 := H1_n
  have H2 := H2_n
  have HB := HB_n
  clear HG_n H1_n H2_n HB_n HBn hb
  have g0 := HG.out.at0.1
  have g1 := HG.out.at0.2
  go_wp2_with fail
  clear g0 g1
  refine (HLj.out _ _ H2.out).mono ?_
  rintro e w6 ⟨lb, ld, rfl, hm2, hb⟩
  have HBn : Hid (Below w5.heap.size w5 w6) := Lib.hid (hb)
  have HG_n := Lib.hid (HG.out.below HBn.out)
  have H1_n := Lib.hid (H1.out.below HBn.out (Nat.le_refl _))
  have H2_n := Lib.hid (H2.out.below HBn.out (Nat.le_refl _))
  have HB_n := Lib.hid (HB.out.trans (HBn.out.mono HB.out.size))
  clear HG H1 H2 HB
  have HG := HG_n
  have H1 := H1_n
  have H2 := H2_n
  have HB := HB_n
  clear HG_n H1_n H2_n HB_n HBn hb
  have HM2 := Lib.hid hm2
  clear hm2
  have g0 := HG.out.at0.1
  have g1 := HG.out.at0.2
  go_wp2_with fail
  clear g0 g1
  refine (HCo.out _ _ HM2.out).mono ?_
  rintro e w7 ⟨ca, cc, rfl, hcv, hb⟩
  have HBn : Hid (Below w6.heap.size w6 w7) := Lib.hid (hb)
  have HG_n := Lib.hid (HG.out.below HBn.out)
  have H1_n := Lib.hid (H1.out.below HBn.out (Nat.le_refl _))
  have H2_n := Lib.hid (H2.out.below HBn.out (Nat.le_refl _))
  have HM2_n := Lib.hid (HM2.out.below HBn.out (Nat.le_refl _))
  have HB_n := Lib.hid (HB.out.trans (HBn.out.mono HB.out.size))
  clear HG H1 H2 HM2 HB
  have HG := HG_n
  have H1 := H1_n
  have H2 := H2_n
  have HM2 := HM2_n
  have HB := HB_n
  clear HG_n H1_n H2_n HM2_n HB_n HBn hb
  have HCV := Lib.hid hcv
  clear hcv
  have g0 := HG.out.at0.1
  have g1 := HG.out.at0.2
  go_wp2_with fail
  clear HM2
  clear g0 g1
  refine (HFi.out _ _ (rows1 (Blk.new _ _ _) (H2.out.alloc _))).mono ?_
  rintro e w8 ⟨rfl, hb⟩
  have HBn : Hid (Below w7.heap.size w7 w8) := Lib.hid (bl1 hb)
  have HG_n := Lib.hid (HG.out.below HBn.out)
  have H1_n := Lib.hid (H1.out.below HBn.out (Nat.le_refl _))
  have H2_n := Lib.hid (H2.out.below HBn.out (Nat.le_refl _))
  have HCV_n := Lib.hid (HCV.out.below HBn.out (Nat.le_refl _))
  have HB_n := Lib.hid (HB.out.trans (HBn.out.mono HB.out.size))
  clear HG H1 H2 HCV HB
  have HG := HG_n
  have H1 := H1_n
  have H2 := H2_n
  have HCV := HCV_n
  have HB := HB_n
  clear HG_n H1_n H2_n HCV_n HB_n HBn hb
  have g0 := HG.out.at0.1
  have g1 := HG.out.at0.2
  go_wp2_with fail
  clear g0 g1
  refine (HEl.out _).mono ?_
  rintro e w9 ⟨tv, rfl, hrt, hb⟩
  have HBn : Hid (Below w8.heap.size w8 w9) := Lib.hid (hb)
  have HG_n := Lib.hid (HG.out.below HBn.out)
  have H1_n := Lib.hid (H1.out.below HBn.out (Nat.le_refl _))
  have H2_n := Lib.hid (H2.out.below HBn.out (Nat.le_refl _))
  have HCV_n := Lib.hid (HCV.out.below HBn.out (Nat.le_refl _))
  have HB_n := Lib.hid (HB.out.trans (HBn.out.mono HB.out.size))
  clear HG H1 H2 HCV HB
  have HG := HG_n
  have H1 := H1_n
  have H2 := H2_n
  have HCV := HCV_n
  have HB := HB_n
  clear HG_n H1_n H2_n HCV_n HB_n HBn hb
  have HRT := Lib.hid hrt
  clear hrt
  have g0 := HG.out.at0.1
  have g1 := HG.out.at0.2
  obtain ⟨b0, c0, b1, c1, b2, c2, rfl, hpp, hcc⟩ := HRT.out
  have HP : Hid (RP w9 g b0 b1 b2) := Lib.hid ⟨hpp.1, hpp.2.1, hpp.2.2⟩
  have HRB := Lib.hid (HP.out.box c0 c1 c2)
  have hbz : Below w9.heap.size w9 (w9.alloc (.cells #[.slice (some ⟨b0, 0, none⟩) (nE g) c0, .slice (some ⟨b1, 0, none⟩) (nE g) c1, .slice (some ⟨b2, 0, none⟩) (nE g) c2] 39)) := a1 _ _
  have HGz := Lib.hid (HG.out.below hbz)
  have H1z := Lib.hid (H1.out.below hbz (Nat.le_refl _))
  have H2z := Lib.hid (H2.out.below hbz (Nat.le_refl _))
  have HCVz := Lib.hid (HCV.out.below hbz (Nat.le_refl _))
  have HBz := Lib.hid (HB.out.trans (hbz.mono HB.out.size))
  clear hpp hcc HRT HP hbz g0 g1 HG H1 H2 HCV HB
  have HG := HGz
  have H1 := H1z
  have H2 := H2z
  have HCV := HCVz
  have HB := HBz
  clear HGz H1z H2z HCVz HBz
  unfold rV at HNu HRc HLow HNv
  obtain ⟨BX, hBX⟩ : ∃ BX, BX = w9.heap.size := ⟨_, rfl⟩
  have HBX := Lib.hid hBX
  have HRBx : Hid (RB (w9.alloc (.cells #[.slice (some ⟨b0, 0, none⟩) (nE g) c0, .slice (some ⟨b1, 0, none⟩) (nE g) c1, .slice (some ⟨b2, 0, none⟩) (nE g) c2] 39)) BX g b0 c0 b1 c1 b2 c2) := Lib.hid (by rw [hBX]; exact HRB.out)
  clear HRB hBX
  go_wp2_with fail
  rw [← HBX.out]
  have HRB := HRBx
  clear HRBx
  generalize w9.alloc (.cells #[.slice (some ⟨b0, 0, none⟩) (nE g) c0, .slice (some ⟨b1, 0, none⟩) (nE g) c1, .slice (some ⟨b2, 0, none⟩) (nE g) c2] 39) = w10 at *
  refine (HNu.out b0 c0 b1 c1 b2 c2 _ _ HRB.out.rp H2.out).mono ?_
  rintro e w11 ⟨rfl, hb⟩
  have HBn : Hid (Below w10.heap.size w10 w11) := Lib.hid (hb)
  have HG_n := Lib.hid (HG.out.below HBn.out)
  have H1_n := Lib.hid (H1.out.below HBn.out (Nat.le_refl _))
  have H2_n := Lib.hid (H2.out.below HBn.out (Nat.le_refl _))
  have HCV_n := Lib.hid (HCV.out.below HBn.out (Nat.le_refl _))
  have HRB_n := Lib.hid (HRB.out.below HBn.out)
  have HB_n := Lib.hid (HB.out.trans (HBn.out.mono HB.out.size))
  clear HG H1 H2 HCV HRB HB
  have HG := HG_n
  have H1 := H1_n
  have H2 := H2_n
  have HCV := HCV_n
  have HRB := HRB_n
  have HB := HB_n
  clear HG_n H1_n H2_n HCV_n HRB_n HB_n HBn hb
  have t0 := HRB.out.at.1
  have t1 := HRB.out.at.2.1
  have t2 := HRB.out.at.2.2
  go_wp2_with fail
  clear t0 t1 t2
  refine (HRc.out b0 c0 b1 c1 b2 c2 _ HRB.out.rp).mono ?_
  rintro e w12 ⟨ra, rc, rfl, hrv, hb⟩
  have HBn : Hid (Below w11.heap.size w11 w12) := Lib.hid (hb)
  have HG_n := Lib.hid (HG.out.below HBn.out)
  have H1_n := Lib.hid (H1.out.below HBn.out (Nat.le_refl _))
  have H2_n := Lib.hid (H2.out.below HBn.out (Nat.le_refl _))
  have HCV_n := Lib.hid (HCV.out.below HBn.out (Nat.le_refl _))
  have HRB_n := Lib.hid (HRB.out.below HBn.out)
  have HB_n := Lib.hid (HB.out.trans (HBn.out.mono HB.out.size))
  clear HG H1 H2 HCV HRB HB
  have HG := HG_n
  have H1 := H1_n
  have H2 := H2_n
  have HCV := HCV_n
  have HRB := HRB_n
  have HB := HB_n
  clear HG_n H1_n H2_n HCV_n HRB_n HB_n HBn hb
  have HRV := Lib.hid hrv
  clear hrv
  have t0 := HRB.out.at.1
  have t1 := HRB.out.at.2.1
  have t2 := HRB.out.at.2.2
  go_wp2_with fail
  clear t0 t1 t2
  refine (HSa.out _ _ _ HCV.out HRV.out).mono ?_
  rintro e w13 ⟨rfl, hb⟩
  have HBn : Hid (Below w12.heap.size w12 w13) := Lib.hid (hb)
  have HG_n := Lib.hid (HG.out.below HBn.out)
  have H1_n := Lib.hid (H1.out.below HBn.out (Nat.le_refl _))
  have H2_n := Lib.hid (H2.out.below HBn.out (Nat.le_refl _))
  have HCV_n := Lib.hid (HCV.out.below HBn.out (Nat.le_refl _))
  have HRB_n := Lib.hid (HRB.out.below HBn.out)
  have HRV_n := Lib.hid (HRV.out.below HBn.out (Nat.le_refl _))
  have HB_n := Lib.hid (HB.out.trans (HBn.out.mono HB.out.size))
  clear HG H1 H2 HCV HRB HRV HB
  have HG := HG_n
  have H1 := H1_n
  have H2 := H2_n
  have HCV := HCV_n
  have HRB := HRB_n
  have HRV := HRV_n
  have HB := HB_n
  clear HG_n H1_n H2_n HCV_n HRB_n HRV_n HB_n HBn hb
  have t0 := HRB.out.at.1
  have t1 := HRB.out.at.2.1
  have t2 := HRB.out.at.2.2
  go_wp2_with fail
  clear t0 t1 t2
  clear HRV HCV
  have g0 := HG.out.at0.1
  have g1 := HG.out.at0.2
  clear g0 g1
  refine (HAw.out _).mono ?_
  rintro e w14 ⟨rfl, hb⟩
  have HBn : Hid (Below w13.heap.size w13 w14) := Lib.hid (hb)
  have HG_n := Lib.hid (HG.out.below HBn.out)
  have H1_n := Lib.hid (H1.out.below HBn.out (Nat.le_refl _))
  have H2_n := Lib.hid (H2.out.below HBn.out (Nat.le_refl _))
  have HRB_n := Lib.hid (HRB.out.below HBn.out)
  have HB_n := Lib.hid (HB.out.trans (HBn.out.mono HB.out.size))
  clear HG H1 H2 HRB HB
  have HG := HG_n
  have H1 := H1_n
  have H2 := H2_n
  have HRB := HRB_n
  have HB := HB_n
  clear HG_n H1_n H2_n HRB_n HB_n HBn hb
  have g0 := HG.out.at0.1
  have g1 := HG.out.at0.2
  have t0 := HRB.out.at.1
  have t1 := HRB.out.at.2.1
  have t2 := HRB.out.at.2.2
  go_wp2_with fail
  clear t0 t1 t2
  clear g0 g1
  refine (HWo.out _ _ H1.out).mono ?_
  rintro e w15 ⟨rfl, hb⟩
  have HBn : Hid (Below w14.heap.size w14 w15) := Lib.hid (hb)
  have HG_n := Lib.hid (HG.out.below HBn.out)
  have H1_n := Lib.hid (H1.out.below HBn.out (Nat.le_refl _))
  have H2_n := Lib.hid (H2.out.below HBn.out (Nat.le_refl _))
  have HRB_n := Lib.hid (HRB.out.below HBn.out)
  have HB_n := Lib.hid (HB.out.trans (HBn.out.mono HB.out.size))
  clear HG H1 H2 HRB HB
  have HG := HG_n
  have H1 := H1_n
  have H2 := H2_n
  have HRB := HRB_n
  have HB := HB_n
  clear HG_n H1_n H2_n HRB_n HB_n HBn hb
  have g0 := HG.out.at0.1
  have g1 := HG.out.at0.2
  have t0 := HRB.out.at.1
  have t1 := HRB.out.at.2.1
  have t2 := HRB.out.at.2.2
  go_wp2_with fail
  clear t0 t1 t2
  clear g0 g1
  refine wp_region_held_drew (S := fun W => RB W BX g b0 c0 b1 c1 b2 c2) (by kernel_rfl) (HRB.out.below (below_drew (Below.refl _ _))) (fun hS0 => ?_)
  have hBd : Below w15.heap.size w15 w15.drew := below_drew (Below.refl _ _)
  refine tk0 (v := (.bool lo)) (by kernel_rfl) (by kernel_rfl) (by kernel_rfl) (fun _ _ _ h => h) (Or.inl ⟨by kernel_rfl, fun w' hSw => by go_simp⟩) hS0 ?_
  try simp only [Act.put, List.setIfInBounds_toArray, List.set_cons_zero, List.set_cons_succ]
  refine tk1 (v := (.agg #[.slice (some ⟨b0, 0, none⟩) (nE g) c0, .slice (some ⟨b1, 0, none⟩) (nE g) c1, .slice (some ⟨b2, 0, none⟩) (nE g) c2])) (by kernel_rfl) (by kernel_rfl) (by kernel_rfl) (fun _ _ _ h => h) (Or.inl ⟨by kernel_rfl, (fun w' hSw => by have h0 := hSw.at.1; have h1 := hSw.at.2.1; have h2 := hSw.at.2.2; go_simp)⟩) hS0 ?_
  try simp only [Act.put, List.setIfInBounds_toArray, List.set_cons_zero, List.set_cons_succ]
  refine tk2 (v := (.int .i64 X)) (by kernel_rfl) (by kernel_rfl) (by kernel_rfl) (fun _ _ _ h => h) (Or.inl ⟨by kernel_rfl, fun w' hSw => by go_simp⟩) hS0 ?_
  try simp only [Act.put, List.setIfInBounds_toArray, List.set_cons_zero, List.set_cons_succ]
  refine tk4 (v := (.agg #[.slice (some ⟨b0, 0, none⟩) (nE g) c0, .slice (some ⟨b1, 0, none⟩) (nE g) c1, .slice (some ⟨b2, 0, none⟩) (nE g) c2])) (by kernel_rfl) (by kernel_rfl) (by kernel_rfl) (fun _ _ _ h => h) (Or.inl ⟨by kernel_rfl, (fun w' hSw => by have h0 := hSw.at.1; have h1 := hSw.at.2.1; have h2 := hSw.at.2.2; go_simp)⟩) hS0 ?_
  try simp only [Act.put, List.setIfInBounds_toArray, List.set_cons_zero, List.set_cons_succ]
  refine tk5 (v := (.slice va1 l1.length vc1)) (by kernel_rfl) (by kernel_rfl) (by kernel_rfl) (fun _ _ _ h => h) (Or.inl ⟨by kernel_rfl, fun w' hSw => by go_simp⟩) hS0 ?_
  try simp only [Act.put, List.setIfInBounds_toArray, List.set_cons_zero, List.set_cons_succ]
  refine wpAnyH_ready (rs := [3]) (by kernel_rfl) (by simp) (AllReadyH.cons rfl (fun K hK => ?_) AllReadyH.nil)
  rw [if_pos (by kernel_rfl)]
  go_simp
  refine (HLow.out b0 c0 b1 c1 b2 c2 _ hS0.rp).mono ?_
  rintro e wa ⟨ob, oc, rfl, hO, hba⟩
  have hSa := hS0.below hba
  have hoc := hO.capOk
  have HOc : Hid (wa.cell? ⟨ob, Z, none⟩ = some (.bool lo)) := Lib.hid (by rw [hO.cell hZ, HLE.out])
  clear hO
  refine hK.out _ _ hSa fun _ => ?_
  clear hK
  refine wpAnyH_weak (T := fun W => RB W BX g b0 c0 b1 c1 b2 c2 ∧ W.cell? ⟨ob, Z, none⟩ = some (.bool lo)) (fun v hv => hv.1) _ _ _ _ ?_
  have hS1 : RB wa BX g b0 c0 b1 c1 b2 c2 ∧ wa.cell? ⟨ob, Z, none⟩ = some (.bool lo) := ⟨hSa, HOc.out⟩
  refine wpAnyH_ready (rs := [6]) (by kernel_rfl) (by simp) (AllReadyH.cons rfl (fun K hK => ?_) AllReadyH.nil)
  rw [if_pos (by kernel_rfl)]
  go_simp
  refine (HNv.out b0 c0 b1 c1 b2 c2 _ _ hSa.rp ((H1.out.below hBd (Nat.le_refl _)).below hba (Nat.le_refl _))).mono ?_
  rintro e wb ⟨rfl, hbb⟩
  have hS2 : RB wb BX g b0 c0 b1 c1 b2 c2 ∧ wb.cell? ⟨ob, Z, none⟩ = some (.bool lo) := ⟨hSa.below hbb, ck HOc.out hbb⟩
  refine hK.out _ _ hS2 fun _ => ?_
  clear hK
  refine tk7 (v := (.pointer (some ⟨ob, Z, none⟩))) (by kernel_rfl) (by kernel_rfl) (by kernel_rfl) (fun _ _ _ h => h) (Or.inl ⟨by kernel_rfl, fun w' hSw => by go_simp⟩) hS2 ?_
  try simp only [Act.put, List.setIfInBounds_toArray, List.set_cons_zero, List.set_cons_succ]
  refine tk8 (v := (.bool lo)) (by kernel_rfl) (by kernel_rfl) (by kernel_rfl) (fun _ _ _ h => h) (Or.inl ⟨by kernel_rfl, (fun w' hSw => by have h0 := hSw.2; go_simp)⟩) hS2 ?_
  try simp only [Act.put, List.setIfInBounds_toArray, List.set_cons_zero, List.set_cons_succ]
  refine tk9 (v := (.bool true)) (by kernel_rfl) (by kernel_rfl) (by kernel_rfl) (fun _ _ _ h => h) (Or.inl ⟨by kernel_rfl, fun w' hSw => by go_simp⟩) hS2 ?_
  try simp only [Act.put, List.setIfInBounds_toArray, List.set_cons_zero, List.set_cons_succ]
  refine tk10 (v := (.bool true)) (by kernel_rfl) (by kernel_rfl) (by kernel_rfl) (fun _ _ _ h => h) (Or.inl ⟨by kernel_rfl, fun w' hSw => by go_simp⟩) hS2 ?_
  try simp only [Act.put, List.setIfInBounds_toArray, List.set_cons_zero, List.set_cons_succ]
  refine tk11 (v := (.int .i64 0)) (by kernel_rfl) (by kernel_rfl) (by kernel_rfl) (fun _ _ _ h => h) (Or.inl ⟨by kernel_rfl, fun w' hSw => by go_simp⟩) hS2 ?_
  try simp only [Act.put, List.setIfInBounds_toArray, List.set_cons_zero, List.set_cons_succ]
  refine tk12 (v := (.bool true)) (by kernel_rfl) (by kernel_rfl) (by kernel_rfl) (fun _ _ _ h => h) (Or.inl ⟨by kernel_rfl, fun w' hSw => by go_simp⟩) hS2 ?_
  try simp only [Act.put, List.setIfInBounds_toArray, List.set_cons_zero, List.set_cons_succ]
  refine tk13 (v := (.bool true)) (by kernel_rfl) (by kernel_rfl) (by kernel_rfl) (fun _ _ _ h => h) (Or.inl ⟨by kernel_rfl, fun w' hSw => by go_simp⟩) hS2 ?_
  try simp only [Act.put, List.setIfInBounds_toArray, List.set_cons_zero, List.set_cons_succ]
  refine tk14 (v := (.bool true)) (by kernel_rfl) (by kernel_rfl) (by kernel_rfl) (fun _ _ _ h => h) (Or.inl ⟨by kernel_rfl, fun w' hSw => by go_simp⟩) hS2 ?_
  try simp only [Act.put, List.setIfInBounds_toArray, List.set_cons_zero, List.set_cons_succ]
  refine wpAnyH_done (by kernel_rfl) ?_ _
  have HBw : Hid (Below w.heap.size w wb) := Lib.hid (HB.out.trans ((hBd.trans ((hba.mono hBd.size).trans (hbb.mono (Nat.le_trans hBd.size hba.size)))).mono HB.out.size))
  clear hS0 hSa hS1 hS2 hba hbb hBd
  go_wp2_with fail
  go_ret
  exact ⟨rfl, HBw.out⟩

set_option maxRecDepth 100000 in
set_option maxHeartbeats 4000000 in
theorem below_bad2 (g : Nat) (hg : g < 17) (v1 v2 : Value) (l1 l2 : List Int) (w : World) (h1 : Ints w v1 l1) (h2 : Ints w v2 l2) (hw1 : wordB g l1 = false) (hw2 : wordB g l2 = true) :
    Calls Try.prog 7 #[gV (kd g) (nm g), v1, v2] w fun e w' => e = .returned (.bool true) ∧ Below w.heap.size w w' := by
  have q2 : l2.length ≤ 30 := by simp [wordB] at hw2; omega
  have HOf := Lib.hid (fun W => Of_any (kd g) (nm g) W)
  have HLj := Lib.hid (fun v W h => listOk q2 v W h)
  have HFi := Lib.hid (fun v W h => fine_any g hg v [l2] W h (by simp))
  rw [show [l2].all (wordB g) = true by simp [hw2]] at HFi
  have HAw := Lib.hid (fun W => awake_any W)
  have HWo := Lib.hid (fun v W h => Word_any g hg v l1 W h)
  rw [hw1] at HWo
  have HEl := Lib.hid (fun W => Elements_any g hg W)
  have hE := tE hg
  have hX := folI_lt hg hw2
  have HCo := Lib.hid (fun v W h => Covers_ok g hg v l2 W h hw2)
  have HNu : Hid (∀ b0 c0 b1 c1 b2 c2 v W, RP W g b0 b1 b2 → Ints W v l2 → Calls Try.prog 27 #[rV g b0 c0 b1 c1 b2 c2, .int .i64 0, v] W fun e w' => e = .returned (.int .i64 (folI g l2 : Nat)) ∧ Below W.heap.size W w') := Lib.hid (fun b0 c0 b1 c1 b2 c2 v W h hv =>
    Number_any g b0 c0 b1 c1 b2 c2 0 hg v (toN l2) W h hE.1 (hv.toN (word_let hw2)) (toN_lt (word_let hw2)))
  have HRc := Lib.hid (fun b0 c0 b1 c1 b2 c2 W h => RCovers_any g b0 c0 b1 c1 b2 c2 (folI g l2) hg W h hX)
  have HSa := Lib.hid (fun v v' W h h' => sameR_any v v' ((cvL g (folI g l2) (nE g)).map (wd g)) W h h')
  have HLi := Lib.hid (fun v W h => listBad l1 v W h)
  have HBe := Lib.hid (fun v v' W h h' => Below_bad (kd g) (nm g) v v' (l1.take 34) l2 W h h' (.inr ⟨g, hg, rfl, rfl, by simp [word_take, hw1]⟩))
  generalize l1.take 34 = m1 at *
  generalize hCL : (cvL g (folI g l2) (nE g)).length = cl at *
  generalize hCW : (cvL g (folI g l2) (nE g)).map (wd g) = cw at *
  clear hCL hCW
  generalize folI g l2 = X at *
  obtain ⟨va1, vc1, rfl, _, _, _⟩ := h1.open
  obtain ⟨va2, vc2, rfl, _, _, _⟩ := h2.open
  have H10 := Lib.hid h1
  have H20 := Lib.hid h2
  clear h1 h2 hw1 hw2
  go_enter Try.func7, Try.ntmps7
  go_wp2_with fail
  refine (HOf.out _).mono ?_
  rintro e w1 ⟨rfl, hb⟩
  have HG : Hid (Blk 23 w1 w.heap.size #[.int .u8 (kd g), .int .i64 (nm g)]) := Lib.hid ((Blk.new _ _ _).below hb)
  have HB : Hid (Below w.heap.size w w1) := Lib.hid (bl1 hb)
  have H1 := Lib.hid (H10.out.below HB.out (Nat.le_refl _))
  have H2 := Lib.hid (H20.out.below HB.out (Nat.le_refl _))
  clear hb H10 H20
  have g0 := HG.out.at0.1
  have g1 := HG.out.at0.2
  go_wp2_with fail
  clear g0 g1
  refine (HLi.out _ _ H1.out).mono ?_
  rintro e w2 ⟨la, lc, rfl, hm1, hb⟩
  have HBn : Hid (Below w1.heap.size w1 w2) := Lib.hid (hb)
  have HG_n := Lib.hid (HG.out.below HBn.out)
  have H1_n := Lib.hid (H1.out.below HBn.out (Nat.le_refl _))
  have H2_n := Lib.hid (H2.out.below HBn.out (Nat.le_refl _))
  have HB_n := Lib.hid (HB.out.trans (HBn.out.mono HB.out.size))
  clear HG H1 H2 HB
  have HG := HG_n
  have H1 := H1_n
  have H2 := H2_n
  have HB := HB_n
  clear HG_n H1_n H2_n HB_n HBn hb
  have HM1 := Lib.hid hm1
  clear hm1
  have g0 := HG.out.at0.1
  have g1 := HG.out.at0.2
  go_wp2_with fail
  clear g0 g1
  refine (HLj.out _ _ H2.out).mono ?_
  rintro e w3 ⟨lb, ld, rfl, hm2, hb⟩
  have HBn : Hid (Below w2.heap.size w2 w3) := Lib.hid (hb)
  have HG_n := Lib.hid (HG.out.below HBn.out)
  have H1_n := Lib.hid (H1.out.below HBn.out (Nat.le_refl _))
  have H2_n := Lib.hid (H2.out.below HBn.out (Nat.le_refl _))
  have HM1_n := Lib.hid (HM1.out.below HBn.out (Nat.le_refl _))
  have HB_n := Lib.hid (HB.out.trans (HBn.out.mono HB.out.size))
  clear HG H1 H2 HM1 HB
  have HG := HG_n
  have H1 := H1_n
  have H2 := H2_n
  have HM1 := HM1_n
  have HB := HB_n
  clear HG_n H1_n H2_n HM1_n HB_n HBn hb
  have HM2 := Lib.hid hm2
  clear hm2
  have g0 := HG.out.at0.1
  have g1 := HG.out.at0.2
  go_wp2_with fail
  clear g0 g1
  refine (HBe.out _ _ _ HM1.out HM2.out).mono ?_
  rintro e w4 ⟨rfl, hb⟩
  have HBn : Hid (Below w3.heap.size w3 w4) := Lib.hid (hb)
  have HG_n := Lib.hid (HG.out.below HBn.out)
  have H1_n := Lib.hid (H1.out.below HBn.out (Nat.le_refl _))
  have H2_n := Lib.hid (H2.out.below HBn.out (Nat.le_refl _))
  have HM1_n := Lib.hid (HM1.out.below HBn.out (Nat.le_refl _))
  have HM2_n := Lib.hid (HM2.out.below HBn.out (Nat.le_refl _))
  have HB_n := Lib.hid (HB.out.trans (HBn.out.mono HB.out.size))
  clear HG H1 H2 HM1 HM2 HB
  have HG := HG_n
  have H1 := H1_n
  have H2 := H2_n
  have HM1 := HM1_n
  have HM2 := HM2_n
  have HB := HB_n
  clear HG_n H1_n H2_n HM1_n HM2_n HB_n HBn hb
  have g0 := HG.out.at0.1
  have g1 := HG.out.at0.2
  go_wp2_with fail
  clear HM1 HM2
  clear g0 g1
  refine (HOf.out _).mono ?_
  rintro e w5 ⟨rfl, hb⟩
  have HBn : Hid (Below w4.heap.size w4 w5) := Lib.hid (hb)
  have HG_n := Lib.hid (HG.out.below HBn.out)
  have H1_n := Lib.hid (H1.out.below HBn.out (Nat.le_refl _))
  have H2_n := Lib.hid (H2.out.below HBn.out (Nat.le_refl _))
  have HB_n := Lib.hid (HB.out.trans (HBn.out.mono HB.out.size))
  clear HG H1 H2 HB
  have HG := HG_n
  have H1 := H1_n
  have H2 := H2_n
  have HB := HB_n
  clear HG_n H1_n H2_n HB_n HBn hb
  have g0 := HG.out.at0.1
  have g1 := HG.out.at0.2
  go_wp2_with fail
  clear g0 g1
  refine (HLj.out _ _ H2.out).mono ?_
  rintro e w6 ⟨lb, ld, rfl, hm2, hb⟩
  have HBn : Hid (Below w5.heap.size w5 w6) := Lib.hid (hb)
  have HG_n := Lib.hid (HG.out.below HBn.out)
  have H1_n := Lib.hid (H1.out.below HBn.out (Nat.le_refl _))
  have H2_n := Lib.hid (H2.out.below HBn.out (Nat.le_refl _))
  have HB_n := Lib.hid (HB.out.trans (HBn.out.mono HB.out.size))
  clear HG H1 H2 HB
  have HG := HG_n
  have H1 := H1_n
  have H2 := H2_n
  have HB := HB_n
  clear HG_n H1_n H2_n HB_n HBn hb
  have HM2 := Lib.hid hm2
  clear hm2
  have g0 := HG.out.at0.1
  have g1 := HG.out.at0.2
  go_wp2_with fail
  clear g0 g1
  refine (HCo.out _ _ HM2.out).mono ?_
  rintro e w7 ⟨ca, cc, rfl, hcv, hb⟩
  have HBn : Hid (Below w6.heap.size w6 w7) := Lib.hid (hb)
  have HG_n := Lib.hid (HG.out.below HBn.out)
  have H1_n := Lib.hid (H1.out.below HBn.out (Nat.le_refl _))
  have H2_n := Lib.hid (H2.out.below HBn.out (Nat.le_refl _))
  have HM2_n := Lib.hid (HM2.out.below HBn.out (Nat.le_refl _))
  have HB_n := Lib.hid (HB.out.trans (HBn.out.mono HB.out.size))
  clear HG H1 H2 HM2 HB
  have HG := HG_n
  have H1 := H1_n
  have H2 := H2_n
  have HM2 := HM2_n
  have HB := HB_n
  clear HG_n H1_n H2_n HM2_n HB_n HBn hb
  have HCV := Lib.hid hcv
  clear hcv
  have g0 := HG.out.at0.1
  have g1 := HG.out.at0.2
  go_wp2_with fail
  clear HM2
  clear g0 g1
  refine (HFi.out _ _ (rows1 (Blk.new _ _ _) (H2.out.alloc _))).mono ?_
  rintro e w8 ⟨rfl, hb⟩
  have HBn : Hid (Below w7.heap.size w7 w8) := Lib.hid (bl1 hb)
  have HG_n := Lib.hid (HG.out.below HBn.out)
  have H1_n := Lib.hid (H1.out.below HBn.out (Nat.le_refl _))
  have H2_n := Lib.hid (H2.out.below HBn.out (Nat.le_refl _))
  have HCV_n := Lib.hid (HCV.out.below HBn.out (Nat.le_refl _))
  have HB_n := Lib.hid (HB.out.trans (HBn.out.mono HB.out.size))
  clear HG H1 H2 HCV HB
  have HG := HG_n
  have H1 := H1_n
  have H2 := H2_n
  have HCV := HCV_n
  have HB := HB_n
  clear HG_n H1_n H2_n HCV_n HB_n HBn hb
  have g0 := HG.out.at0.1
  have g1 := HG.out.at0.2
  go_wp2_with fail
  clear g0 g1
  refine (HEl.out _).mono ?_
  rintro e w9 ⟨tv, rfl, hrt, hb⟩
  have HBn : Hid (Below w8.heap.size w8 w9) := Lib.hid (hb)
  have HG_n := Lib.hid (HG.out.below HBn.out)
  have H1_n := Lib.hid (H1.out.below HBn.out (Nat.le_refl _))
  have H2_n := Lib.hid (H2.out.below HBn.out (Nat.le_refl _))
  have HCV_n := Lib.hid (HCV.out.below HBn.out (Nat.le_refl _))
  have HB_n := Lib.hid (HB.out.trans (HBn.out.mono HB.out.size))
  clear HG H1 H2 HCV HB
  have HG := HG_n
  have H1 := H1_n
  have H2 := H2_n
  have HCV := HCV_n
  have HB := HB_n
  clear HG_n H1_n H2_n HCV_n HB_n HBn hb
  have HRT := Lib.hid hrt
  clear hrt
  have g0 := HG.out.at0.1
  have g1 := HG.out.at0.2
  obtain ⟨b0, c0, b1, c1, b2, c2, rfl, hpp, hcc⟩ := HRT.out
  have HP : Hid (RP w9 g b0 b1 b2) := Lib.hid ⟨hpp.1, hpp.2.1, hpp.2.2⟩
  have HRB := Lib.hid (HP.out.box c0 c1 c2)
  have hbz : Below w9.heap.size w9 (w9.alloc (.cells #[.slice (some ⟨b0, 0, none⟩) (nE g) c0, .slice (some ⟨b1, 0, none⟩) (nE g) c1, .slice (some ⟨b2, 0, none⟩) (nE g) c2] 39)) := a1 _ _
  have HGz := Lib.hid (HG.out.below hbz)
  have H1z := Lib.hid (H1.out.below hbz (Nat.le_refl _))
  have H2z := Lib.hid (H2.out.below hbz (Nat.le_refl _))
  have HCVz := Lib.hid (HCV.out.below hbz (Nat.le_refl _))
  have HBz := Lib.hid (HB.out.trans (hbz.mono HB.out.size))
  clear hpp hcc HRT HP hbz g0 g1 HG H1 H2 HCV HB
  have HG := HGz
  have H1 := H1z
  have H2 := H2z
  have HCV := HCVz
  have HB := HBz
  clear HGz H1z H2z HCVz HBz
  unfold rV at HNu HRc
  obtain ⟨BX, hBX⟩ : ∃ BX, BX = w9.heap.size := ⟨_, rfl⟩
  have HBX := Lib.hid hBX
  have HRBx : Hid (RB (w9.alloc (.cells #[.slice (some ⟨b0, 0, none⟩) (nE g) c0, .slice (some ⟨b1, 0, none⟩) (nE g) c1, .slice (some ⟨b2, 0, none⟩) (nE g) c2] 39)) BX g b0 c0 b1 c1 b2 c2) := Lib.hid (by rw [hBX]; exact HRB.out)
  clear HRB hBX
  go_wp2_with fail
  rw [← HBX.out]
  have HRB := HRBx
  clear HRBx
  generalize w9.alloc (.cells #[.slice (some ⟨b0, 0, none⟩) (nE g) c0, .slice (some ⟨b1, 0, none⟩) (nE g) c1, .slice (some ⟨b2, 0, none⟩) (nE g) c2] 39) = w10 at *
  refine (HNu.out b0 c0 b1 c1 b2 c2 _ _ HRB.out.rp H2.out).mono ?_
  rintro e w11 ⟨rfl, hb⟩
  have HBn : Hid (Below w10.heap.size w10 w11) := Lib.hid (hb)
  have HG_n := Lib.hid (HG.out.below HBn.out)
  have H1_n := Lib.hid (H1.out.below HBn.out (Nat.le_refl _))
  have H2_n := Lib.hid (H2.out.below HBn.out (Nat.le_refl _))
  have HCV_n := Lib.hid (HCV.out.below HBn.out (Nat.le_refl _))
  have HRB_n := Lib.hid (HRB.out.below HBn.out)
  have HB_n := Lib.hid (HB.out.trans (HBn.out.mono HB.out.size))
  clear HG H1 H2 HCV HRB HB
  have HG := HG_n
  have H1 := H1_n
  have H2 := H2_n
  have HCV := HCV_n
  have HRB := HRB_n
  have HB := HB_n
  clear HG_n H1_n H2_n HCV_n HRB_n HB_n HBn hb
  have t0 := HRB.out.at.1
  have t1 := HRB.out.at.2.1
  have t2 := HRB.out.at.2.2
  go_wp2_with fail
  clear t0 t1 t2
  refine (HRc.out b0 c0 b1 c1 b2 c2 _ HRB.out.rp).mono ?_
  rintro e w12 ⟨ra, rc, rfl, hrv, hb⟩
  have HBn : Hid (Below w11.heap.size w11 w12) := Lib.hid (hb)
  have HG_n := Lib.hid (HG.out.below HBn.out)
  have H1_n := Lib.hid (H1.out.below HBn.out (Nat.le_refl _))
  have H2_n := Lib.hid (H2.out.below HBn.out (Nat.le_refl _))
  have HCV_n := Lib.hid (HCV.out.below HBn.out (Nat.le_refl _))
  have HRB_n := Lib.hid (HRB.out.below HBn.out)
  have HB_n := Lib.hid (HB.out.trans (HBn.out.mono HB.out.size))
  clear HG H1 H2 HCV HRB HB
  have HG := HG_n
  have H1 := H1_n
  have H2 := H2_n
  have HCV := HCV_n
  have HRB := HRB_n
  have HB := HB_n
  clear HG_n H1_n H2_n HCV_n HRB_n HB_n HBn hb
  have HRV := Lib.hid hrv
  clear hrv
  have t0 := HRB.out.at.1
  have t1 := HRB.out.at.2.1
  have t2 := HRB.out.at.2.2
  go_wp2_with fail
  clear t0 t1 t2
  refine (HSa.out _ _ _ HCV.out HRV.out).mono ?_
  rintro e w13 ⟨rfl, hb⟩
  have HBn : Hid (Below w12.heap.size w12 w13) := Lib.hid (hb)
  have HG_n := Lib.hid (HG.out.below HBn.out)
  have H1_n := Lib.hid (H1.out.below HBn.out (Nat.le_refl _))
  have H2_n := Lib.hid (H2.out.below HBn.out (Nat.le_refl _))
  have HCV_n := Lib.hid (HCV.out.below HBn.out (Nat.le_refl _))
  have HRB_n := Lib.hid (HRB.out.below HBn.out)
  have HRV_n := Lib.hid (HRV.out.below HBn.out (Nat.le_refl _))
  have HB_n := Lib.hid (HB.out.trans (HBn.out.mono HB.out.size))
  clear HG H1 H2 HCV HRB HRV HB
  have HG := HG_n
  have H1 := H1_n
  have H2 := H2_n
  have HCV := HCV_n
  have HRB := HRB_n
  have HRV := HRV_n
  have HB := HB_n
  clear HG_n H1_n H2_n HCV_n HRB_n HRV_n HB_n HBn hb
  have t0 := HRB.out.at.1
  have t1 := HRB.out.at.2.1
  have t2 := HRB.out.at.2.2
  go_wp2_with fail
  clear t0 t1 t2
  clear HRV HCV
  have g0 := HG.out.at0.1
  have g1 := HG.out.at0.2
  clear g0 g1
  refine (HAw.out _).mono ?_
  rintro e w14 ⟨rfl, hb⟩
  have HBn : Hid (Below w13.heap.size w13 w14) := Lib.hid (hb)
  have HG_n := Lib.hid (HG.out.below HBn.out)
  have H1_n := Lib.hid (H1.out.below HBn.out (Nat.le_refl _))
  have H2_n := Lib.hid (H2.out.below HBn.out (Nat.le_refl _))
  have HRB_n := Lib.hid (HRB.out.below HBn.out)
  have HB_n := Lib.hid (HB.out.trans (HBn.out.mono HB.out.size))
  clear HG H1 H2 HRB HB
  have HG := HG_n
  have H1 := H1_n
  have H2 := H2_n
  have HRB := HRB_n
  have HB := HB_n
  clear HG_n H1_n H2_n HRB_n HB_n HBn hb
  have g0 := HG.out.at0.1
  have g1 := HG.out.at0.2
  have t0 := HRB.out.at.1
  have t1 := HRB.out.at.2.1
  have t2 := HRB.out.at.2.2
  go_wp2_with fail
  clear t0 t1 t2
  clear g0 g1
  refine (HWo.out _ _ H1.out).mono ?_
  rintro e w15 ⟨rfl, hb⟩
  have HBn : Hid (Below w14.heap.size w14 w15) := Lib.hid (hb)
  have HG_n := Lib.hid (HG.out.below HBn.out)
  have H1_n := Lib.hid (H1.out.below HBn.out (Nat.le_refl _))
  have H2_n := Lib.hid (H2.out.below HBn.out (Nat.le_refl _))
  have HRB_n := Lib.hid (HRB.out.below HBn.out)
  have HB_n := Lib.hid (HB.out.trans (HBn.out.mono HB.out.size))
  clear HG H1 H2 HRB HB
  have HG := HG_n
  have H1 := H1_n
  have H2 := H2_n
  have HRB := HRB_n
  have HB := HB_n
  clear HG_n H1_n H2_n HRB_n HB_n HBn hb
  have g0 := HG.out.at0.1
  have g1 := HG.out.at0.2
  have t0 := HRB.out.at.1
  have t1 := HRB.out.at.2.1
  have t2 := HRB.out.at.2.2
  go_wp2_with fail
  clear t0 t1 t2
  go_ret
  exact ⟨rfl, HB.out⟩

/-- THE LAW MirrorBelow. -/
theorem mirrorBelow_law (k n : Int) (v1 v2 : Value) (l1 l2 : List Int) (w : World) (h1 : Ints w v1 l1) (h2 : Ints w v2 l2) :
    Calls Try.prog 7 #[gV k n, v1, v2] w fun e w' => e = .returned (.bool true) ∧ Below w.heap.size w w' := by
  by_cases hk : grpB k n = true
  · obtain ⟨g, hg, rfl, rfl⟩ := grp_of hk
    cases hw2 : wordB g l2 with
    | true =>
      cases hw1 : wordB g l1 with
      | true => exact below_good g hg v1 v2 l1 l2 w h1 h2 hw1 hw2
      | false => exact below_bad2 g hg v1 v2 l1 l2 w h1 h2 hw1 hw2
    | false =>
      refine below_bad1 _ _ v1 v2 l1 l2 w h1 h2 (.inr ⟨g, hg, rfl, rfl, by simp [word_take, hw2]⟩) (.inr ⟨g, hg, rfl, rfl, by simp [word_take, hw2]⟩) fun v W h => ?_
      have := fine_any g hg v [l2] W h (by simp)
      rwa [show [l2].all (wordB g) = false by simp [hw2]] at this
  · exact below_bad1 k n v1 v2 l1 l2 w h1 h2 (.inl (by simpa using hk)) (.inl (by simpa using hk)) fun v W _ => fine_none k n (Bool.eq_false_iff.2 hk) v W
end Go.Proofs.Ytlnbodpdgebflaa
