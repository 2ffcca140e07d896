/- MirrorWords -/
import Derived.Test.YtlnbodpdgebflaaQt
import Derived.Test.YtlnbodpdgebflaaWh
namespace Go.Proofs.Ytlnbodpdgebflaa
open Go.RowKit

set_option maxRecDepth 100000 in
set_option maxHeartbeats 2000000 in
theorem words_bad (k n : Int) (v1 : Value) (l1 : List Int) (w : World) (h1 : Ints w v1 l1) (hb0 : Bad k n [l1.take 34])
    (hfn : ∀ v W, IntRows W v [l1] → Calls Try.prog 24 #[gV k n, v] W fun e w' => e = .returned (.bool false) ∧ Below W.heap.size W w') :
    Calls Try.prog 3 #[gV k n, v1] w fun e w' => e = .returned (.bool true) ∧ Below w.heap.size w w' := by
  have HOf := Lib.hid (fun W => Of_any k n W)
  have HLi := Lib.hid (fun v W h => listBad l1 v W h)
  have HNo := Lib.hid (fun v W h => Normal_bad k n v (l1.take 34) W h hb0)
  have HLe := Lib.hid (fun v W h => Length_bad k n v (l1.take 34) W h hb0)
  have HWs := Lib.hid (fun v W h => Words_bad k n v (l1.take 34) W h hb0)
  have HF := Lib.hid hfn
  generalize l1.take 34 = m1 at *
  have HAw := Lib.hid (fun W => awake_any W)
  obtain ⟨va1, vc1, rfl, _, _, _⟩ := h1.open
  have H10 := Lib.hid h1
  clear h1 hb0 hfn
  go_enter Try.func3, Try.ntmps3
  go_wp2_with fail
  refine (HOf.out _).mono ?_
  rintro e w1 ⟨rfl, hb⟩
  have HG : Hid (Blk 23 w1 w.heap.size #[.int .u8 k, .int .i64 n]) := Lib.hid ((Blk.new _ _ _).below hb)
  have HB : Hid (Below w.heap.size w w1) := Lib.hid (bl1 hb)
  have H1 := Lib.hid (H10.out.below HB.out (Nat.le_refl _))
  clear hb H10
  have g0 := HG.out.at0.1
  have g1 := HG.out.at0.2
  go_wp2_with fail
  clear g0 g1
  refine (HLi.out _ _ H1.out).mono ?_
  rintro e w2 ⟨la, lc, rfl, hm1, hb⟩
  have HBn : Hid (Below w1.heap.size w1 w2) := Lib.hid (hb)
  have HG_n := Lib.hid (HG.out.below HBn.out)
  have H1_n := Lib.hid (H1.out.below HBn.out (Nat.le_refl _))
  have HB_n := Lib.hid (HB.out.trans (HBn.out.mono HB.out.size))
  clear HG H1 HB
  have HG := HG_n
  have H1 := H1_n
  have HB := HB_n
  clear HG_n H1_n HB_n HBn hb
  have HM1 := Lib.hid hm1
  clear hm1
  have g0 := HG.out.at0.1
  have g1 := HG.out.at0.2
  go_wp2_with fail
  clear g0 g1
  refine (HNo.out _ _ HM1.out).mono ?_
  rintro e w3 ⟨rfl, hb⟩
  have HBn : Hid (Below w2.heap.size w2 w3) := Lib.hid (hb)
  have HG_n := Lib.hid (HG.out.below HBn.out)
  have H1_n := Lib.hid (H1.out.below HBn.out (Nat.le_refl _))
  have HM1_n := Lib.hid (HM1.out.below HBn.out (Nat.le_refl _))
  have HB_n := Lib.hid (HB.out.trans (HBn.out.mono HB.out.size))
  clear HG H1 HM1 HB
  have HG := HG_n
  have H1 := H1_n
  have HM1 := HM1_n
  have HB := HB_n
  clear HG_n H1_n HM1_n HB_n HBn hb
  have g0 := HG.out.at0.1
  have g1 := HG.out.at0.2
  go_wp2_with fail
  clear HM1
  clear g0 g1
  refine (HOf.out _).mono ?_
  rintro e w4 ⟨rfl, hb⟩
  have HBn : Hid (Below w3.heap.size w3 w4) := Lib.hid (hb)
  have HG_n := Lib.hid (HG.out.below HBn.out)
  have H1_n := Lib.hid (H1.out.below HBn.out (Nat.le_refl _))
  have HB_n := Lib.hid (HB.out.trans (HBn.out.mono HB.out.size))
  clear HG H1 HB
  have HG := HG_n
  have H1 := H1_n
  have HB := HB_n
  clear HG_n H1_n HB_n HBn hb
  have g0 := HG.out.at0.1
  have g1 := HG.out.at0.2
  go_wp2_with fail
  clear g0 g1
  refine (HLi.out _ _ H1.out).mono ?_
  rintro e w5 ⟨la, lc, rfl, hm1, hb⟩
  have HBn : Hid (Below w4.heap.size w4 w5) := Lib.hid (hb)
  have HG_n := Lib.hid (HG.out.below HBn.out)
  have H1_n := Lib.hid (H1.out.below HBn.out (Nat.le_refl _))
  have HB_n := Lib.hid (HB.out.trans (HBn.out.mono HB.out.size))
  clear HG H1 HB
  have HG := HG_n
  have H1 := H1_n
  have HB := HB_n
  clear HG_n H1_n HB_n HBn hb
  have HM1 := Lib.hid hm1
  clear hm1
  have g0 := HG.out.at0.1
  have g1 := HG.out.at0.2
  go_wp2_with fail
  clear g0 g1
  refine (HLe.out _ _ HM1.out).mono ?_
  rintro e w6 ⟨rfl, hb⟩
  have HBn : Hid (Below w5.heap.size w5 w6) := Lib.hid (hb)
  have HG_n := Lib.hid (HG.out.below HBn.out)
  have H1_n := Lib.hid (H1.out.below HBn.out (Nat.le_refl _))
  have HM1_n := Lib.hid (HM1.out.below HBn.out (Nat.le_refl _))
  have HB_n := Lib.hid (HB.out.trans (HBn.out.mono HB.out.size))
  clear HG H1 HM1 HB
  have HG := HG_n
  have H1 := H1_n
  have HM1 := HM1_n
  have HB := HB_n
  clear HG_n H1_n HM1_n HB_n HBn hb
  have g0 := HG.out.at0.1
  have g1 := HG.out.at0.2
  go_wp2_with fail
  clear HM1
  clear g0 g1
  refine (HOf.out _).mono ?_
  rintro e w7 ⟨rfl, hb⟩
  have HBn : Hid (Below w6.heap.size w6 w7) := Lib.hid (hb)
  have HG_n := Lib.hid (HG.out.below HBn.out)
  have H1_n := Lib.hid (H1.out.below HBn.out (Nat.le_refl _))
  have HB_n := Lib.hid (HB.out.trans (HBn.out.mono HB.out.size))
  clear HG H1 HB
  have HG := HG_n
  have H1 := H1_n
  have HB := HB_n
  clear HG_n H1_n HB_n HBn hb
  have g0 := HG.out.at0.1
  have g1 := HG.out.at0.2
  go_wp2_with fail
  clear g0 g1
  refine (HLi.out _ _ H1.out).mono ?_
  rintro e w8 ⟨la, lc, rfl, hm1, hb⟩
  have HBn : Hid (Below w7.heap.size w7 w8) := Lib.hid (hb)
  have HG_n := Lib.hid (HG.out.below HBn.out)
  have H1_n := Lib.hid (H1.out.below HBn.out (Nat.le_refl _))
  have HB_n := Lib.hid (HB.out.trans (HBn.out.mono HB.out.size))
  clear HG H1 HB
  have HG := HG_n
  have H1 := H1_n
  have HB := HB_n
  clear HG_n H1_n HB_n HBn hb
  have HM1 := Lib.hid hm1
  clear hm1
  have g0 := HG.out.at0.1
  have g1 := HG.out.at0.2
  go_wp2_with fail
  clear g0 g1
  refine (HWs.out _ _ HM1.out).mono ?_
  rintro e w9 ⟨rfl, hb⟩
  have HBn : Hid (Below w8.heap.size w8 w9) := Lib.hid (hb)
  have HG_n := Lib.hid (HG.out.below HBn.out)
  have H1_n := Lib.hid (H1.out.below HBn.out (Nat.le_refl _))
  have HM1_n := Lib.hid (HM1.out.below HBn.out (Nat.le_refl _))
  have HB_n := Lib.hid (HB.out.trans (HBn.out.mono HB.out.size))
  clear HG H1 HM1 HB
  have HG := HG_n
  have H1 := H1_n
  have HM1 := HM1_n
  have HB := HB_n
  clear HG_n H1_n HM1_n HB_n HBn hb
  have g0 := HG.out.at0.1
  have g1 := HG.out.at0.2
  go_wp2_with fail
  clear HM1
  clear g0 g1
  refine (HF.out _ _ (rows1 (Blk.new _ _ _) (H1.out.alloc _))).mono ?_
  rintro e w10 ⟨rfl, hb⟩
  have HBn : Hid (Below w9.heap.size w9 w10) := Lib.hid (bl1 hb)
  have HG_n := Lib.hid (HG.out.below HBn.out)
  have H1_n := Lib.hid (H1.out.below HBn.out (Nat.le_refl _))
  have HB_n := Lib.hid (HB.out.trans (HBn.out.mono HB.out.size))
  clear HG H1 HB
  have HG := HG_n
  have H1 := H1_n
  have HB := HB_n
  clear HG_n H1_n HB_n HBn hb
  have g0 := HG.out.at0.1
  have g1 := HG.out.at0.2
  go_wp2_with fail
  clear g0 g1
  refine (HAw.out _).mono ?_
  rintro e w11 ⟨rfl, hb⟩
  have HBn : Hid (Below w10.heap.size w10 w11) := Lib.hid (hb)
  have HG_n := Lib.hid (HG.out.below HBn.out)
  have H1_n := Lib.hid (H1.out.below HBn.out (Nat.le_refl _))
  have HB_n := Lib.hid (HB.out.trans (HBn.out.mono HB.out.size))
  clear HG H1 HB
  have HG := HG_n
  have H1 := H1_n
  have HB := HB_n
  clear HG_n H1_n HB_n HBn hb
  have g0 := HG.out.at0.1
  have g1 := HG.out.at0.2
  go_wp2_with fail
  go_ret
  exact ⟨rfl, HB.out⟩

set_option maxRecDepth 100000 in
set_option maxHeartbeats 4000000 in
theorem words_good (g : Nat) (hg : g < 17) (v1 : Value) (l1 : List Int) (w : World) (h1 : Ints w v1 l1) (hw1 : wordB g l1 = true) :
    Calls Try.prog 3 #[gV (kd g) (nm g), v1] w fun e w' => e = .returned (.bool true) ∧ Below w.heap.size w w' := by
  have q1 : l1.length ≤ 30 := by simp [wordB] at hw1; omega
  have HOf := Lib.hid (fun W => Of_any (kd g) (nm g) W)
  have HLi := Lib.hid (fun v W h => listOk q1 v W h)
  have HF := Lib.hid (fun v W h => fine_any g hg v [l1] W h (by simp))
  rw [show [l1].all (wordB g) = true by simp [hw1]] at HF
  have HAw := Lib.hid (fun W => awake_any W)
  have HEl := Lib.hid (fun W => Elements_any g hg W)
  have hE := tE hg
  have hX := folI_lt hg hw1
  have hl12 := (tx hg hX).2.1
  have HNo := Lib.hid (fun v W h => normW hg hw1 v W h)
  have HLe := Lib.hid (fun v W h => Length_ok g hg v l1 W h hw1)
  have HWs := Lib.hid (fun v W h => Words_ok g hg v l1 W h hw1)
  have HNu : Hid (∀ b0 c0 b1 c1 b2 c2 v W, RP W g b0 b1 b2 → Ints W v l1 → Calls Try.prog 27 #[rV g b0 c0 b1 c1 b2 c2, .int .i64 0, v] W fun e w' => e = .returned (.int .i64 (folI g l1 : Nat)) ∧ Below W.heap.size W w') := Lib.hid (fun b0 c0 b1 c1 b2 c2 v W h hv =>
    Number_any g b0 c0 b1 c1 b2 c2 0 hg v (toN l1) W h hE.1 (hv.toN (word_let hw1)) (toN_lt (word_let hw1)))
  have HLn := Lib.hid (fun b0 c0 b1 c1 b2 c2 W h => Len_any g b0 c0 b1 c1 b2 c2 (folI g l1) hg W h hX)
  have HSl := shP_len hg hX
  have HRs : Hid (∀ b0 c0 b1 c1 b2 c2 W, RP W g b0 b1 b2 → Calls Try.prog 31 #[rV g b0 c0 b1 c1 b2 c2, .int .i64 (folI g l1 : Nat)] W fun e w' => ∃ a c, e = .returned (.slice a (shP g (ln g (folI g l1)) (folI g l1)).length c) ∧ NatRows w' (.slice a (shP g (ln g (folI g l1)) (folI g l1)).length c) (shP g (ln g (folI g l1)) (folI g l1)) ∧ Below W.heap.size W w') := Lib.hid (fun b0 c0 b1 c1 b2 c2 W h =>
    (RShort_any g b0 c0 b1 c1 b2 c2 hg _ (folI g l1) W rfl h hX).mono fun e w' hh => by
      obtain ⟨v, rfl, ho, hb⟩ := hh
      obtain ⟨a, c, rfl⟩ := ho.form
      exact ⟨a, c, rfl, ho.rows (by omega), hb⟩)
  have HSa := Lib.hid (fun v v' W h h' => sameR_any v v' (shP g (ln g (folI g l1)) (folI g l1)) W h h')
  have HEq := Lib.hid (fun v v' W (h : Wn W v g (folI g l1)) h' => equalW v v' W h h')
  generalize shP g (ln g (folI g l1)) (folI g l1) = sp at *
  generalize folI g l1 = X at *
  generalize hsl : sp.length = sl at *
  clear hsl HSl
  obtain ⟨va1, vc1, rfl, _, _, _⟩ := h1.open
  have H10 := Lib.hid h1
  clear h1 hw1
  go_enter Try.func3, Try.ntmps3
  go_wp2_with fail
  refine (HOf.out _).mono ?_
  rintro e w1 ⟨rfl, hb⟩
  have HG : Hid (Blk 23 w1 w.heap.size #[.int .u8 (kd g), .int .i64 (nm g)]) := Lib.hid ((Blk.new _ _ _).below hb)
  have HB : Hid (Below w.heap.size w w1) := Lib.hid (bl1 hb)
  have H1 := Lib.hid (H10.out.below HB.out (Nat.le_refl _))
  clear hb H10
  have g0 := HG.out.at0.1
  have g1 := HG.out.at0.2
  go_wp2_with fail
  clear g0 g1
  refine (HLi.out _ _ H1.out).mono ?_
  rintro e w2 ⟨la, lc, rfl, hm1, hb⟩
  have HBn : Hid (Below w1.heap.size w1 w2) := Lib.hid (hb)
  have HG_n := Lib.hid (HG.out.below HBn.out)
  have H1_n := Lib.hid (H1.out.below HBn.out (Nat.le_refl _))
  have HB_n := Lib.hid (HB.out.trans (HBn.out.mono HB.out.size))
  clear HG H1 HB
  have HG := HG_n
  have H1 := H1_n
  have HB := HB_n
  clear HG_n H1_n HB_n HBn hb
  have HM1 := Lib.hid hm1
  clear hm1
  have g0 := HG.out.at0.1
  have g1 := HG.out.at0.2
  go_wp2_with fail
  clear g0 g1
  refine (HNo.out _ _ HM1.out).mono ?_
  rintro e w3 ⟨ka, kc, rfl, hkw, hb⟩
  have HBn : Hid (Below w2.heap.size w2 w3) := Lib.hid (hb)
  have HG_n := Lib.hid (HG.out.below HBn.out)
  have H1_n := Lib.hid (H1.out.below HBn.out (Nat.le_refl _))
  have HM1_n := Lib.hid (HM1.out.below HBn.out (Nat.le_refl _))
  have HB_n := Lib.hid (HB.out.trans (HBn.out.mono HB.out.size))
  clear HG H1 HM1 HB
  have HG := HG_n
  have H1 := H1_n
  have HM1 := HM1_n
  have HB := HB_n
  clear HG_n H1_n HM1_n HB_n HBn hb
  have HKW := Lib.hid hkw
  clear hkw
  have g0 := HG.out.at0.1
  have g1 := HG.out.at0.2
  go_wp2_with fail
  clear HM1
  clear g0 g1
  refine (HOf.out _).mono ?_
  rintro e w4 ⟨rfl, hb⟩
  have HBn : Hid (Below w3.heap.size w3 w4) := Lib.hid (hb)
  have HG_n := Lib.hid (HG.out.below HBn.out)
  have H1_n := Lib.hid (H1.out.below HBn.out (Nat.le_refl _))
  have HKW_n := Lib.hid (HKW.out.below HBn.out (Nat.le_refl _))
  have HB_n := Lib.hid (HB.out.trans (HBn.out.mono HB.out.size))
  clear HG H1 HKW HB
  have HG := HG_n
  have H1 := H1_n
  have HKW := HKW_n
  have HB := HB_n
  clear HG_n H1_n HKW_n HB_n HBn hb
  have g0 := HG.out.at0.1
  have g1 := HG.out.at0.2
  go_wp2_with fail
  clear g0 g1
  refine (HLi.out _ _ H1.out).mono ?_
  rintro e w5 ⟨la, lc, rfl, hm1, hb⟩
  have HBn : Hid (Below w4.heap.size w4 w5) := Lib.hid (hb)
  have HG_n := Lib.hid (HG.out.below HBn.out)
  have H1_n := Lib.hid (H1.out.below HBn.out (Nat.le_refl _))
  have HKW_n := Lib.hid (HKW.out.below HBn.out (Nat.le_refl _))
  have HB_n := Lib.hid (HB.out.trans (HBn.out.mono HB.out.size))
  clear HG H1 HKW HB
  have HG := HG_n
  have H1 := H1_n
  have HKW := HKW_n
  have HB := HB_n
  clear HG_n H1_n HKW_n HB_n HBn hb
  have HM1 := Lib.hid hm1
  clear hm1
  have g0 := HG.out.at0.1
  have g1 := HG.out.at0.2
  go_wp2_with fail
  clear g0 g1
  refine (HLe.out _ _ HM1.out).mono ?_
  rintro e w6 ⟨rfl, hb⟩
  have HBn : Hid (Below w5.heap.size w5 w6) := Lib.hid (hb)
  have HG_n := Lib.hid (HG.out.below HBn.out)
  have H1_n := Lib.hid (H1.out.below HBn.out (Nat.le_refl _))
  have HKW_n := Lib.hid (HKW.out.below HBn.out (Nat.le_refl _))
  have HM1_n := Lib.hid (HM1.out.below HBn.out (Nat.le_refl _))
  have HB_n := Lib.hid (HB.out.trans (HBn.out.mono HB.out.size))
  clear HG H1 HKW HM1 HB
  have HG := HG_n
  have H1 := H1_n
  have HKW := HKW_n
  have HM1 := HM1_n
  have HB := HB_n
  clear HG_n H1_n HKW_n HM1_n HB_n HBn hb
  have g0 := HG.out.at0.1
  have g1 := HG.out.at0.2
  go_wp2_with fail
  clear HM1
  clear g0 g1
  refine (HOf.out _).mono ?_
  rintro e w7 ⟨rfl, hb⟩
  have HBn : Hid (Below w6.heap.size w6 w7) := Lib.hid (hb)
  have HG_n := Lib.hid (HG.out.below HBn.out)
  have H1_n := Lib.hid (H1.out.below HBn.out (Nat.le_refl _))
  have HKW_n := Lib.hid (HKW.out.below HBn.out (Nat.le_refl _))
  have HB_n := Lib.hid (HB.out.trans (HBn.out.mono HB.out.size))
  clear HG H1 HKW HB
  have HG := HG_n
  have H1 := H1_n
  have HKW := HKW_n
  have HB := HB_n
  clear HG_n H1_n HKW_n HB_n HBn hb
  have g0 := HG.out.at0.1
  have g1 := HG.out.at0.2
  go_wp2_with fail
  clear g0 g1
  refine (HLi.out _ _ H1.out).mono ?_
  rintro e w8 ⟨la, lc, rfl, hm1, hb⟩
  have HBn : Hid (Below w7.heap.size w7 w8) := Lib.hid (hb)
  have HG_n := Lib.hid (HG.out.below HBn.out)
  have H1_n := Lib.hid (H1.out.below HBn.out (Nat.le_refl _))
  have HKW_n := Lib.hid (HKW.out.below HBn.out (Nat.le_refl _))
  have HB_n := Lib.hid (HB.out.trans (HBn.out.mono HB.out.size))
  clear HG H1 HKW HB
  have HG := HG_n
  have H1 := H1_n
  have HKW := HKW_n
  have HB := HB_n
  clear HG_n H1_n HKW_n HB_n HBn hb
  have HM1 := Lib.hid hm1
  clear hm1
  have g0 := HG.out.at0.1
  have g1 := HG.out.at0.2
  go_wp2_with fail
  clear g0 g1
  refine (HWs.out _ _ HM1.out).mono ?_
  rintro e w9 ⟨sa, sc, rfl, hsw, hb⟩
  have HBn : Hid (Below w8.heap.size w8 w9) := Lib.hid (hb)
  have HG_n := Lib.hid (HG.out.below HBn.out)
  have H1_n := Lib.hid (H1.out.below HBn.out (Nat.le_refl _))
  have HKW_n := Lib.hid (HKW.out.below HBn.out (Nat.le_refl _))
  have HM1_n := Lib.hid (HM1.out.below HBn.out (Nat.le_refl _))
  have HB_n := Lib.hid (HB.out.trans (HBn.out.mono HB.out.size))
  clear HG H1 HKW HM1 HB
  have HG := HG_n
  have H1 := H1_n
  have HKW := HKW_n
  have HM1 := HM1_n
  have HB := HB_n
  clear HG_n H1_n HKW_n HM1_n HB_n HBn hb
  have HSW := Lib.hid hsw
  clear hsw
  have g0 := HG.out.at0.1
  have g1 := HG.out.at0.2
  go_wp2_with fail
  clear HM1
  clear g0 g1
  refine (HF.out _ _ (rows1 (Blk.new _ _ _) (H1.out.alloc _))).mono ?_
  rintro e w10 ⟨rfl, hb⟩
  have HBn : Hid (Below w9.heap.size w9 w10) := Lib.hid (bl1 hb)
  have HG_n := Lib.hid (HG.out.below HBn.out)
  have H1_n := Lib.hid (H1.out.below HBn.out (Nat.le_refl _))
  have HKW_n := Lib.hid (HKW.out.below HBn.out (Nat.le_refl _))
  have HSW_n := Lib.hid (HSW.out.below HBn.out (Nat.le_refl _))
  have HB_n := Lib.hid (HB.out.trans (HBn.out.mono HB.out.size))
  clear HG H1 HKW HSW HB
  have HG := HG_n
  have H1 := H1_n
  have HKW := HKW_n
  have HSW := HSW_n
  have HB := HB_n
  clear HG_n H1_n HKW_n HSW_n HB_n HBn hb
  have g0 := HG.out.at0.1
  have g1 := HG.out.at0.2
  go_wp2_with fail
  clear g0 g1
  refine (HEl.out _).mono ?_
  rintro e w11 ⟨tv, rfl, hrt, hb⟩
  have HBn : Hid (Below w10.heap.size w10 w11) := Lib.hid (hb)
  have HG_n := Lib.hid (HG.out.below HBn.out)
  have H1_n := Lib.hid (H1.out.below HBn.out (Nat.le_refl _))
  have HKW_n := Lib.hid (HKW.out.below HBn.out (Nat.le_refl _))
  have HSW_n := Lib.hid (HSW.out.below HBn.out (Nat.le_refl _))
  have HB_n := Lib.hid (HB.out.trans (HBn.out.mono HB.out.size))
  clear HG H1 HKW HSW HB
  have HG := HG_n
  have H1 := H1_n
  have HKW := HKW_n
  have HSW := HSW_n
  have HB := HB_n
  clear HG_n H1_n HKW_n HSW_n HB_n HBn hb
  have HRT := Lib.hid hrt
  clear hrt
  have g0 := HG.out.at0.1
  have g1 := HG.out.at0.2
  obtain ⟨b0, c0, b1, c1, b2, c2, rfl, hpp, hcc⟩ := HRT.out
  have HP : Hid (RP w11 g b0 b1 b2) := Lib.hid ⟨hpp.1, hpp.2.1, hpp.2.2⟩
  have HRB := Lib.hid (HP.out.box c0 c1 c2)
  have hbz : Below w11.heap.size w11 (w11.alloc (.cells #[.slice (some ⟨b0, 0, none⟩) (nE g) c0, .slice (some ⟨b1, 0, none⟩) (nE g) c1, .slice (some ⟨b2, 0, none⟩) (nE g) c2] 39)) := a1 _ _
  have HGz := Lib.hid (HG.out.below hbz)
  have H1z := Lib.hid (H1.out.below hbz (Nat.le_refl _))
  have HKWz := Lib.hid (HKW.out.below hbz (Nat.le_refl _))
  have HSWz := Lib.hid (HSW.out.below hbz (Nat.le_refl _))
  have HBz := Lib.hid (HB.out.trans (hbz.mono HB.out.size))
  clear hpp HRT HP hbz g0 g1 HB HG H1 HKW HSW
  have HG := HGz
  have H1 := H1z
  have HKW := HKWz
  have HSW := HSWz
  have HB := HBz
  clear HGz H1z HKWz HSWz HBz
  unfold rV at HNu HLn HRs
  go_wp2_with fail
  generalize w11.alloc (.cells #[.slice (some ⟨b0, 0, none⟩) (nE g) c0, .slice (some ⟨b1, 0, none⟩) (nE g) c1, .slice (some ⟨b2, 0, none⟩) (nE g) c2] 39) = w12 at *
  refine (HNu.out b0 c0 b1 c1 b2 c2 _ _ HRB.out.rp H1.out).mono ?_
  rintro e w13 ⟨rfl, hb⟩
  have HBn : Hid (Below w12.heap.size w12 w13) := Lib.hid (hb)
  have HG_n := Lib.hid (HG.out.below HBn.out)
  have H1_n := Lib.hid (H1.out.below HBn.out (Nat.le_refl _))
  have HKW_n := Lib.hid (HKW.out.below HBn.out (Nat.le_refl _))
  have HSW_n := Lib.hid (HSW.out.below HBn.out (Nat.le_refl _))
  have HRB_n := Lib.hid (HRB.out.below HBn.out)
  have HB_n := Lib.hid (HB.out.trans (HBn.out.mono HB.out.size))
  clear HG H1 HKW HSW HRB HB
  have HG := HG_n
  have H1 := H1_n
  have HKW := HKW_n
  have HSW := HSW_n
  have HRB := HRB_n
  have HB := HB_n
  clear HG_n H1_n HKW_n HSW_n HRB_n HB_n HBn hb
  have t0 := HRB.out.at.1
  have t1 := HRB.out.at.2.1
  have t2 := HRB.out.at.2.2
  obtain ⟨ya, yc, hy1, hy2⟩ := HRB.out.p0 X hX
  have hyl : (wd g X).length = ln g X := rfl
  rw [hyl] at hy1 hy2
  have HY : Hid (Wn _ (.slice ya (ln g X) yc) g X) := Lib.hid hy2
  clear hyl hy2
  go_wp2_with fail
  clear t0 t1 t2
  clear hy1
  refine (HEq.out _ _ _ HKW.out HY.out).mono ?_
  rintro e w14 ⟨rfl, hb⟩
  have HBn : Hid (Below w13.heap.size w13 w14) := Lib.hid (hb)
  have HG_n := Lib.hid (HG.out.below HBn.out)
  have H1_n := Lib.hid (H1.out.below HBn.out (Nat.le_refl _))
  have HKW_n := Lib.hid (HKW.out.below HBn.out (Nat.le_refl _))
  have HSW_n := Lib.hid (HSW.out.below HBn.out (Nat.le_refl _))
  have HRB_n := Lib.hid (HRB.out.below HBn.out)
  have HB_n := Lib.hid (HB.out.trans (HBn.out.mono HB.out.size))
  clear HG H1 HKW HSW HRB HB
  have HG := HG_n
  have H1 := H1_n
  have HKW := HKW_n
  have HSW := HSW_n
  have HRB := HRB_n
  have HB := HB_n
  clear HG_n H1_n HKW_n HSW_n HRB_n HB_n HBn hb
  have t0 := HRB.out.at.1
  have t1 := HRB.out.at.2.1
  have t2 := HRB.out.at.2.2
  go_wp2_with fail
  clear t0 t1 t2
  clear HY
  clear HKW
  refine (HLn.out b0 c0 b1 c1 b2 c2 _ HRB.out.rp).mono ?_
  rintro e w15 ⟨rfl, hb⟩
  have HBn : Hid (Below w14.heap.size w14 w15) := Lib.hid (hb)
  have HG_n := Lib.hid (HG.out.below HBn.out)
  have H1_n := Lib.hid (H1.out.below HBn.out (Nat.le_refl _))
  have HSW_n := Lib.hid (HSW.out.below HBn.out (Nat.le_refl _))
  have HRB_n := Lib.hid (HRB.out.below HBn.out)
  have HB_n := Lib.hid (HB.out.trans (HBn.out.mono HB.out.size))
  clear HG H1 HSW HRB HB
  have HG := HG_n
  have H1 := H1_n
  have HSW := HSW_n
  have HRB := HRB_n
  have HB := HB_n
  clear HG_n H1_n HSW_n HRB_n HB_n HBn hb
  have t0 := HRB.out.at.1
  have t1 := HRB.out.at.2.1
  have t2 := HRB.out.at.2.2
  go_wp2_with fail
  clear t0 t1 t2
  refine (HRs.out b0 c0 b1 c1 b2 c2 _ HRB.out.rp).mono ?_
  rintro e w16 ⟨ra, rc, rfl, hrw, hb⟩
  have HBn : Hid (Below w15.heap.size w15 w16) := Lib.hid (hb)
  have HG_n := Lib.hid (HG.out.below HBn.out)
  have H1_n := Lib.hid (H1.out.below HBn.out (Nat.le_refl _))
  have HSW_n := Lib.hid (HSW.out.below HBn.out (Nat.le_refl _))
  have HRB_n := Lib.hid (HRB.out.below HBn.out)
  have HB_n := Lib.hid (HB.out.trans (HBn.out.mono HB.out.size))
  clear HG H1 HSW HRB HB
  have HG := HG_n
  have H1 := H1_n
  have HSW := HSW_n
  have HRB := HRB_n
  have HB := HB_n
  clear HG_n H1_n HSW_n HRB_n HB_n HBn hb
  have HRW := Lib.hid hrw
  clear hrw
  have t0 := HRB.out.at.1
  have t1 := HRB.out.at.2.1
  have t2 := HRB.out.at.2.2
  go_wp2_with fail
  clear t0 t1 t2
  refine (HSa.out _ _ _ HSW.out HRW.out).mono ?_
  rintro e w17 ⟨rfl, hb⟩
  have HBn : Hid (Below w16.heap.size w16 w17) := Lib.hid (hb)
  have HG_n := Lib.hid (HG.out.below HBn.out)
  have H1_n := Lib.hid (H1.out.below HBn.out (Nat.le_refl _))
  have HSW_n := Lib.hid (HSW.out.below HBn.out (Nat.le_refl _))
  have HRB_n := Lib.hid (HRB.out.below HBn.out)
  have HRW_n := Lib.hid (HRW.out.below HBn.out (Nat.le_refl _))
  have HB_n := Lib.hid (HB.out.trans (HBn.out.mono HB.out.size))
  clear HG H1 HSW HRB HRW HB
  have HG := HG_n
  have H1 := H1_n
  have HSW := HSW_n
  have HRB := HRB_n
  have HRW := HRW_n
  have HB := HB_n
  clear HG_n H1_n HSW_n HRB_n HRW_n HB_n HBn hb
  have t0 := HRB.out.at.1
  have t1 := HRB.out.at.2.1
  have t2 := HRB.out.at.2.2
  go_wp2_with fail
  clear t0 t1 t2
  clear HSW HRW
  refine (HAw.out _).mono ?_
  rintro e w18 ⟨rfl, hb⟩
  have HBn : Hid (Below w17.heap.size w17 w18) := Lib.hid (hb)
  have HG_n := Lib.hid (HG.out.below HBn.out)
  have H1_n := Lib.hid (H1.out.below HBn.out (Nat.le_refl _))
  have HRB_n := Lib.hid (HRB.out.below HBn.out)
  have HB_n := Lib.hid (HB.out.trans (HBn.out.mono HB.out.size))
  clear HG H1 HRB HB
  have HG := HG_n
  have H1 := H1_n
  have HRB := HRB_n
  have HB := HB_n
  clear HG_n H1_n HRB_n HB_n HBn hb
  have t0 := HRB.out.at.1
  have t1 := HRB.out.at.2.1
  have t2 := HRB.out.at.2.2
  go_wp2_with fail
  clear t0 t1 t2
  go_ret
  exact ⟨rfl, HB.out⟩

/-- THE LAW MirrorWords. -/
theorem mirrorWords_law (k n : Int) (v1 : Value) (l1 : List Int) (w : World) (h1 : Ints w v1 l1) :
    Calls Try.prog 3 #[gV k n, v1] w fun e w' => e = .returned (.bool true) ∧ Below w.heap.size w w' := by
  by_cases hk : grpB k n = true
  · obtain ⟨g, hg, rfl, rfl⟩ := grp_of hk
    cases hw1 : wordB g l1 with
    | true => exact words_good g hg v1 l1 w h1 hw1
    | false =>
      refine words_bad _ _ v1 l1 w h1 (.inr ⟨g, hg, rfl, rfl, by simp [word_take, hw1]⟩) fun v W h => ?_
      have := fine_any g hg v [l1] W h (by simp)
      rwa [show [l1].all (wordB g) = false by simp [hw1]] at this
  · exact words_bad k n v1 l1 w h1 (.inl (by simpa using hk)) fun v W _ => fine_none k n (Bool.eq_false_iff.2 hk) v W
end Go.Proofs.Ytlnbodpdgebflaa
