/- MirrorTimes -/
import Derived.Test.YtlnbodpdgebflaaPl
import Derived.Test.YtlnbodpdgebflaaEh
import Derived.Test.YtlnbodpdgebflaaEg
namespace Go.Proofs.Ytlnbodpdgebflaa
open Go.RowKit

set_option maxHeartbeats 1000000 in
theorem Back_bad (k n : Int) (v : Value) (l : List Int) (hl30 : l.length ≤ 1000) (w : World) (h : Ints w v l) (hb : Bad k n [l]) : Calls Try.prog 33 #[gV k n, v] w fun e w' => e = .returned (.tuple #[.slice none 0 0, .int .i64 2]) ∧ Below w.heap.size w w' := by
  have HI := Lib.hid h.2
  have HC := Lib.hid (fun o => clone2_any v l (w.alloc o) (h.alloc o))
  have HN := Lib.hid (fun v W h => Normal_bad k n v l.reverse W h (bad_rev hb))
  have HRv := Lib.hid (fun b c W h h1 => reverse_any b l.length c (fun p => l.getD p 0) W h h1 hl30)
  obtain ⟨va, vc, rfl, _, _, _⟩ := h.open
  clear h hb
  go_enter Try.func33, Try.ntmps33
  go_wp2_with fail
  refine (HC.out _).mono ?_
  rintro e w1 ⟨ao, c, rfl, ho, hcm, hb1⟩
  have HB1 : Hid (Below w.heap.size w w1) := Lib.hid ((a1 w _).trans (hb1.mono (by simp)))
  have HG : Hid (Blk 28 w1 w.heap.size #[.int .u8 k, .int .i64 n]) := Lib.hid ((Blk.new _ _ _).below hb1)
  have hgt : w.heap.size < w1.heap.size := by have := hb1.size; simp at this; omega
  have FIN : ∀ (v : Value) (W : World), Below w.heap.size w W → True := fun _ _ _ => trivial
  clear FIN
  rcases rev_ints ho with h0 | ⟨b, rfl, hB, hc, hR⟩
  · obtain rfl : l = [] := List.eq_nil_of_length_eq_zero h0
    have HNl : Hid (Ints w1 (.slice ao 0 c) []) := Lib.hid (Ints.of_owns (n := 0) ho (by omega) (by simp))
    have g0 := HG.out.at0.1
    have g1 := HG.out.at0.2
    have HRn := Lib.hid (fun W => reverse_none ao c W)
    clear ho hb1 HC HRv
    go_wp2_with fail
    refine (HRn.out _).mono ?_
    rintro e w2 ⟨⟨_, rfl⟩, rfl⟩
    go_wp2_with fail
    refine (HN.out _ _ HNl.out).mono ?_
    rintro e w3 ⟨rfl, hb3⟩
    have HB3 : Hid (Below w.heap.size w w3) := Lib.hid (HB1.out.trans (hb3.mono HB1.out.size))
    clear hb3
    go_wp2_with fail
    exact bodyPost_ret (results_tmp2 rfl _ _ _) rfl ⟨rfl, HB3.out⟩
  · have HRs := Lib.hid hR
    have HB0 := Lib.hid hB
    by_cases h1 : 1 ≤ l.length
    · clear ho hb1 HC hR hB
      go_wp2_with fail
      refine (HRv.out _ _ _ HRs.out h1).mono ?_
      rintro e w2 ⟨⟨_, rfl⟩, i, hi1, hi2, hR2⟩
      have HNl := Lib.hid (hR2.toInts hi1 h1 hl30 hc hcm HI.out)
      have hb0 : w.heap.size + 1 ≤ b := by have := HB0.out; simpa using this
      have HG2 : Hid (Blk 28 w2 w.heap.size #[.int .u8 k, .int .i64 n]) := Lib.hid ((hR2.bel.block _ (by omega)).trans HG.out)
      have HB2 : Hid (Below w.heap.size w w2) := Lib.hid (HB1.out.trans (hR2.bel.mono (by omega)))
      have g0 := HG2.out.at0.1
      have g1 := HG2.out.at0.2
      clear hR2 hi1 hi2
      go_wp2_with fail
      refine (HN.out _ _ HNl.out).mono ?_
      rintro e w3 ⟨rfl, hb3⟩
      have HB3 : Hid (Below w.heap.size w w3) := Lib.hid (HB2.out.trans (hb3.mono HB2.out.size))
      clear hb3
      go_wp2_with fail
      exact bodyPost_ret (results_tmp2 rfl _ _ _) rfl ⟨rfl, HB3.out⟩
    · obtain rfl : l = [] := List.eq_nil_of_length_eq_zero (by omega)
      have HNl : Hid (Ints w1 (.slice (some ⟨b, 0, none⟩) 0 c) []) := Lib.hid (Ints.of_owns (n := 0) ho (by omega) (by simp))
      have g0 := HG.out.at0.1
      have g1 := HG.out.at0.2
      have HRn := Lib.hid (fun W => reverse_none (some ⟨b, 0, none⟩) c W)
      clear ho hb1 HC HRv
      go_wp2_with fail
      refine (HRn.out _).mono ?_
      rintro e w2 ⟨⟨_, rfl⟩, rfl⟩
      go_wp2_with fail
      refine (HN.out _ _ HNl.out).mono ?_
      rintro e w3 ⟨rfl, hb3⟩
      have HB3 : Hid (Below w.heap.size w w3) := Lib.hid (HB1.out.trans (hb3.mono HB1.out.size))
      clear hb3
      go_wp2_with fail
      exact bodyPost_ret (results_tmp2 rfl _ _ _) rfl ⟨rfl, HB3.out⟩

set_option maxRecDepth 100000 in
set_option maxHeartbeats 2000000 in
theorem times_bad1 (k n : Int) (v1 v2 : Value) (l1 l2 : List Int) (w : World) (h1 : Ints w v1 l1) (h2 : Ints w v2 l2) (hb0 : Bad k n [l1.take 34]) (hb2 : Bad k n [l1.take 34, l2.take 34])
    (hfn : ∀ v W, IntRows W v [l1] → Calls Try.prog 24 #[gV k n, v] W fun e w' => e = .returned (.bool false) ∧ Below W.heap.size W w') :
    Calls Try.prog 4 #[gV k n, v1, v2] w fun e w' => e = .returned (.bool true) ∧ Below w.heap.size w w' := by
  have HOf := Lib.hid (fun W => Of_any k n W)
  have hq : (l1.take 34).length ≤ 1000 := by simp; omega
  have HLi := Lib.hid (fun v W h => listBad l1 v W h)
  have HLj := Lib.hid (fun v W h => listBad l2 v W h)
  have HT := Lib.hid (fun v v' W h h' => Times_bad k n v v' (l1.take 34) (l2.take 34) W h h' hb2)
  have HBk := Lib.hid (fun v W h => Back_bad k n v (l1.take 34) hq W h hb0)
  have HF := Lib.hid hfn
  generalize l1.take 34 = m1 at *
  generalize l2.take 34 = m2 at *
  have HAw := Lib.hid (fun W => awake_any W)
  obtain ⟨va1, vc1, rfl, _, _, _⟩ := h1.open
  obtain ⟨va2, vc2, rfl, _, _, _⟩ := h2.open
  have H10 := Lib.hid h1
  have H20 := Lib.hid h2
  clear h1 h2 hb0 hb2 hfn hq
  go_enter Try.func4, Try.ntmps4
  go_wp2_with fail
  refine (HOf.out _).mono ?_
  rintro e w1 ⟨rfl, hb⟩
  have HG : Hid (Blk 23 w1 w.heap.size #[.int .u8 k, .int .i64 n]) := Lib.hid ((Blk.new _ _ _).below hb)
  have HB : Hid (Below w.heap.size w w1) := Lib.hid (bl1 hb)
  have H1 := Lib.hid (H10.out.below HB.out (Nat.le_refl _))
  have H2 := Lib.hid (H20.out.below HB.out (Nat.le_refl _))
  clear hb H10 H20
  have g0 := HG.out.at0.1
  have g1 := HG.out.at0.2
  go_wp2_with fail
  clear g0 g1
  refine (HLi.out _ _ H1.out).mono ?_
  rintro e w2 ⟨la, lc, rfl, hm1, hb⟩
  have HBn : Hid (Below w1.heap.size w1 w2) := Lib.hid (hb)
  have HG_n := Lib.hid (HG.out.below HBn.out)
  have H1_n := Lib.hid (H1.out.below HBn.out (Nat.le_refl _))
  have H2_n := Lib.hid (H2.out.below HBn.out (Nat.le_refl _))
  have HB_n := Lib.hid (HB.out.trans (HBn.out.mono HB.out.size))
  clear HG H1 H2 HB
  have HG := HG_n
  have H1 := H1_n
  have H2 := H2_n
  have HB := HB_n
  clear HG_n H1_n H2_n HB_n HBn hb
  have HM1 := Lib.hid hm1
  clear hm1
  have g0 := HG.out.at0.1
  have g1 := HG.out.at0.2
  go_wp2_with fail
  clear g0 g1
  refine (HLj.out _ _ H2.out).mono ?_
  rintro e w3 ⟨lb, ld, rfl, hm2, hb⟩
  have HBn : Hid (Below w2.heap.size w2 w3) := Lib.hid (hb)
  have HG_n := Lib.hid (HG.out.below HBn.out)
  have H1_n := Lib.hid (H1.out.below HBn.out (Nat.le_refl _))
  have H2_n := Lib.hid (H2.out.below HBn.out (Nat.le_refl _))
  have HM1_n := Lib.hid (HM1.out.below HBn.out (Nat.le_refl _))
  have HB_n := Lib.hid (HB.out.trans (HBn.out.mono HB.out.size))
  clear HG H1 H2 HM1 HB
  have HG := HG_n
  have H1 := H1_n
  have H2 := H2_n
  have HM1 := HM1_n
  have HB := HB_n
  clear HG_n H1_n H2_n HM1_n HB_n HBn hb
  have HM2 := Lib.hid hm2
  clear hm2
  have g0 := HG.out.at0.1
  have g1 := HG.out.at0.2
  go_wp2_with fail
  clear g0 g1
  refine (HT.out _ _ _ HM1.out HM2.out).mono ?_
  rintro e w4 ⟨rfl, hb⟩
  have HBn : Hid (Below w3.heap.size w3 w4) := Lib.hid (hb)
  have HG_n := Lib.hid (HG.out.below HBn.out)
  have H1_n := Lib.hid (H1.out.below HBn.out (Nat.le_refl _))
  have H2_n := Lib.hid (H2.out.below HBn.out (Nat.le_refl _))
  have HM1_n := Lib.hid (HM1.out.below HBn.out (Nat.le_refl _))
  have HM2_n := Lib.hid (HM2.out.below HBn.out (Nat.le_refl _))
  have HB_n := Lib.hid (HB.out.trans (HBn.out.mono HB.out.size))
  clear HG H1 H2 HM1 HM2 HB
  have HG := HG_n
  have H1 := H1_n
  have H2 := H2_n
  have HM1 := HM1_n
  have HM2 := HM2_n
  have HB := HB_n
  clear HG_n H1_n H2_n HM1_n HM2_n HB_n HBn hb
  have g0 := HG.out.at0.1
  have g1 := HG.out.at0.2
  go_wp2_with fail
  clear HM1 HM2 H2
  clear g0 g1
  refine (HOf.out _).mono ?_
  rintro e w5 ⟨rfl, hb⟩
  have HBn : Hid (Below w4.heap.size w4 w5) := Lib.hid (hb)
  have HG_n := Lib.hid (HG.out.below HBn.out)
  have H1_n := Lib.hid (H1.out.below HBn.out (Nat.le_refl _))
  have HB_n := Lib.hid (HB.out.trans (HBn.out.mono HB.out.size))
  clear HG H1 HB
  have HG := HG_n
  have H1 := H1_n
  have HB := HB_n
  clear HG_n H1_n HB_n HBn hb
  have g0 := HG.out.at0.1
  have g1 := HG.out.at0.2
  go_wp2_with fail
  clear g0 g1
  refine (HLi.out _ _ H1.out).mono ?_
  rintro e w6 ⟨la, lc, rfl, hm1, hb⟩
  have HBn : Hid (Below w5.heap.size w5 w6) := Lib.hid (hb)
  have HG_n := Lib.hid (HG.out.below HBn.out)
  have H1_n := Lib.hid (H1.out.below HBn.out (Nat.le_refl _))
  have HB_n := Lib.hid (HB.out.trans (HBn.out.mono HB.out.size))
  clear HG H1 HB
  have HG := HG_n
  have H1 := H1_n
  have HB := HB_n
  clear HG_n H1_n HB_n HBn hb
  have HM1 := Lib.hid hm1
  clear hm1
  have g0 := HG.out.at0.1
  have g1 := HG.out.at0.2
  go_wp2_with fail
  clear g0 g1
  refine (HBk.out _ _ HM1.out).mono ?_
  rintro e w7 ⟨rfl, hb⟩
  have HBn : Hid (Below w6.heap.size w6 w7) := Lib.hid (hb)
  have HG_n := Lib.hid (HG.out.below HBn.out)
  have H1_n := Lib.hid (H1.out.below HBn.out (Nat.le_refl _))
  have HM1_n := Lib.hid (HM1.out.below HBn.out (Nat.le_refl _))
  have HB_n := Lib.hid (HB.out.trans (HBn.out.mono HB.out.size))
  clear HG H1 HM1 HB
  have HG := HG_n
  have H1 := H1_n
  have HM1 := HM1_n
  have HB := HB_n
  clear HG_n H1_n HM1_n HB_n HBn hb
  have g0 := HG.out.at0.1
  have g1 := HG.out.at0.2
  go_wp2_with fail
  clear HM1
  clear g0 g1
  refine (HF.out _ _ (rows1 (Blk.new _ _ _) (H1.out.alloc _))).mono ?_
  rintro e w8 ⟨rfl, hb⟩
  have HBn : Hid (Below w7.heap.size w7 w8) := Lib.hid (bl1 hb)
  have HG_n := Lib.hid (HG.out.below HBn.out)
  have H1_n := Lib.hid (H1.out.below HBn.out (Nat.le_refl _))
  have HB_n := Lib.hid (HB.out.trans (HBn.out.mono HB.out.size))
  clear HG H1 HB
  have HG := HG_n
  have H1 := H1_n
  have HB := HB_n
  clear HG_n H1_n HB_n HBn hb
  have g0 := HG.out.at0.1
  have g1 := HG.out.at0.2
  go_wp2_with fail
  clear g0 g1
  refine (HAw.out _).mono ?_
  rintro e w9 ⟨rfl, hb⟩
  have HBn : Hid (Below w8.heap.size w8 w9) := Lib.hid (hb)
  have HG_n := Lib.hid (HG.out.below HBn.out)
  have H1_n := Lib.hid (H1.out.below HBn.out (Nat.le_refl _))
  have HB_n := Lib.hid (HB.out.trans (HBn.out.mono HB.out.size))
  clear HG H1 HB
  have HG := HG_n
  have H1 := H1_n
  have HB := HB_n
  clear HG_n H1_n HB_n HBn hb
  have g0 := HG.out.at0.1
  have g1 := HG.out.at0.2
  go_wp2_with fail
  go_ret
  exact ⟨rfl, HB.out⟩

set_option maxRecDepth 100000 in
set_option maxHeartbeats 4000000 in
theorem times_good (g : Nat) (hg : g < 17) (v1 v2 : Value) (l1 l2 : List Int) (w : World) (h1 : Ints w v1 l1) (h2 : Ints w v2 l2) (hw1 : wordB g l1 = true) (hw2 : wordB g l2 = true) :
    Calls Try.prog 4 #[gV (kd g) (nm g), v1, v2] w fun e w' => e = .returned (.bool true) ∧ Below w.heap.size w w' := by
  have q1 : l1.length ≤ 30 := by simp [wordB] at hw1; omega
  have HOf := Lib.hid (fun W => Of_any (kd g) (nm g) W)
  have HLi := Lib.hid (fun v W h => listOk q1 v W h)
  have HFi := Lib.hid (fun v W h => fine_any g hg v [l1] W h (by simp))
  rw [show [l1].all (wordB g) = true by simp [hw1]] at HFi
  have HAw := Lib.hid (fun W => awake_any W)
  have HWo := Lib.hid (fun v W h => Word_any g hg v l2 W h)
  rw [hw2] at HWo
  have HEl := Lib.hid (fun W => Elements_any g hg W)
  have hE := tE hg
  have hX := folI_lt hg hw1
  have hbX := bk_lt hg hX
  have HBk : Hid (∀ v W, Ints W v l1 → Calls Try.prog 33 #[gV (kd g) (nm g), v] W fun e w' =>
      ∃ a c, e = .returned (.tuple #[.slice a (ln g (bk g (folI g l1))) c, .int .i64 0]) ∧ Wn w' (.slice a (ln g (bk g (folI g l1))) c) g (bk g (folI g l1)) ∧ Below W.heap.size W w') := Lib.hid (fun v W h => by
    have h1 := Back_ok g hg v l1 W h hw1
    rwa [folI_rev hg hw1] at h1)
  have HNu : Hid (∀ b0 c0 b1 c1 b2 c2 v W, RP W g b0 b1 b2 → Ints W v l1 → Calls Try.prog 27 #[rV g b0 c0 b1 c1 b2 c2, .int .i64 0, v] W fun e w' => e = .returned (.int .i64 (folI g l1 : Nat)) ∧ Below W.heap.size W w') := Lib.hid (fun b0 c0 b1 c1 b2 c2 v W h hv =>
    Number_any g b0 c0 b1 c1 b2 c2 0 hg v (toN l1) W h hE.1 (hv.toN (word_let hw1)) (toN_lt (word_let hw1)))
  have HRk := Lib.hid (fun b0 c0 b1 c1 b2 c2 W h => RBack_any g b0 c0 b1 c1 b2 c2 (folI g l1) hg W h hX)
  have HEq := Lib.hid (fun y v v' W (h : Wn W v g y) h' => equalW v v' W h h')
  have q2 : l2.length ≤ 30 := by simp [wordB] at hw2; omega
  have HLj := Lib.hid (fun v W h => listOk q2 v W h)
  have hZ := folI_lt hg hw2
  have hM := mul_lt hg hX hZ
  have HT : Hid (∀ v v' W, Ints W v l1 → Ints W v' l2 → Calls Try.prog 32 #[gV (kd g) (nm g), v, v'] W fun e w' =>
      ∃ a c, e = .returned (.tuple #[.slice a (ln g (mul g (folI g l1) (folI g l2))) c, .int .i64 0]) ∧ Wn w' (.slice a (ln g (mul g (folI g l1) (folI g l2))) c) g (mul g (folI g l1) (folI g l2)) ∧ Below W.heap.size W w') := Lib.hid (fun v v' W h h' => by
    have h1 := Times_ok g hg v v' l1 l2 W h h' hw1 hw2
    rwa [fol_toN hg hX hw2] at h1)
  have HNv : Hid (∀ b0 c0 b1 c1 b2 c2 v W, RP W g b0 b1 b2 → Ints W v l2 → Calls Try.prog 27 #[rV g b0 c0 b1 c1 b2 c2, .int .i64 (folI g l1 : Nat), v] W fun e w' => e = .returned (.int .i64 (mul g (folI g l1) (folI g l2) : Nat)) ∧ Below W.heap.size W w') := Lib.hid (fun b0 c0 b1 c1 b2 c2 v W h hv => by
    have h1 := Number_any g b0 c0 b1 c1 b2 c2 (folI g l1) hg v (toN l2) W h hX (hv.toN (word_let hw2)) (toN_lt (word_let hw2))
    rwa [fol_toN hg hX hw2] at h1)
  generalize mul g (folI g l1) (folI g l2) = M at *
  generalize bk g (folI g l1) = bX at *
  generalize folI g l1 = X at *
  obtain ⟨va1, vc1, rfl, _, _, _⟩ := h1.open
  obtain ⟨va2, vc2, rfl, _, _, _⟩ := h2.open
  have H10 := Lib.hid h1
  have H20 := Lib.hid h2
  clear h1 h2 hw1 hw2
  go_enter Try.func4, Try.ntmps4
  go_wp2_with fail
  refine (HOf.out _).mono ?_
  rintro e w1 ⟨rfl, hb⟩
  have HG : Hid (Blk 23 w1 w.heap.size #[.int .u8 (kd g), .int .i64 (nm g)]) := Lib.hid ((Blk.new _ _ _).below hb)
  have HB : Hid (Below w.heap.size w w1) := Lib.hid (bl1 hb)
  have H1 := Lib.hid (H10.out.below HB.out (Nat.le_refl _))
  have H2 := Lib.hid (H20.out.below HB.out (Nat.le_refl _))
  clear hb H10 H20
  have g0 := HG.out.at0.1
  have g1 := HG.out.at0.2
  go_wp2_with fail
  clear g0 g1
  refine (HLi.out _ _ H1.out).mono ?_
  rintro e w2 ⟨la, lc, rfl, hm1, hb⟩
  have HBn : Hid (Below w1.heap.size w1 w2) := Lib.hid (hb)
  have HG_n := Lib.hid (HG.out.below HBn.out)
  have H1_n := Lib.hid (H1.out.below HBn.out (Nat.le_refl _))
  have H2_n := Lib.hid (H2.out.below HBn.out (Nat.le_refl _))
  have HB_n := Lib.hid (HB.out.trans (HBn.out.mono HB.out.size))
  clear HG H1 H2 HB
  have HG := HG_n
  have H1 := H1_n
  have H2 := H2_n
  have HB := HB_n
  clear HG_n H1_n H2_n HB_n HBn hb
  have HM1 := Lib.hid hm1
  clear hm1
  have g0 := HG.out.at0.1
  have g1 := HG.out.at0.2
  go_wp2_with fail
  clear g0 g1
  refine (HLj.out _ _ H2.out).mono ?_
  rintro e w3 ⟨lb, ld, rfl, hm2, hb⟩
  have HBn : Hid (Below w2.heap.size w2 w3) := Lib.hid (hb)
  have HG_n := Lib.hid (HG.out.below HBn.out)
  have H1_n := Lib.hid (H1.out.below HBn.out (Nat.le_refl _))
  have H2_n := Lib.hid (H2.out.below HBn.out (Nat.le_refl _))
  have HM1_n := Lib.hid (HM1.out.below HBn.out (Nat.le_refl _))
  have HB_n := Lib.hid (HB.out.trans (HBn.out.mono HB.out.size))
  clear HG H1 H2 HM1 HB
  have HG := HG_n
  have H1 := H1_n
  have H2 := H2_n
  have HM1 := HM1_n
  have HB := HB_n
  clear HG_n H1_n H2_n HM1_n HB_n HBn hb
  have HM2 := Lib.hid hm2
  clear hm2
  have g0 := HG.out.at0.1
  have g1 := HG.out.at0.2
  go_wp2_with fail
  clear g0 g1
  refine (HT.out _ _ _ HM1.out HM2.out).mono ?_
  rintro e w4 ⟨ta, tc, rfl, htw, hb⟩
  have HBn : Hid (Below w3.heap.size w3 w4) := Lib.hid (hb)
  have HG_n := Lib.hid (HG.out.below HBn.out)
  have H1_n := Lib.hid (H1.out.below HBn.out (Nat.le_refl _))
  have H2_n := Lib.hid (H2.out.below HBn.out (Nat.le_refl _))
  have HM1_n := Lib.hid (HM1.out.below HBn.out (Nat.le_refl _))
  have HM2_n := Lib.hid (HM2.out.below HBn.out (Nat.le_refl _))
  have HB_n := Lib.hid (HB.out.trans (HBn.out.mono HB.out.size))
  clear HG H1 H2 HM1 HM2 HB
  have HG := HG_n
  have H1 := H1_n
  have H2 := H2_n
  have HM1 := HM1_n
  have HM2 := HM2_n
  have HB := HB_n
  clear HG_n H1_n H2_n HM1_n HM2_n HB_n HBn hb
  have HTW := Lib.hid htw
  clear htw
  have g0 := HG.out.at0.1
  have g1 := HG.out.at0.2
  go_wp2_with fail
  clear HM1 HM2
  clear g0 g1
  refine (HOf.out _).mono ?_
  rintro e w5 ⟨rfl, hb⟩
  have HBn : Hid (Below w4.heap.size w4 w5) := Lib.hid (hb)
  have HG_n := Lib.hid (HG.out.below HBn.out)
  have H1_n := Lib.hid (H1.out.below HBn.out (Nat.le_refl _))
  have H2_n := Lib.hid (H2.out.below HBn.out (Nat.le_refl _))
  have HTW_n := Lib.hid (HTW.out.below HBn.out (Nat.le_refl _))
  have HB_n := Lib.hid (HB.out.trans (HBn.out.mono HB.out.size))
  clear HG H1 H2 HTW HB
  have HG := HG_n
  have H1 := H1_n
  have H2 := H2_n
  have HTW := HTW_n
  have HB := HB_n
  clear HG_n H1_n H2_n HTW_n HB_n HBn hb
  have g0 := HG.out.at0.1
  have g1 := HG.out.at0.2
  go_wp2_with fail
  clear g0 g1
  refine (HLi.out _ _ H1.out).mono ?_
  rintro e w6 ⟨la, lc, rfl, hm1, hb⟩
  have HBn : Hid (Below w5.heap.size w5 w6) := Lib.hid (hb)
  have HG_n := Lib.hid (HG.out.below HBn.out)
  have H1_n := Lib.hid (H1.out.below HBn.out (Nat.le_refl _))
  have H2_n := Lib.hid (H2.out.below HBn.out (Nat.le_refl _))
  have HTW_n := Lib.hid (HTW.out.below HBn.out (Nat.le_refl _))
  have HB_n := Lib.hid (HB.out.trans (HBn.out.mono HB.out.size))
  clear HG H1 H2 HTW HB
  have HG := HG_n
  have H1 := H1_n
  have H2 := H2_n
  have HTW := HTW_n
  have HB := HB_n
  clear HG_n H1_n H2_n HTW_n HB_n HBn hb
  have HM1 := Lib.hid hm1
  clear hm1
  have g0 := HG.out.at0.1
  have g1 := HG.out.at0.2
  go_wp2_with fail
  clear g0 g1
  refine (HBk.out _ _ HM1.out).mono ?_
  rintro e w7 ⟨ka, kc, rfl, hkw, hb⟩
  have HBn : Hid (Below w6.heap.size w6 w7) := Lib.hid (hb)
  have HG_n := Lib.hid (HG.out.below HBn.out)
  have H1_n := Lib.hid (H1.out.below HBn.out (Nat.le_refl _))
  have H2_n := Lib.hid (H2.out.below HBn.out (Nat.le_refl _))
  have HTW_n := Lib.hid (HTW.out.below HBn.out (Nat.le_refl _))
  have HM1_n := Lib.hid (HM1.out.below HBn.out (Nat.le_refl _))
  have HB_n := Lib.hid (HB.out.trans (HBn.out.mono HB.out.size))
  clear HG H1 H2 HTW HM1 HB
  have HG := HG_n
  have H1 := H1_n
  have H2 := H2_n
  have HTW := HTW_n
  have HM1 := HM1_n
  have HB := HB_n
  clear HG_n H1_n H2_n HTW_n HM1_n HB_n HBn hb
  have HKW := Lib.hid hkw
  clear hkw
  have g0 := HG.out.at0.1
  have g1 := HG.out.at0.2
  go_wp2_with fail
  clear HM1
  clear g0 g1
  refine (HFi.out _ _ (rows1 (Blk.new _ _ _) (H1.out.alloc _))).mono ?_
  rintro e w8 ⟨rfl, hb⟩
  have HBn : Hid (Below w7.heap.size w7 w8) := Lib.hid (bl1 hb)
  have HG_n := Lib.hid (HG.out.below HBn.out)
  have H1_n := Lib.hid (H1.out.below HBn.out (Nat.le_refl _))
  have H2_n := Lib.hid (H2.out.below HBn.out (Nat.le_refl _))
  have HTW_n := Lib.hid (HTW.out.below HBn.out (Nat.le_refl _))
  have HKW_n := Lib.hid (HKW.out.below HBn.out (Nat.le_refl _))
  have HB_n := Lib.hid (HB.out.trans (HBn.out.mono HB.out.size))
  clear HG H1 H2 HTW HKW HB
  have HG := HG_n
  have H1 := H1_n
  have H2 := H2_n
  have HTW := HTW_n
  have HKW := HKW_n
  have HB := HB_n
  clear HG_n H1_n H2_n HTW_n HKW_n HB_n HBn hb
  have g0 := HG.out.at0.1
  have g1 := HG.out.at0.2
  go_wp2_with fail
  clear g0 g1
  refine (HEl.out _).mono ?_
  rintro e w9 ⟨tv, rfl, hrt, hb⟩
  have HBn : Hid (Below w8.heap.size w8 w9) := Lib.hid (hb)
  have HG_n := Lib.hid (HG.out.below HBn.out)
  have H1_n := Lib.hid (H1.out.below HBn.out (Nat.le_refl _))
  have H2_n := Lib.hid (H2.out.below HBn.out (Nat.le_refl _))
  have HTW_n := Lib.hid (HTW.out.below HBn.out (Nat.le_refl _))
  have HKW_n := Lib.hid (HKW.out.below HBn.out (Nat.le_refl _))
  have HB_n := Lib.hid (HB.out.trans (HBn.out.mono HB.out.size))
  clear HG H1 H2 HTW HKW HB
  have HG := HG_n
  have H1 := H1_n
  have H2 := H2_n
  have HTW := HTW_n
  have HKW := HKW_n
  have HB := HB_n
  clear HG_n H1_n H2_n HTW_n HKW_n HB_n HBn hb
  have HRT := Lib.hid hrt
  clear hrt
  have g0 := HG.out.at0.1
  have g1 := HG.out.at0.2
  obtain ⟨b0, c0, b1, c1, b2, c2, rfl, hpp, hcc⟩ := HRT.out
  have HP : Hid (RP w9 g b0 b1 b2) := Lib.hid ⟨hpp.1, hpp.2.1, hpp.2.2⟩
  clear hpp hcc HRT
  unfold rV at HNu HRk HNv
  go_wp2_with fail
  clear g0 g1
  refine (HNu.out b0 c0 b1 c1 b2 c2 _ _ (HP.out.box c0 c1 c2).rp (H1.out.alloc _)).mono ?_
  rintro e w10 ⟨rfl, hb⟩
  have hrb := (HP.out.box c0 c1 c2).below hb
  have HBn : Hid (Below w9.heap.size w9 w10) := Lib.hid (bl1 hb)
  have HG_n := Lib.hid (HG.out.below HBn.out)
  have H1_n := Lib.hid (H1.out.below HBn.out (Nat.le_refl _))
  have H2_n := Lib.hid (H2.out.below HBn.out (Nat.le_refl _))
  have HTW_n := Lib.hid (HTW.out.below HBn.out (Nat.le_refl _))
  have HKW_n := Lib.hid (HKW.out.below HBn.out (Nat.le_refl _))
  have HB_n := Lib.hid (HB.out.trans (HBn.out.mono HB.out.size))
  clear HG H1 H2 HTW HKW HB
  have HG := HG_n
  have H1 := H1_n
  have H2 := H2_n
  have HTW := HTW_n
  have HKW := HKW_n
  have HB := HB_n
  clear HG_n H1_n H2_n HTW_n HKW_n HB_n HBn hb
  have HRB := Lib.hid hrb
  clear hrb
  have g0 := HG.out.at0.1
  have g1 := HG.out.at0.2
  go_wp2_with fail
  clear HP
  clear g0 g1
  have t0 := HRB.out.at.1
  have t1 := HRB.out.at.2.1
  have t2 := HRB.out.at.2.2
  obtain ⟨ya, yc, hy1, hy2⟩ := HRB.out.p0 bX hbX
  have hyl : (wd g bX).length = ln g bX := rfl
  rw [hyl] at hy1 hy2
  have HY := Lib.hid hy2
  have HKS : Hid (∀ W, Below w10.heap.size w10 W → (Below w10.heap.size w10 W ∧ W.cell? ⟨w9.heap.size, 0, none⟩ = some (.slice (some ⟨b0, 0, none⟩) (nE g) c0) ∧ W.cell? ⟨w9.heap.size, 1, none⟩ = some (.slice (some ⟨b1, 0, none⟩) (nE g) c1) ∧ W.cell? ⟨w9.heap.size, 2, none⟩ = some (.slice (some ⟨b2, 0, none⟩) (nE g) c2) ∧ W.cell? ⟨b0, bX, none⟩ = some (.slice ya (ln g bX) yc))) :=
    Lib.hid (fun W hb => ⟨hb, ck t0 hb, ck t1 hb, ck t2 hb, ck hy1 hb⟩)
  have HWY : Hid (∀ W, Below w10.heap.size w10 W → Wn W (.slice ya (ln g bX) yc) g bX) := Lib.hid (fun W hb => Ints.below hy2 hb (Nat.le_refl _))
  have HWK : Hid (∀ W, Below w10.heap.size w10 W → Wn W (.slice ka (ln g bX) kc) g bX) := Lib.hid (fun W hb => Ints.below HKW.out hb (Nat.le_refl _))
  clear hy2 HY hyl t0 t1 t2 hy1
  go_region_held3 (fun W => Below w10.heap.size w10 W ∧ W.cell? ⟨w9.heap.size, 0, none⟩ = some (.slice (some ⟨b0, 0, none⟩) (nE g) c0) ∧ W.cell? ⟨w9.heap.size, 1, none⟩ = some (.slice (some ⟨b1, 0, none⟩) (nE g) c1) ∧ W.cell? ⟨w9.heap.size, 2, none⟩ = some (.slice (some ⟨b2, 0, none⟩) (nE g) c2) ∧ W.cell? ⟨b0, bX, none⟩ = some (.slice ya (ln g bX) yc))
    (first | assumption | exact HKS.out _ (below_drew (Below.refl _ _)) | exact HKS.out _ ((‹Below w10.heap.size w10 _ ∧ _›).1.trans (hb.mono (‹Below w10.heap.size w10 _ ∧ _›).1.size)))
    (first
      | (go_at_call 34; refine (HRk.out b0 c0 b1 c1 b2 c2 _ (HRB.out.below (‹Below w10.heap.size w10 _ ∧ _›).1).rp).mono ?_; rintro e wv ⟨rfl, hb⟩)
      | (go_at_call 28; refine (HEq.out bX _ _ _ (HWK.out _ (‹Below w10.heap.size w10 _ ∧ _›).1) (HWY.out _ (‹Below w10.heap.size w10 _ ∧ _›).1)).mono ?_; rintro e wv ⟨rfl, hb⟩)
      | (go_at_call 25; refine (HAw.out _).mono ?_; rintro e wv ⟨rfl, hb⟩))
  rename_i hHz
  have HBn : Hid (Below w10.heap.size w10 wv) := Lib.hid hHz.1
  clear hHz hb HKS HWY HWK
  have HG_n := Lib.hid (HG.out.below HBn.out)
  have H1_n := Lib.hid (H1.out.below HBn.out (Nat.le_refl _))
  have H2_n := Lib.hid (H2.out.below HBn.out (Nat.le_refl _))
  have HTW_n := Lib.hid (HTW.out.below HBn.out (Nat.le_refl _))
  have HKW_n := Lib.hid (HKW.out.below HBn.out (Nat.le_refl _))
  have HRB_n := Lib.hid (HRB.out.below HBn.out)
  have HB_n := Lib.hid (HB.out.trans (HBn.out.mono HB.out.size))
  clear HG H1 H2 HTW HKW HRB HB
  have HG := HG_n
  have H1 := H1_n
  have H2 := H2_n
  have HTW := HTW_n
  have HKW := HKW_n
  have HRB := HRB_n
  have HB := HB_n
  clear HG_n H1_n H2_n HTW_n HKW_n HRB_n HB_n HBn
  rename World => w11
  have g0 := HG.out.at0.1
  have g1 := HG.out.at0.2
  go_wp2_with fail
  clear HKW
  clear g0 g1
  refine (HWo.out _ _ H2.out).mono ?_
  rintro e w12 ⟨rfl, hb⟩
  have HBn : Hid (Below w11.heap.size w11 w12) := Lib.hid (hb)
  have HG_n := Lib.hid (HG.out.below HBn.out)
  have H1_n := Lib.hid (H1.out.below HBn.out (Nat.le_refl _))
  have H2_n := Lib.hid (H2.out.below HBn.out (Nat.le_refl _))
  have HTW_n := Lib.hid (HTW.out.below HBn.out (Nat.le_refl _))
  have HRB_n := Lib.hid (HRB.out.below HBn.out)
  have HB_n := Lib.hid (HB.out.trans (HBn.out.mono HB.out.size))
  clear HG H1 H2 HTW HRB HB
  have HG := HG_n
  have H1 := H1_n
  have H2 := H2_n
  have HTW := HTW_n
  have HRB := HRB_n
  have HB := HB_n
  clear HG_n H1_n H2_n HTW_n HRB_n HB_n HBn hb
  have g0 := HG.out.at0.1
  have g1 := HG.out.at0.2
  go_wp2_with fail
  clear g0 g1
  have t0 := HRB.out.at.1
  have t1 := HRB.out.at.2.1
  have t2 := HRB.out.at.2.2
  obtain ⟨ya, yc, hy1, hy2⟩ := HRB.out.p0 M hM
  have hyl : (wd g M).length = ln g M := rfl
  rw [hyl] at hy1 hy2
  have HY := Lib.hid hy2
  have HKS : Hid (∀ W, Below w12.heap.size w12 W → (Below w12.heap.size w12 W ∧ W.cell? ⟨w9.heap.size, 0, none⟩ = some (.slice (some ⟨b0, 0, none⟩) (nE g) c0) ∧ W.cell? ⟨w9.heap.size, 1, none⟩ = some (.slice (some ⟨b1, 0, none⟩) (nE g) c1) ∧ W.cell? ⟨w9.heap.size, 2, none⟩ = some (.slice (some ⟨b2, 0, none⟩) (nE g) c2) ∧ W.cell? ⟨b0, M, none⟩ = some (.slice ya (ln g M) yc))) :=
    Lib.hid (fun W hb => ⟨hb, ck t0 hb, ck t1 hb, ck t2 hb, ck hy1 hb⟩)
  have HWY : Hid (∀ W, Below w12.heap.size w12 W → Wn W (.slice ya (ln g M) yc) g M) := Lib.hid (fun W hb => Ints.below hy2 hb (Nat.le_refl _))
  have HWK : Hid (∀ W, Below w12.heap.size w12 W → Wn W (.slice ta (ln g M) tc) g M) := Lib.hid (fun W hb => Ints.below HTW.out hb (Nat.le_refl _))
  clear hy2 HY hyl t0 t1 t2 hy1
  go_region_held3 (fun W => Below w12.heap.size w12 W ∧ W.cell? ⟨w9.heap.size, 0, none⟩ = some (.slice (some ⟨b0, 0, none⟩) (nE g) c0) ∧ W.cell? ⟨w9.heap.size, 1, none⟩ = some (.slice (some ⟨b1, 0, none⟩) (nE g) c1) ∧ W.cell? ⟨w9.heap.size, 2, none⟩ = some (.slice (some ⟨b2, 0, none⟩) (nE g) c2) ∧ W.cell? ⟨b0, M, none⟩ = some (.slice ya (ln g M) yc))
    (first | assumption | exact HKS.out _ (below_drew (Below.refl _ _)) | exact HKS.out _ ((‹Below w12.heap.size w12 _ ∧ _›).1.trans (hb.mono (‹Below w12.heap.size w12 _ ∧ _›).1.size)))
    (first
      | (go_at_call 27; refine (HNv.out b0 c0 b1 c1 b2 c2 _ _ (HRB.out.below (‹Below w12.heap.size w12 _ ∧ _›).1).rp (H2.out.below (‹Below w12.heap.size w12 _ ∧ _›).1 (Nat.le_refl _))).mono ?_; rintro e wv ⟨rfl, hb⟩)
      | (go_at_call 28; refine (HEq.out M _ _ _ (HWK.out _ (‹Below w12.heap.size w12 _ ∧ _›).1) (HWY.out _ (‹Below w12.heap.size w12 _ ∧ _›).1)).mono ?_; rintro e wv ⟨rfl, hb⟩)
      | (go_at_call 25; refine (HAw.out _).mono ?_; rintro e wv ⟨rfl, hb⟩))
  rename_i hHz
  have HBn : Hid (Below w12.heap.size w12 wv) := Lib.hid hHz.1
  clear hHz hb HKS HWY HWK
  have HG_n := Lib.hid (HG.out.below HBn.out)
  have H1_n := Lib.hid (H1.out.below HBn.out (Nat.le_refl _))
  have H2_n := Lib.hid (H2.out.below HBn.out (Nat.le_refl _))
  have HTW_n := Lib.hid (HTW.out.below HBn.out (Nat.le_refl _))
  have HRB_n := Lib.hid (HRB.out.below HBn.out)
  have HB_n := Lib.hid (HB.out.trans (HBn.out.mono HB.out.size))
  clear HG H1 H2 HTW HRB HB
  have HG := HG_n
  have H1 := H1_n
  have H2 := H2_n
  have HTW := HTW_n
  have HRB := HRB_n
  have HB := HB_n
  clear HG_n H1_n H2_n HTW_n HRB_n HB_n HBn
  rename World => w13
  have g0 := HG.out.at0.1
  have g1 := HG.out.at0.2
  go_wp2_with fail
  go_ret
  exact ⟨rfl, HB.out⟩

set_option maxRecDepth 100000 in
set_option maxHeartbeats 4000000 in
theorem times_bad2 (g : Nat) (hg : g < 17) (v1 v2 : Value) (l1 l2 : List Int) (w : World) (h1 : Ints w v1 l1) (h2 : Ints w v2 l2) (hw1 : wordB g l1 = true) (hw2 : wordB g l2 = false) :
    Calls Try.prog 4 #[gV (kd g) (nm g), v1, v2] w fun e w' => e = .returned (.bool true) ∧ Below w.heap.size w w' := by
  have q1 : l1.length ≤ 30 := by simp [wordB] at hw1; omega
  have HOf := Lib.hid (fun W => Of_any (kd g) (nm g) W)
  have HLi := Lib.hid (fun v W h => listOk q1 v W h)
  have HFi := Lib.hid (fun v W h => fine_any g hg v [l1] W h (by simp))
  rw [show [l1].all (wordB g) = true by simp [hw1]] at HFi
  have HAw := Lib.hid (fun W => awake_any W)
  have HWo := Lib.hid (fun v W h => Word_any g hg v l2 W h)
  rw [hw2] at HWo
  have HEl := Lib.hid (fun W => Elements_any g hg W)
  have hE := tE hg
  have hX := folI_lt hg hw1
  have hbX := bk_lt hg hX
  have HBk : Hid (∀ v W, Ints W v l1 → Calls Try.prog 33 #[gV (kd g) (nm g), v] W fun e w' =>
      ∃ a c, e = .returned (.tuple #[.slice a (ln g (bk g (folI g l1))) c, .int .i64 0]) ∧ Wn w' (.slice a (ln g (bk g (folI g l1))) c) g (bk g (folI g l1)) ∧ Below W.heap.size W w') := Lib.hid (fun v W h => by
    have h1 := Back_ok g hg v l1 W h hw1
    rwa [folI_rev hg hw1] at h1)
  have HNu : Hid (∀ b0 c0 b1 c1 b2 c2 v W, RP W g b0 b1 b2 → Ints W v l1 → Calls Try.prog 27 #[rV g b0 c0 b1 c1 b2 c2, .int .i64 0, v] W fun e w' => e = .returned (.int .i64 (folI g l1 : Nat)) ∧ Below W.heap.size W w') := Lib.hid (fun b0 c0 b1 c1 b2 c2 v W h hv =>
    Number_any g b0 c0 b1 c1 b2 c2 0 hg v (toN l1) W h hE.1 (hv.toN (word_let hw1)) (toN_lt (word_let hw1)))
  have HRk := Lib.hid (fun b0 c0 b1 c1 b2 c2 W h => RBack_any g b0 c0 b1 c1 b2 c2 (folI g l1) hg W h hX)
  have HEq := Lib.hid (fun y v v' W (h : Wn W v g y) h' => equalW v v' W h h')
  have HLj := Lib.hid (fun v W h => listBad l2 v W h)
  have HT := Lib.hid (fun v v' W h h' => Times_bad (kd g) (nm g) v v' l1 (l2.take 34) W h h' (.inr ⟨g, hg, rfl, rfl, by simp [word_take, hw2]⟩))
  generalize l2.take 34 = m2 at *
  generalize bk g (folI g l1) = bX at *
  generalize folI g l1 = X at *
  obtain ⟨va1, vc1, rfl, _, _, _⟩ := h1.open
  obtain ⟨va2, vc2, rfl, _, _, _⟩ := h2.open
  have H10 := Lib.hid h1
  have H20 := Lib.hid h2
  clear h1 h2 hw1 hw2
  go_enter Try.func4, Try.ntmps4
  go_wp2_with fail
  refine (HOf.out _).mono ?_
  rintro e w1 ⟨rfl, hb⟩
  have HG : Hid (Blk 23 w1 w.heap.size #[.int .u8 (kd g), .int .i64 (nm g)]) := Lib.hid ((Blk.new _ _ _).below hb)
  have HB : Hid (Below w.heap.size w w1) := Lib.hid (bl1 hb)
  have H1 := Lib.hid (H10.out.below HB.out (Nat.le_refl _))
  have H2 := Lib.hid (H20.out.below HB.out (Nat.le_refl _))
  clear hb H10 H20
  have g0 := HG.out.at0.1
  have g1 := HG.out.at0.2
  go_wp2_with fail
  clear g0 g1
  refine (HLi.out _ _ H1.out).mono ?_
  rintro e w2 ⟨la, lc, rfl, hm1, hb⟩
  have HBn : Hid (Below w1.heap.size w1 w2) := Lib.hid (hb)
  have HG_n := Lib.hid (HG.out.below HBn.out)
  have H1_n := Lib.hid (H1.out.below HBn.out (Nat.le_refl _))
  have H2_n := Lib.hid (H2.out.below HBn.out (Nat.le_refl _))
  have HB_n := Lib.hid (HB.out.trans (HBn.out.mono HB.out.size))
  clear HG H1 H2 HB
  have HG := HG_n
  have H1 := H1_n
  have H2 := H2_n
  have HB := HB_n
  clear HG_n H1_n H2_n HB_n HBn hb
  have HM1 := Lib.hid hm1
  clear hm1
  have g0 := HG.out.at0.1
  have g1 := HG.out.at0.2
  go_wp2_with fail
  clear g0 g1
  refine (HLj.out _ _ H2.out).mono ?_
  rintro e w3 ⟨lb, ld, rfl, hm2, hb⟩
  have HBn : Hid (Below w2.heap.size w2 w3) := Lib.hid (hb)
  have HG_n := Lib.hid (HG.out.below HBn.out)
  have H1_n := Lib.hid (H1.out.below HBn.out (Nat.le_refl _))
  have H2_n := Lib.hid (H2.out.below HBn.out (Nat.le_refl _))
  have HM1_n := Lib.hid (HM1.out.below HBn.out (Nat.le_refl _))
  have HB_n := Lib.hid (HB.out.trans (HBn.out.mono HB.out.size))
  clear HG H1 H2 HM1 HB
  have HG := HG_n
  have H1 := H1_n
  have H2 := H2_n
  have HM1 := HM1_n
  have HB := HB_n
  clear HG_n H1_n H2_n HM1_n HB_n HBn hb
  have HM2 := Lib.hid hm2
  clear hm2
  have g0 := HG.out.at0.1
  have g1 := HG.out.at0.2
  go_wp2_with fail
  clear g0 g1
  refine (HT.out _ _ _ HM1.out HM2.out).mono ?_
  rintro e w4 ⟨rfl, hb⟩
  have HBn : Hid (Below w3.heap.size w3 w4) := Lib.hid (hb)
  have HG_n := Lib.hid (HG.out.below HBn.out)
  have H1_n := Lib.hid (H1.out.below HBn.out (Nat.le_refl _))
  have H2_n := Lib.hid (H2.out.below HBn.out (Nat.le_refl _))
  have HM1_n := Lib.hid (HM1.out.below HBn.out (Nat.le_refl _))
  have HM2_n := Lib.hid (HM2.out.below HBn.out (Nat.le_refl _))
  have HB_n := Lib.hid (HB.out.trans (HBn.out.mono HB.out.size))
  clear HG H1 H2 HM1 HM2 HB
  have HG := HG_n
  have H1 := H1_n
  have H2 := H2_n
  have HM1 := HM1_n
  have HM2 := HM2_n
  have HB := HB_n
  clear HG_n H1_n H2_n HM1_n HM2_n HB_n HBn hb
  have g0 := HG.out.at0.1
  have g1 := HG.out.at0.2
  go_wp2_with fail
  clear HM1 HM2
  clear g0 g1
  refine (HOf.out _).mono ?_
  rintro e w5 ⟨rfl, hb⟩
  have HBn : Hid (Below w4.heap.size w4 w5) := Lib.hid (hb)
  have HG_n := Lib.hid (HG.out.below HBn.out)
  have H1_n := Lib.hid (H1.out.below HBn.out (Nat.le_refl _))
  have H2_n := Lib.hid (H2.out.below HBn.out (Nat.le_refl _))
  have HB_n := Lib.hid (HB.out.trans (HBn.out.mono HB.out.size))
  clear HG H1 H2 HB
  have HG := HG_n
  have H1 := H1_n
  have H2 := H2_n
  have HB := HB_n
  clear HG_n H1_n H2_n HB_n HBn hb
  have g0 := HG.out.at0.1
  have g1 := HG.out.at0.2
  go_wp2_with fail
  clear g0 g1
  refine (HLi.out _ _ H1.out).mono ?_
  rintro e w6 ⟨la, lc, rfl, hm1, hb⟩
  have HBn : Hid (Below w5.heap.size w5 w6) := Lib.hid (hb)
  have HG_n := Lib.hid (HG.out.below HBn.out)
  have H1_n := Lib.hid (H1.out.below HBn.out (Nat.le_refl _))
  have H2_n := Lib.hid (H2.out.below HBn.out (Nat.le_refl _))
  have HB_n := Lib.hid (HB.out.trans (HBn.out.mono HB.out.size))
  clear HG H1 H2 HB
  have HG := HG_n
  have H1 := H1_n
  have H2 := H2_n
  have HB := HB_n
  clear HG_n H1_n H2_n HB_n HBn hb
  have HM1 := Lib.hid hm1
  clear hm1
  have g0 := HG.out.at0.1
  have g1 := HG.out.at0.2
  go_wp2_with fail
  clear g0 g1
  refine (HBk.out _ _ HM1.out).mono ?_
  rintro e w7 ⟨ka, kc, rfl, hkw, hb⟩
  have HBn : Hid (Below w6.heap.size w6 w7) := Lib.hid (hb)
  have HG_n := Lib.hid (HG.out.below HBn.out)
  have H1_n := Lib.hid (H1.out.below HBn.out (Nat.le_refl _))
  have H2_n := Lib.hid (H2.out.below HBn.out (Nat.le_refl _))
  have HM1_n := Lib.hid (HM1.out.below HBn.out (Nat.le_refl _))
  have HB_n := Lib.hid (HB.out.trans (HBn.out.mono HB.out.size))
  clear HG H1 H2 HM1 HB
  have HG := HG_n
  have H1 := H1_n
  have H2 := H2_n
  have HM1 := HM1_n
  have HB := HB_n
  clear HG_n H1_n H2_n HM1_n HB_n HBn hb
  have HKW := Lib.hid hkw
  clear hkw
  have g0 := HG.out.at0.1
  have g1 := HG.out.at0.2
  go_wp2_with fail
  clear HM1
  clear g0 g1
  refine (HFi.out _ _ (rows1 (Blk.new _ _ _) (H1.out.alloc _))).mono ?_
  rintro e w8 ⟨rfl, hb⟩
  have HBn : Hid (Below w7.heap.size w7 w8) := Lib.hid (bl1 hb)
  have HG_n := Lib.hid (HG.out.below HBn.out)
  have H1_n := Lib.hid (H1.out.below HBn.out (Nat.le_refl _))
  have H2_n := Lib.hid (H2.out.below HBn.out (Nat.le_refl _))
  have HKW_n := Lib.hid (HKW.out.below HBn.out (Nat.le_refl _))
  have HB_n := Lib.hid (HB.out.trans (HBn.out.mono HB.out.size))
  clear HG H1 H2 HKW HB
  have HG := HG_n
  have H1 := H1_n
  have H2 := H2_n
  have HKW := HKW_n
  have HB := HB_n
  clear HG_n H1_n H2_n HKW_n HB_n HBn hb
  have g0 := HG.out.at0.1
  have g1 := HG.out.at0.2
  go_wp2_with fail
  clear g0 g1
  refine (HEl.out _).mono ?_
  rintro e w9 ⟨tv, rfl, hrt, hb⟩
  have HBn : Hid (Below w8.heap.size w8 w9) := Lib.hid (hb)
  have HG_n := Lib.hid (HG.out.below HBn.out)
  have H1_n := Lib.hid (H1.out.below HBn.out (Nat.le_refl _))
  have H2_n := Lib.hid (H2.out.below HBn.out (Nat.le_refl _))
  have HKW_n := Lib.hid (HKW.out.below HBn.out (Nat.le_refl _))
  have HB_n := Lib.hid (HB.out.trans (HBn.out.mono HB.out.size))
  clear HG H1 H2 HKW HB
  have HG := HG_n
  have H1 := H1_n
  have H2 := H2_n
  have HKW := HKW_n
  have HB := HB_n
  clear HG_n H1_n H2_n HKW_n HB_n HBn hb
  have HRT := Lib.hid hrt
  clear hrt
  have g0 := HG.out.at0.1
  have g1 := HG.out.at0.2
  obtain ⟨b0, c0, b1, c1, b2, c2, rfl, hpp, hcc⟩ := HRT.out
  have HP : Hid (RP w9 g b0 b1 b2) := Lib.hid ⟨hpp.1, hpp.2.1, hpp.2.2⟩
  clear hpp hcc HRT
  unfold rV at HNu HRk
  go_wp2_with fail
  clear g0 g1
  refine (HNu.out b0 c0 b1 c1 b2 c2 _ _ (HP.out.box c0 c1 c2).rp (H1.out.alloc _)).mono ?_
  rintro e w10 ⟨rfl, hb⟩
  have hrb := (HP.out.box c0 c1 c2).below hb
  have HBn : Hid (Below w9.heap.size w9 w10) := Lib.hid (bl1 hb)
  have HG_n := Lib.hid (HG.out.below HBn.out)
  have H1_n := Lib.hid (H1.out.below HBn.out (Nat.le_refl _))
  have H2_n := Lib.hid (H2.out.below HBn.out (Nat.le_refl _))
  have HKW_n := Lib.hid (HKW.out.below HBn.out (Nat.le_refl _))
  have HB_n := Lib.hid (HB.out.trans (HBn.out.mono HB.out.size))
  clear HG H1 H2 HKW HB
  have HG := HG_n
  have H1 := H1_n
  have H2 := H2_n
  have HKW := HKW_n
  have HB := HB_n
  clear HG_n H1_n H2_n HKW_n HB_n HBn hb
  have HRB := Lib.hid hrb
  clear hrb
  have g0 := HG.out.at0.1
  have g1 := HG.out.at0.2
  go_wp2_with fail
  clear HP
  clear g0 g1
  have t0 := HRB.out.at.1
  have t1 := HRB.out.at.2.1
  have t2 := HRB.out.at.2.2
  obtain ⟨ya, yc, hy1, hy2⟩ := HRB.out.p0 bX hbX
  have hyl : (wd g bX).length = ln g bX := rfl
  rw [hyl] at hy1 hy2
  have HY := Lib.hid hy2
  have HKS : Hid (∀ W, Below w10.heap.size w10 W → (Below w10.heap.size w10 W ∧ W.cell? ⟨w9.heap.size, 0, none⟩ = some (.slice (some ⟨b0, 0, none⟩) (nE g) c0) ∧ W.cell? ⟨w9.heap.size, 1, none⟩ = some (.slice (some ⟨b1, 0, none⟩) (nE g) c1) ∧ W.cell? ⟨w9.heap.size, 2, none⟩ = some (.slice (some ⟨b2, 0, none⟩) (nE g) c2) ∧ W.cell? ⟨b0, bX, none⟩ = some (.slice ya (ln g bX) yc))) :=
    Lib.hid (fun W hb => ⟨hb, ck t0 hb, ck t1 hb, ck t2 hb, ck hy1 hb⟩)
  have HWY : Hid (∀ W, Below w10.heap.size w10 W → Wn W (.slice ya (ln g bX) yc) g bX) := Lib.hid (fun W hb => Ints.below hy2 hb (Nat.le_refl _))
  have HWK : Hid (∀ W, Below w10.heap.size w10 W → Wn W (.slice ka (ln g bX) kc) g bX) := Lib.hid (fun W hb => Ints.below HKW.out hb (Nat.le_refl _))
  clear hy2 HY hyl t0 t1 t2 hy1
  go_region_held3 (fun W => Below w10.heap.size w10 W ∧ W.cell? ⟨w9.heap.size, 0, none⟩ = some (.slice (some ⟨b0, 0, none⟩) (nE g) c0) ∧ W.cell? ⟨w9.heap.size, 1, none⟩ = some (.slice (some ⟨b1, 0, none⟩) (nE g) c1) ∧ W.cell? ⟨w9.heap.size, 2, none⟩ = some (.slice (some ⟨b2, 0, none⟩) (nE g) c2) ∧ W.cell? ⟨b0, bX, none⟩ = some (.slice ya (ln g bX) yc))
    (first | assumption | exact HKS.out _ (below_drew (Below.refl _ _)) | exact HKS.out _ ((‹Below w10.heap.size w10 _ ∧ _›).1.trans (hb.mono (‹Below w10.heap.size w10 _ ∧ _›).1.size)))
    (first
      | (go_at_call 34; refine (HRk.out b0 c0 b1 c1 b2 c2 _ (HRB.out.below (‹Below w10.heap.size w10 _ ∧ _›).1).rp).mono ?_; rintro e wv ⟨rfl, hb⟩)
      | (go_at_call 28; refine (HEq.out bX _ _ _ (HWK.out _ (‹Below w10.heap.size w10 _ ∧ _›).1) (HWY.out _ (‹Below w10.heap.size w10 _ ∧ _›).1)).mono ?_; rintro e wv ⟨rfl, hb⟩)
      | (go_at_call 25; refine (HAw.out _).mono ?_; rintro e wv ⟨rfl, hb⟩))
  rename_i hHz
  have HBn : Hid (Below w10.heap.size w10 wv) := Lib.hid hHz.1
  clear hHz hb HKS HWY HWK
  have HG_n := Lib.hid (HG.out.below HBn.out)
  have H1_n := Lib.hid (H1.out.below HBn.out (Nat.le_refl _))
  have H2_n := Lib.hid (H2.out.below HBn.out (Nat.le_refl _))
  have HKW_n := Lib.hid (HKW.out.below HBn.out (Nat.le_refl _))
  have HRB_n := Lib.hid (HRB.out.below HBn.out)
  have HB_n := Lib.hid (HB.out.trans (HBn.out.mono HB.out.size))
  clear HG H1 H2 HKW HRB HB
  have HG := HG_n
  have H1 := H1_n
  have H2 := H2_n
  have HKW := HKW_n
  have HRB := HRB_n
  have HB := HB_n
  clear HG_n H1_n H2_n HKW_n HRB_n HB_n HBn
  rename World => w11
  have g0 := HG.out.at0.1
  have g1 := HG.out.at0.2
  go_wp2_with fail
  clear HKW
  clear g0 g1
  refine (HWo.out _ _ H2.out).mono ?_
  rintro e w12 ⟨rfl, hb⟩
  have HBn : Hid (Below w11.heap.size w11 w12) := Lib.hid (hb)
  have HG_n := Lib.hid (HG.out.below HBn.out)
  have H1_n := Lib.hid (H1.out.below HBn.out (Nat.le_refl _))
  have H2_n := Lib.hid (H2.out.below HBn.out (Nat.le_refl _))
  have HRB_n := Lib.hid (HRB.out.below HBn.out)
  have HB_n := Lib.hid (HB.out.trans (HBn.out.mono HB.out.size))
  clear HG H1 H2 HRB HB
  have HG := HG_n
  have H1 := H1_n
  have H2 := H2_n
  have HRB := HRB_n
  have HB := HB_n
  clear HG_n H1_n H2_n HRB_n HB_n HBn hb
  have g0 := HG.out.at0.1
  have g1 := HG.out.at0.2
  go_wp2_with fail
  go_ret
  exact ⟨rfl, HB.out⟩

/-- THE LAW MirrorTimes. -/
theorem mirrorTimes_law (k n : Int) (v1 v2 : Value) (l1 l2 : List Int) (w : World) (h1 : Ints w v1 l1) (h2 : Ints w v2 l2) :
    Calls Try.prog 4 #[gV k n, v1, v2] w fun e w' => e = .returned (.bool true) ∧ Below w.heap.size w w' := by
  by_cases hk : grpB k n = true
  · obtain ⟨g, hg, rfl, rfl⟩ := grp_of hk
    cases hw1 : wordB g l1 with
    | true =>
      cases hw2 : wordB g l2 with
      | true => exact times_good g hg v1 v2 l1 l2 w h1 h2 hw1 hw2
      | false => exact times_bad2 g hg v1 v2 l1 l2 w h1 h2 hw1 hw2
    | false =>
      refine times_bad1 _ _ v1 v2 l1 l2 w h1 h2 (.inr ⟨g, hg, rfl, rfl, by simp [word_take, hw1]⟩) (.inr ⟨g, hg, rfl, rfl, by simp [word_take, hw1]⟩) fun v W h => ?_
      have := fine_any g hg v [l1] W h (by simp)
      rwa [show [l1].all (wordB g) = false by simp [hw1]] at this
  · exact times_bad1 k n v1 v2 l1 l2 w h1 h2 (.inl (by simpa using hk)) (.inl (by simpa using hk)) fun v W _ => fine_none k n (Bool.eq_false_iff.2 hk) v W
end Go.Proofs.Ytlnbodpdgebflaa
