/- MirrorCosets -/
import Derived.Test.YtlnbodpdgebflaaQt
import Derived.Test.YtlnbodpdgebflaaEi
namespace Go.Proofs.Ytlnbodpdgebflaa
open Go.RowKit


set_option maxRecDepth 100000 in
set_option maxHeartbeats 2000000 in
theorem cosets_bad (k n : Int) (v1 : Value) (l1 : List Int) (m : Int) (w : World) (h1 : Ints w v1 l1) (hb0 : Bad k n [l1.take 34])
    (hfn : ∀ v W, IntRows W v [l1] → Calls Try.prog 24 #[gV k n, v] W fun e w' => e = .returned (.bool false) ∧ Below W.heap.size W w') :
    Calls Try.prog 8 #[gV k n, v1, .int .i64 m] w fun e w' => e = .returned (.bool true) ∧ Below w.heap.size w w' := by
  have HOf := Lib.hid (fun W => Of_any k n W)
  have HLi := Lib.hid (fun v W h => listBad l1 v W h)
  have HC := Lib.hid (fun v W h => Coset_bad k n v (l1.take 34) m W h hb0)
  have HF := Lib.hid hfn
  generalize l1.take 34 = m1 at *
  have HAw := Lib.hid (fun W => awake_any W)
  obtain ⟨va1, vc1, rfl, _, _, _⟩ := h1.open
  have H10 := Lib.hid h1
  clear h1 hb0 hfn
  go_enter Try.func8, Try.ntmps8
  go_wp2_with fail
  refine (HOf.out _).mono ?_
  rintro e w1 ⟨rfl, hb⟩
  have HG : Hid (Blk 23 w1 w.heap.size #[.int .u8 k, .int .i64 n]) := Lib.hid ((Blk.new _ _ _).below hb)
  have HB : Hid (Below w.heap.size w w1) := Lib.hid (bl1 hb)
  have H1 := Lib.hid (H10.out.below HB.out (Nat.le_refl _))
  clear hb H10
  have g0 := HG.out.at0.1
  have g1 := HG.out.at0.2
  go_wp2_with fail
  clear g0 g1
  refine (HLi.out _ _ H1.out).mono ?_
  rintro e w2 ⟨la, lc, rfl, hm1, hb⟩
  have HBn : Hid (Below w1.heap.size w1 w2) := Lib.hid (hb)
  have HG_n := Lib.hid (HG.out.below HBn.out)
  have H1_n := Lib.hid (H1.out.below HBn.out (Nat.le_refl _))
  have HB_n := Lib.hid (HB.out.trans (HBn.out.mono HB.out.size))
  clear HG H1 HB
  have HG := HG_n
  have H1 := H1_n
  have HB := HB_n
  clear HG_n H1_n HB_n HBn hb
  have HM1 := Lib.hid hm1
  clear hm1
  have g0 := HG.out.at0.1
  have g1 := HG.out.at0.2
  go_wp2_with fail
  clear g0 g1
  refine (HC.out _ _ HM1.out).mono ?_
  rintro e w3 ⟨rfl, hb⟩
  have HBn : Hid (Below w2.heap.size w2 w3) := Lib.hid (hb)
  have HG_n := Lib.hid (HG.out.below HBn.out)
  have H1_n := Lib.hid (H1.out.below HBn.out (Nat.le_refl _))
  have HM1_n := Lib.hid (HM1.out.below HBn.out (Nat.le_refl _))
  have HB_n := Lib.hid (HB.out.trans (HBn.out.mono HB.out.size))
  clear HG H1 HM1 HB
  have HG := HG_n
  have H1 := H1_n
  have HM1 := HM1_n
  have HB := HB_n
  clear HG_n H1_n HM1_n HB_n HBn hb
  have g0 := HG.out.at0.1
  have g1 := HG.out.at0.2
  go_wp2_with fail
  clear HM1
  clear g0 g1
  refine (HF.out _ _ (rows1 (Blk.new _ _ _) (H1.out.alloc _))).mono ?_
  rintro e w4 ⟨rfl, hb⟩
  have HBn : Hid (Below w3.heap.size w3 w4) := Lib.hid (bl1 hb)
  have HG_n := Lib.hid (HG.out.below HBn.out)
  have H1_n := Lib.hid (H1.out.below HBn.out (Nat.le_refl _))
  have HB_n := Lib.hid (HB.out.trans (HBn.out.mono HB.out.size))
  clear HG H1 HB
  have HG := HG_n
  have H1 := H1_n
  have HB := HB_n
  clear HG_n H1_n HB_n HBn hb
  have g0 := HG.out.at0.1
  have g1 := HG.out.at0.2
  go_wp2_with fail
  clear g0 g1
  refine (HAw.out _).mono ?_
  rintro e w5 ⟨rfl, hb⟩
  have HBn : Hid (Below w4.heap.size w4 w5) := Lib.hid (hb)
  have HG_n := Lib.hid (HG.out.below HBn.out)
  have H1_n := Lib.hid (H1.out.below HBn.out (Nat.le_refl _))
  have HB_n := Lib.hid (HB.out.trans (HBn.out.mono HB.out.size))
  clear HG H1 HB
  have HG := HG_n
  have H1 := H1_n
  have HB := HB_n
  clear HG_n H1_n HB_n HBn hb
  have g0 := HG.out.at0.1
  have g1 := HG.out.at0.2
  go_wp2_with fail
  go_ret
  exact ⟨rfl, HB.out⟩

theorem pw_int (k : Nat) : ((2:Int) ^ k) = ((2 ^ k : Nat) : Int) := (pw_cast k).symm
set_option maxRecDepth 100000 in
set_option maxHeartbeats 2000000 in
theorem cosets_neg (g : Nat) (hg : g < 17) (v1 : Value) (l1 : List Int) (m : Int) (w : World) (h1 : Ints w v1 l1) (hw1 : wordB g l1 = true) (hm : m < 0) :
    Calls Try.prog 8 #[gV (kd g) (nm g), v1, .int .i64 m] w fun e w' => e = .returned (.bool true) ∧ Below w.heap.size w w' := by
  have q1 : l1.length ≤ 30 := by simp [wordB] at hw1; omega
  have hk4 := (tg hg).2.2.2.1
  have HOf := Lib.hid (fun W => Of_any (kd g) (nm g) W)
  have HLi := Lib.hid (fun v W h => listOk q1 v W h)
  have HC := Lib.hid (fun v W h => Coset_out g hg v l1 m (.inl hm) W h hw1)
  have HF := Lib.hid (fun v W h => fine_any g hg v [l1] W h (by simp))
  rw [show [l1].all (wordB g) = true by simp [hw1]] at HF
  have HMi := Lib.hid (fun W => Mirrors_any g hg W)
  have hp := pw_int (kM g)
  clear hp HMi
  have HAw := Lib.hid (fun W => awake_any W)
  obtain ⟨va1, vc1, rfl, _, _, _⟩ := h1.open
  have H10 := Lib.hid h1
  clear h1 hw1
  go_enter Try.func8, Try.ntmps8
  go_wp2_with fail
  refine (HOf.out _).mono ?_
  rintro e w1 ⟨rfl, hb⟩
  have HG : Hid (Blk 23 w1 w.heap.size #[.int .u8 (kd g), .int .i64 (nm g)]) := Lib.hid ((Blk.new _ _ _).below hb)
  have HB : Hid (Below w.heap.size w w1) := Lib.hid (bl1 hb)
  have H1 := Lib.hid (H10.out.below HB.out (Nat.le_refl _))
  clear hb H10
  have g0 := HG.out.at0.1
  have g1 := HG.out.at0.2
  go_wp2_with fail
  clear g0 g1
  refine (HLi.out _ _ H1.out).mono ?_
  rintro e w2 ⟨la, lc, rfl, hm1, hb⟩
  have HBn : Hid (Below w1.heap.size w1 w2) := Lib.hid (hb)
  have HG_n := Lib.hid (HG.out.below HBn.out)
  have H1_n := Lib.hid (H1.out.below HBn.out (Nat.le_refl _))
  have HB_n := Lib.hid (HB.out.trans (HBn.out.mono HB.out.size))
  clear HG H1 HB
  have HG := HG_n
  have H1 := H1_n
  have HB := HB_n
  clear HG_n H1_n HB_n HBn hb
  have HM1 := Lib.hid hm1
  clear hm1
  have g0 := HG.out.at0.1
  have g1 := HG.out.at0.2
  go_wp2_with fail
  clear g0 g1
  refine (HC.out _ _ HM1.out).mono ?_
  rintro e w3 ⟨rfl, hb⟩
  have HBn : Hid (Below w2.heap.size w2 w3) := Lib.hid (hb)
  have HG_n := Lib.hid (HG.out.below HBn.out)
  have H1_n := Lib.hid (H1.out.below HBn.out (Nat.le_refl _))
  have HM1_n := Lib.hid (HM1.out.below HBn.out (Nat.le_refl _))
  have HB_n := Lib.hid (HB.out.trans (HBn.out.mono HB.out.size))
  clear HG H1 HM1 HB
  have HG := HG_n
  have H1 := H1_n
  have HM1 := HM1_n
  have HB := HB_n
  clear HG_n H1_n HM1_n HB_n HBn hb
  have g0 := HG.out.at0.1
  have g1 := HG.out.at0.2
  go_wp2_with fail
  clear HM1
  clear g0 g1
  refine (HF.out _ _ (rows1 (Blk.new _ _ _) (H1.out.alloc _))).mono ?_
  rintro e w4 ⟨rfl, hb⟩
  have HBn : Hid (Below w3.heap.size w3 w4) := Lib.hid (bl1 hb)
  have HG_n := Lib.hid (HG.out.below HBn.out)
  have H1_n := Lib.hid (H1.out.below HBn.out (Nat.le_refl _))
  have HB_n := Lib.hid (HB.out.trans (HBn.out.mono HB.out.size))
  clear HG H1 HB
  have HG := HG_n
  have H1 := H1_n
  have HB := HB_n
  clear HG_n H1_n HB_n HBn hb
  have g0 := HG.out.at0.1
  have g1 := HG.out.at0.2
  go_wp2_with fail
  clear g0 g1
  refine (HAw.out _).mono ?_
  rintro e w5 ⟨rfl, hb⟩
  have HBn : Hid (Below w4.heap.size w4 w5) := Lib.hid (hb)
  have HG_n := Lib.hid (HG.out.below HBn.out)
  have H1_n := Lib.hid (H1.out.below HBn.out (Nat.le_refl _))
  have HB_n := Lib.hid (HB.out.trans (HBn.out.mono HB.out.size))
  clear HG H1 HB
  have HG := HG_n
  have H1 := H1_n
  have HB := HB_n
  clear HG_n H1_n HB_n HBn hb
  have g0 := HG.out.at0.1
  have g1 := HG.out.at0.2
  go_wp2_with fail
  go_ret
  exact ⟨rfl, HB.out⟩

set_option maxRecDepth 100000 in
set_option maxHeartbeats 2000000 in
theorem cosets_out (g : Nat) (hg : g < 17) (v1 : Value) (l1 : List Int) (m : Int) (w : World) (h1 : Ints w v1 l1) (hw1 : wordB g l1 = true) (hm : ((2 ^ kM g : Nat) : Int) ≤ m) :
    Calls Try.prog 8 #[gV (kd g) (nm g), v1, .int .i64 m] w fun e w' => e = .returned (.bool true) ∧ Below w.heap.size w w' := by
  have q1 : l1.length ≤ 30 := by simp [wordB] at hw1; omega
  have hk4 := (tg hg).2.2.2.1
  have HOf := Lib.hid (fun W => Of_any (kd g) (nm g) W)
  have HLi := Lib.hid (fun v W h => listOk q1 v W h)
  have HC := Lib.hid (fun v W h => Coset_out g hg v l1 m (.inr hm) W h hw1)
  have HF := Lib.hid (fun v W h => fine_any g hg v [l1] W h (by simp))
  rw [show [l1].all (wordB g) = true by simp [hw1]] at HF
  have HMi := Lib.hid (fun W => Mirrors_any g hg W)
  have hp := pw_int (kM g)
  have hpb := pw_bd (kM g) (by omega)
  have hd3 : IntKind.i64.wrap ((2:Int) ^ kM g) = (2:Int) ^ kM g := i64_of (by omega) (by omega)
  rw [← hp] at hm
  have hm0 : ¬ m < 0 := by omega
  generalize kM g = kn at *
  clear hp
  have HAw := Lib.hid (fun W => awake_any W)
  obtain ⟨va1, vc1, rfl, _, _, _⟩ := h1.open
  have H10 := Lib.hid h1
  clear h1 hw1
  go_enter Try.func8, Try.ntmps8
  go_wp2_with fail
  refine (HOf.out _).mono ?_
  rintro e w1 ⟨rfl, hb⟩
  have HG : Hid (Blk 23 w1 w.heap.size #[.int .u8 (kd g), .int .i64 (nm g)]) := Lib.hid ((Blk.new _ _ _).below hb)
  have HB : Hid (Below w.heap.size w w1) := Lib.hid (bl1 hb)
  have H1 := Lib.hid (H10.out.below HB.out (Nat.le_refl _))
  clear hb H10
  have g0 := HG.out.at0.1
  have g1 := HG.out.at0.2
  go_wp2_with fail
  clear g0 g1
  refine (HLi.out _ _ H1.out).mono ?_
  rintro e w2 ⟨la, lc, rfl, hm1, hb⟩
  have HBn : Hid (Below w1.heap.size w1 w2) := Lib.hid (hb)
  have HG_n := Lib.hid (HG.out.below HBn.out)
  have H1_n := Lib.hid (H1.out.below HBn.out (Nat.le_refl _))
  have HB_n := Lib.hid (HB.out.trans (HBn.out.mono HB.out.size))
  clear HG H1 HB
  have HG := HG_n
  have H1 := H1_n
  have HB := HB_n
  clear HG_n H1_n HB_n HBn hb
  have HM1 := Lib.hid hm1
  clear hm1
  have g0 := HG.out.at0.1
  have g1 := HG.out.at0.2
  go_wp2_with fail
  clear g0 g1
  refine (HC.out _ _ HM1.out).mono ?_
  rintro e w3 ⟨rfl, hb⟩
  have HBn : Hid (Below w2.heap.size w2 w3) := Lib.hid (hb)
  have HG_n := Lib.hid (HG.out.below HBn.out)
  have H1_n := Lib.hid (H1.out.below HBn.out (Nat.le_refl _))
  have HM1_n := Lib.hid (HM1.out.below HBn.out (Nat.le_refl _))
  have HB_n := Lib.hid (HB.out.trans (HBn.out.mono HB.out.size))
  clear HG H1 HM1 HB
  have HG := HG_n
  have H1 := H1_n
  have HM1 := HM1_n
  have HB := HB_n
  clear HG_n H1_n HM1_n HB_n HBn hb
  have g0 := HG.out.at0.1
  have g1 := HG.out.at0.2
  go_wp2_with fail
  clear HM1
  clear g0 g1
  refine (HF.out _ _ (rows1 (Blk.new _ _ _) (H1.out.alloc _))).mono ?_
  rintro e w4 ⟨rfl, hb⟩
  have HBn : Hid (Below w3.heap.size w3 w4) := Lib.hid (bl1 hb)
  have HG_n := Lib.hid (HG.out.below HBn.out)
  have H1_n := Lib.hid (H1.out.below HBn.out (Nat.le_refl _))
  have HB_n := Lib.hid (HB.out.trans (HBn.out.mono HB.out.size))
  clear HG H1 HB
  have HG := HG_n
  have H1 := H1_n
  have HB := HB_n
  clear HG_n H1_n HB_n HBn hb
  have g0 := HG.out.at0.1
  have g1 := HG.out.at0.2
  go_wp2_with fail
  clear g0 g1
  refine (HMi.out _).mono ?_
  rintro e w5 ⟨rfl, hb⟩
  have HBn : Hid (Below w4.heap.size w4 w5) := Lib.hid (hb)
  have HG_n := Lib.hid (HG.out.below HBn.out)
  have H1_n := Lib.hid (H1.out.below HBn.out (Nat.le_refl _))
  have HB_n := Lib.hid (HB.out.trans (HBn.out.mono HB.out.size))
  clear HG H1 HB
  have HG := HG_n
  have H1 := H1_n
  have HB := HB_n
  clear HG_n H1_n HB_n HBn hb
  have g0 := HG.out.at0.1
  have g1 := HG.out.at0.2
  go_wp2_with fail
  clear g0 g1
  refine (HAw.out _).mono ?_
  rintro e w6 ⟨rfl, hb⟩
  have HBn : Hid (Below w5.heap.size w5 w6) := Lib.hid (hb)
  have HG_n := Lib.hid (HG.out.below HBn.out)
  have H1_n := Lib.hid (H1.out.below HBn.out (Nat.le_refl _))
  have HB_n := Lib.hid (HB.out.trans (HBn.out.mono HB.out.size))
  clear HG H1 HB
  have HG := HG_n
  have H1 := H1_n
  have HB := HB_n
  clear HG_n H1_n HB_n HBn hb
  have g0 := HG.out.at0.1
  have g1 := HG.out.at0.2
  go_wp2_with fail
  go_ret
  exact ⟨rfl, HB.out⟩

set_option maxRecDepth 100000 in
set_option maxHeartbeats 4000000 in
theorem cosets_good (g : Nat) (hg : g < 17) (v1 : Value) (l1 : List Int) (m : Nat) (w : World) (h1 : Ints w v1 l1) (hw1 : wordB g l1 = true) (hm : m < 2 ^ kM g) :
    Calls Try.prog 8 #[gV (kd g) (nm g), v1, .int .i64 (m : Nat)] w fun e w' => e = .returned (.bool true) ∧ Below w.heap.size w w' := by
  have q1 : l1.length ≤ 30 := by simp [wordB] at hw1; omega
  have hk4 := (tg hg).2.2.2.1
  have HOf := Lib.hid (fun W => Of_any (kd g) (nm g) W)
  have HLi := Lib.hid (fun v W h => listOk q1 v W h)
  have HC := Lib.hid (fun v W h => Coset_ok g hg v l1 m hm W h hw1)
  have HF := Lib.hid (fun v W h => fine_any g hg v [l1] W h (by simp))
  rw [show [l1].all (wordB g) = true by simp [hw1]] at HF
  have HMi := Lib.hid (fun W => Mirrors_any g hg W)
  have hp := pw_int (kM g)
  have hpb := pw_bd (kM g) (by omega)
  have hd3 : IntKind.i64.wrap ((2:Int) ^ kM g) = (2:Int) ^ kM g := i64_of (by omega) (by omega)
  have hmI : ¬ (2:Int) ^ kM g ≤ (m : Int) := by rw [hp]; omega
  have hm0 : ¬ (m : Int) < 0 := by omega
  have hm16 : m < 16 := Nat.lt_of_lt_of_le hm (Nat.pow_le_pow_right (n := 2) (by decide) hk4)
  have HAw := Lib.hid (fun W => awake_any W)
  have HEl := Lib.hid (fun W => Elements_any g hg W)
  have hE := tE hg
  have hX := folI_lt hg hw1
  have hM := shB_lt hg m _ hX
  have HC2 : Hid (∀ v W, Ints W v l1 → Calls Try.prog 50 #[gV (kd g) (nm g), v, .int .i64 (m : Nat)] W fun e w' => ∃ a c, e = .returned (.tuple #[.slice a (ln g (shB g m (folI g l1))) c, .int .i64 0]) ∧ Wn w' (.slice a (ln g (shB g m (folI g l1))) c) g (shB g m (folI g l1)) ∧ Below W.heap.size W w') := HC
  have HNu : Hid (∀ b0 c0 b1 c1 b2 c2 v W, RP W g b0 b1 b2 → Ints W v l1 → Calls Try.prog 27 #[rV g b0 c0 b1 c1 b2 c2, .int .i64 0, v] W fun e w' => e = .returned (.int .i64 (folI g l1 : Nat)) ∧ Below W.heap.size W w') := Lib.hid (fun b0 c0 b1 c1 b2 c2 v W h hv =>
    Number_any g b0 c0 b1 c1 b2 c2 0 hg v (toN l1) W h hE.1 (hv.toN (word_let hw1)) (toN_lt (word_let hw1)))
  have HRc := Lib.hid (fun b0 c0 b1 c1 b2 c2 W h => RCoset_any g b0 c0 b1 c1 b2 c2 (folI g l1) m hg W h hX hm16)
  have HEq := Lib.hid (fun y v v' W (h : Wn W v g y) h' => equalW v v' W h h')
  generalize shB g m (folI g l1) = M at *
  generalize folI g l1 = X at *
  generalize kM g = kn at *
  obtain ⟨va1, vc1, rfl, _, _, _⟩ := h1.open
  have H10 := Lib.hid h1
  clear h1 hw1 hp HC hm
  go_enter Try.func8, Try.ntmps8
  go_wp2_with fail
  refine (HOf.out _).mono ?_
  rintro e w1 ⟨rfl, hb⟩
  have HG : Hid (Blk 23 w1 w.heap.size #[.int .u8 (kd g), .int .i64 (nm g)]) := Lib.hid ((Blk.new _ _ _).below hb)
  have HB : Hid (Below w.heap.size w w1) := Lib.hid (bl1 hb)
  have H1 := Lib.hid (H10.out.below HB.out (Nat.le_refl _))
  clear hb H10
  have g0 := HG.out.at0.1
  have g1 := HG.out.at0.2
  go_wp2_with fail
  clear g0 g1
  refine (HLi.out _ _ H1.out).mono ?_
  rintro e w2 ⟨la, lc, rfl, hm1, hb⟩
  have HBn : Hid (Below w1.heap.size w1 w2) := Lib.hid (hb)
  have HG_n := Lib.hid (HG.out.below HBn.out)
  have H1_n := Lib.hid (H1.out.below HBn.out (Nat.le_refl _))
  have HB_n := Lib.hid (HB.out.trans (HBn.out.mono HB.out.size))
  clear HG H1 HB
  have HG := HG_n
  have H1 := H1_n
  have HB := HB_n
  clear HG_n H1_n HB_n HBn hb
  have HM1 := Lib.hid hm1
  clear hm1
  have g0 := HG.out.at0.1
  have g1 := HG.out.at0.2
  go_wp2_with fail
  clear g0 g1
  refine (HC2.out _ _ HM1.out).mono ?_
  rintro e w3 ⟨ka, kc, rfl, hkw, hb⟩
  have HBn : Hid (Below w2.heap.size w2 w3) := Lib.hid (hb)
  have HG_n := Lib.hid (HG.out.below HBn.out)
  have H1_n := Lib.hid (H1.out.below HBn.out (Nat.le_refl _))
  have HM1_n := Lib.hid (HM1.out.below HBn.out (Nat.le_refl _))
  have HB_n := Lib.hid (HB.out.trans (HBn.out.mono HB.out.size))
  clear HG H1 HM1 HB
  have HG := HG_n
  have H1 := H1_n
  have HM1 := HM1_n
  have HB := HB_n
  clear HG_n H1_n HM1_n HB_n HBn hb
  have HKW := Lib.hid hkw
  clear hkw
  have g0 := HG.out.at0.1
  have g1 := HG.out.at0.2
  go_wp2_with fail
  clear HM1
  clear g0 g1
  refine (HF.out _ _ (rows1 (Blk.new _ _ _) (H1.out.alloc _))).mono ?_
  rintro e w4 ⟨rfl, hb⟩
  have HBn : Hid (Below w3.heap.size w3 w4) := Lib.hid (bl1 hb)
  have HG_n := Lib.hid (HG.out.below HBn.out)
  have H1_n := Lib.hid (H1.out.below HBn.out (Nat.le_refl _))
  have HKW_n := Lib.hid (HKW.out.below HBn.out (Nat.le_refl _))
  have HB_n := Lib.hid (HB.out.trans (HBn.out.mono HB.out.size))
  clear HG H1 HKW HB
  have HG := HG_n
  have H1 := H1_n
  have HKW := HKW_n
  have HB := HB_n
  clear HG_n H1_n HKW_n HB_n HBn hb
  have g0 := HG.out.at0.1
  have g1 := HG.out.at0.2
  go_wp2_with fail
  clear g0 g1
  refine (HMi.out _).mono ?_
  rintro e w5 ⟨rfl, hb⟩
  have HBn : Hid (Below w4.heap.size w4 w5) := Lib.hid (hb)
  have HG_n := Lib.hid (HG.out.below HBn.out)
  have H1_n := Lib.hid (H1.out.below HBn.out (Nat.le_refl _))
  have HKW_n := Lib.hid (HKW.out.below HBn.out (Nat.le_refl _))
  have HB_n := Lib.hid (HB.out.trans (HBn.out.mono HB.out.size))
  clear HG H1 HKW HB
  have HG := HG_n
  have H1 := H1_n
  have HKW := HKW_n
  have HB := HB_n
  clear HG_n H1_n HKW_n HB_n HBn hb
  have g0 := HG.out.at0.1
  have g1 := HG.out.at0.2
  go_wp2_with fail
  clear g0 g1
  refine (HEl.out _).mono ?_
  rintro e w6 ⟨tv, rfl, hrt, hb⟩
  have HBn : Hid (Below w5.heap.size w5 w6) := Lib.hid (hb)
  have HG_n := Lib.hid (HG.out.below HBn.out)
  have H1_n := Lib.hid (H1.out.below HBn.out (Nat.le_refl _))
  have HKW_n := Lib.hid (HKW.out.below HBn.out (Nat.le_refl _))
  have HB_n := Lib.hid (HB.out.trans (HBn.out.mono HB.out.size))
  clear HG H1 HKW HB
  have HG := HG_n
  have H1 := H1_n
  have HKW := HKW_n
  have HB := HB_n
  clear HG_n H1_n HKW_n HB_n HBn hb
  have HRT := Lib.hid hrt
  clear hrt
  have g0 := HG.out.at0.1
  have g1 := HG.out.at0.2
  obtain ⟨b0, c0, b1, c1, b2, c2, rfl, hpp, hcc⟩ := HRT.out
  have HP : Hid (RP w6 g b0 b1 b2) := Lib.hid ⟨hpp.1, hpp.2.1, hpp.2.2⟩
  have HRB0 := Lib.hid (HP.out.box c0 c1 c2)
  have hbz : Below w6.heap.size w6 (w6.alloc (.cells #[.slice (some ⟨b0, 0, none⟩) (nE g) c0, .slice (some ⟨b1, 0, none⟩) (nE g) c1, .slice (some ⟨b2, 0, none⟩) (nE g) c2] 39)) := a1 _ _
  have HKW0 := Lib.hid (HKW.out.below hbz (Nat.le_refl _))
  have H1z := Lib.hid (H1.out.below hbz (Nat.le_refl _))
  have HBz := Lib.hid (HB.out.trans (hbz.mono HB.out.size))
  clear hpp hcc HRT HP hbz g0 g1 HKW H1 HB
  unfold rV at HNu HRc
  go_wp2_with fail
  generalize w6.alloc (.cells #[.slice (some ⟨b0, 0, none⟩) (nE g) c0, .slice (some ⟨b1, 0, none⟩) (nE g) c1, .slice (some ⟨b2, 0, none⟩) (nE g) c2] 39) = wz at *
  have t0 := HRB0.out.at.1
  have t1 := HRB0.out.at.2.1
  have t2 := HRB0.out.at.2.2
  obtain ⟨ya, yc, hy1, hy2⟩ := HRB0.out.p0 M hM
  have hyl : (wd g M).length = ln g M := rfl
  rw [hyl] at hy1 hy2
  have HKS : Hid (∀ W, Below wz.heap.size wz W → (Below wz.heap.size wz W ∧ W.cell? ⟨w6.heap.size, 0, none⟩ = some (.slice (some ⟨b0, 0, none⟩) (nE g) c0) ∧ W.cell? ⟨w6.heap.size, 1, none⟩ = some (.slice (some ⟨b1, 0, none⟩) (nE g) c1) ∧ W.cell? ⟨w6.heap.size, 2, none⟩ = some (.slice (some ⟨b2, 0, none⟩) (nE g) c2) ∧ W.cell? ⟨b0, M, none⟩ = some (.slice ya (ln g M) yc))) := Lib.hid (fun W hb => ⟨hb, ck t0 hb, ck t1 hb, ck t2 hb, ck hy1 hb⟩)
  have HWY : Hid (∀ W, Below wz.heap.size wz W → Wn W (.slice ya (ln g M) yc) g M) := Lib.hid (fun W hb => Ints.below hy2 hb (Nat.le_refl _))
  have HWK : Hid (∀ W, Below wz.heap.size wz W → Wn W (.slice ka (ln g M) kc) g M) := Lib.hid (fun W hb => Ints.below HKW0.out hb (Nat.le_refl _))
  clear hy2 hyl t0 t1 t2 hy1
  go_region_held3 (fun W => Below wz.heap.size wz W ∧ W.cell? ⟨w6.heap.size, 0, none⟩ = some (.slice (some ⟨b0, 0, none⟩) (nE g) c0) ∧ W.cell? ⟨w6.heap.size, 1, none⟩ = some (.slice (some ⟨b1, 0, none⟩) (nE g) c1) ∧ W.cell? ⟨w6.heap.size, 2, none⟩ = some (.slice (some ⟨b2, 0, none⟩) (nE g) c2) ∧ W.cell? ⟨b0, M, none⟩ = some (.slice ya (ln g M) yc))
    (first | assumption | exact HKS.out _ (below_drew (Below.refl _ _)) | exact HKS.out _ ((‹Below wz.heap.size wz _ ∧ _›).1.trans (hb.mono (‹Below wz.heap.size wz _ ∧ _›).1.size)))
    (first
      | (go_at_call 27; refine (HNu.out b0 c0 b1 c1 b2 c2 _ _ (HRB0.out.below (‹Below wz.heap.size wz _ ∧ _›).1).rp (H1z.out.below (‹Below wz.heap.size wz _ ∧ _›).1 (Nat.le_refl _))).mono ?_; rintro e wv ⟨rfl, hb⟩)
      | (go_at_call 51; refine (HRc.out b0 c0 b1 c1 b2 c2 _ (HRB0.out.below (‹Below wz.heap.size wz _ ∧ _›).1).rp).mono ?_; rintro e wv ⟨rfl, hb⟩)
      | (go_at_call 28; refine (HEq.out M _ _ _ (HWK.out _ (‹Below wz.heap.size wz _ ∧ _›).1) (HWY.out _ (‹Below wz.heap.size wz _ ∧ _›).1)).mono ?_; rintro e wv ⟨rfl, hb⟩)
      | (go_at_call 25; refine (HAw.out _).mono ?_; rintro e wv ⟨rfl, hb⟩))
  rename_i hHz
  have HBw : Hid (Below w.heap.size w wv) := Lib.hid (HBz.out.trans (hHz.1.mono HBz.out.size))
  clear hHz hb HKS HWY HWK
  go_wp2_with fail
  go_ret
  exact ⟨rfl, HBw.out⟩

/-- THE LAW MirrorCosets. -/
theorem mirrorCosets_law (k n : Int) (v1 : Value) (l1 : List Int) (m : Int) (w : World) (h1 : Ints w v1 l1) :
    Calls Try.prog 8 #[gV k n, v1, .int .i64 m] w fun e w' => e = .returned (.bool true) ∧ Below w.heap.size w w' := by
  by_cases hk : grpB k n = true
  · obtain ⟨g, hg, rfl, rfl⟩ := grp_of hk
    cases hw1 : wordB g l1 with
    | true =>
      by_cases h0 : m < 0
      · exact cosets_neg g hg v1 l1 m w h1 hw1 h0
      · obtain ⟨m, rfl⟩ : ∃ q : Nat, m = (q : Nat) := ⟨m.toNat, by omega⟩
        by_cases hm : m < 2 ^ kM g
        · exact cosets_good g hg v1 l1 m w h1 hw1 hm
        · exact cosets_out g hg v1 l1 m w h1 hw1 (by omega)
    | false =>
      refine cosets_bad _ _ v1 l1 m w h1 (.inr ⟨g, hg, rfl, rfl, by simp [word_take, hw1]⟩) fun v W h => ?_
      have := fine_any g hg v [l1] W h (by simp)
      rwa [show [l1].all (wordB g) = false by simp [hw1]] at this
  · exact cosets_bad k n v1 l1 m w h1 (.inl (by simpa using hk)) fun v W _ => fine_none k n (Bool.eq_false_iff.2 hk) v W
end Go.Proofs.Ytlnbodpdgebflaa
