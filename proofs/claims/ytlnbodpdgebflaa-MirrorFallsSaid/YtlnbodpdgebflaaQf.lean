/- MirrorFalls -/
import Derived.Test.YtlnbodpdgebflaaQt
import Derived.Test.YtlnbodpdgebflaaEk
namespace Go.Proofs.Ytlnbodpdgebflaa
open Go.RowKit

set_option maxRecDepth 20000 in
set_option maxHeartbeats 2000000 in
theorem Leave_arg (g : Nat) (hg : g < 17) (v : Value) (l : List Int) (s : Int) (w : World) (h : Ints w v l) (hw : wordB g l = true) (hsh : ln g (folI g l) ≠ l.length ∨ mirB g s = false) :
    Calls Try.prog 42 #[gV (kd g) (nm g), v, .int .i64 s] w fun e w' => e = .returned (.tuple #[.int .i64 0, .int .i64 2]) ∧ Below w.heap.size w w' := by
  have hl30 : l.length ≤ 30 := by simp [wordB] at hw; omega
  have HO := Lib.hid (fun W b hc h => open1_ok g hg (v := v) (l := l) W b hc h hw)
  have hlt := folI_lt hg hw
  have HM := Lib.hid (fun W => isMirror_any g hg s W)
  have hl12 := (tx hg hlt).2.1
  obtain ⟨va, vc, rfl, _, _, _⟩ := h.open
  have HV := Lib.hid h
  clear h hw
  go_enter Try.func42, Try.ntmps42
  go_wp2_with fail
  refine (HO.out _ _ (blk_at (by simp)) ((HV.out.alloc _).alloc _)).mono ?_
  rintro e w1 ⟨T0, eb, eo, ec, rfl, hT, hx, hb1, hec⟩
  have HB1 : Hid (Below w.heap.size w w1) := Lib.hid ((a2 w _ _).trans (hb1.mono (by simp; try omega)))
  have HG : Hid (Blk 28 w1 w.heap.size #[.int .u8 (kd g), .int .i64 (nm g)]) := Lib.hid ((hb1.block _ (by simp; try omega)).trans ((Blk.new _ _ _).alloc _))
  have HLe := Lib.hid (length_any g T0 (folI g l) hg w1 hT hlt)
  have g0 := HG.out.at0.1
  have g1 := HG.out.at0.2
  clear hb1 HO hT
  generalize hln : ln g (folI g l) = n at *
  have HLN := Lib.hid hln
  clear hln
  generalize folI g l = y at *
  go_wp2_with fail
  refine HLe.out.mono ?_
  rintro e w2 ⟨rfl, rfl⟩
  clear HLe HLN
  by_cases hn : n = l.length
  · subst hn
    have hm : mirB g s = false := hsh.resolve_left (fun e => e rfl)
    rw [hm] at HM
    clear hsh hm
    go_wp2_with fail
    refine (HM.out _).mono ?_
    rintro e w2 ⟨rfl, hb2⟩
    have HB2 : Hid (Below w.heap.size w w2) := Lib.hid (HB1.out.trans (hb2.mono HB1.out.size))
    clear hb2 g0 g1 HM HG hx
    go_wp2_with fail
    exact bodyPost_ret (results_tmp2 rfl _ _ _) rfl ⟨rfl, HB2.out⟩
  · have hnb : (((n : Nat) : Int) != ((l.length : Nat) : Int)) = true := bne_iff_ne.2 (by omega)
    clear hsh
    go_wp2_with fail
    exact bodyPost_ret (results_tmp2 rfl _ _ _) rfl ⟨rfl, HB1.out⟩

set_option maxRecDepth 100000 in
set_option maxHeartbeats 2000000 in
theorem falls_bad (k n : Int) (v1 : Value) (l1 : List Int) (s : Int) (w : World) (h1 : Ints w v1 l1) (hb0 : Bad k n [l1.take 34])
    (hfn : ∀ v W, IntRows W v [l1] → Calls Try.prog 24 #[gV k n, v] W fun e w' => e = .returned (.bool false) ∧ Below W.heap.size W w') :
    Calls Try.prog 6 #[gV k n, v1, .int .i64 s] w fun e w' => e = .returned (.bool true) ∧ Below w.heap.size w w' := by
  have HOf := Lib.hid (fun W => Of_any k n W)
  have HLi := Lib.hid (fun v W h => listBad l1 v W h)
  have HFl := Lib.hid (fun v W h => Falls_bad k n v (l1.take 34) W h hb0)
  have HLv := Lib.hid (fun v W h => Leave_bad k n v (l1.take 34) s W h hb0)
  have HF := Lib.hid hfn
  generalize l1.take 34 = m1 at *
  have HAw := Lib.hid (fun W => awake_any W)
  obtain ⟨va1, vc1, rfl, _, _, _⟩ := h1.open
  have H10 := Lib.hid h1
  clear h1 hb0 hfn
  go_enter Try.func6, Try.ntmps6
  go_wp2_with fail
  refine (HOf.out _).mono ?_
  rintro e w1 ⟨rfl, hb⟩
  have HG : Hid (Blk 23 w1 w.heap.size #[.int .u8 k, .int .i64 n]) := Lib.hid ((Blk.new _ _ _).below hb)
  have HB : Hid (Below w.heap.size w w1) := Lib.hid (bl1 hb)
  have H1 := Lib.hid (H10.out.below HB.out (Nat.le_refl _))
  clear hb H10
  have g0 := HG.out.at0.1
  have g1 := HG.out.at0.2
  go_wp2_with fail
  clear g0 g1
  refine (HLi.out _ _ H1.out).mono ?_
  rintro e w2 ⟨la, lc, rfl, hm1, hb⟩
  have HBn : Hid (Below w1.heap.size w1 w2) := Lib.hid (hb)
  have HG_n := Lib.hid (HG.out.below HBn.out)
  have H1_n := Lib.hid (H1.out.below HBn.out (Nat.le_refl _))
  have HB_n := Lib.hid (HB.out.trans (HBn.out.mono HB.out.size))
  clear HG H1 HB
  have HG := HG_n
  have H1 := H1_n
  have HB := HB_n
  clear HG_n H1_n HB_n HBn hb
  have HM1 := Lib.hid hm1
  clear hm1
  have g0 := HG.out.at0.1
  have g1 := HG.out.at0.2
  go_wp2_with fail
  clear g0 g1
  refine (HFl.out _ _ HM1.out).mono ?_
  rintro e w3 ⟨rfl, hb⟩
  have HBn : Hid (Below w2.heap.size w2 w3) := Lib.hid (hb)
  have HG_n := Lib.hid (HG.out.below HBn.out)
  have H1_n := Lib.hid (H1.out.below HBn.out (Nat.le_refl _))
  have HM1_n := Lib.hid (HM1.out.below HBn.out (Nat.le_refl _))
  have HB_n := Lib.hid (HB.out.trans (HBn.out.mono HB.out.size))
  clear HG H1 HM1 HB
  have HG := HG_n
  have H1 := H1_n
  have HM1 := HM1_n
  have HB := HB_n
  clear HG_n H1_n HM1_n HB_n HBn hb
  have g0 := HG.out.at0.1
  have g1 := HG.out.at0.2
  go_wp2_with fail
  clear HM1
  clear g0 g1
  refine (HOf.out _).mono ?_
  rintro e w4 ⟨rfl, hb⟩
  have HBn : Hid (Below w3.heap.size w3 w4) := Lib.hid (hb)
  have HG_n := Lib.hid (HG.out.below HBn.out)
  have H1_n := Lib.hid (H1.out.below HBn.out (Nat.le_refl _))
  have HB_n := Lib.hid (HB.out.trans (HBn.out.mono HB.out.size))
  clear HG H1 HB
  have HG := HG_n
  have H1 := H1_n
  have HB := HB_n
  clear HG_n H1_n HB_n HBn hb
  have g0 := HG.out.at0.1
  have g1 := HG.out.at0.2
  go_wp2_with fail
  clear g0 g1
  refine (HLi.out _ _ H1.out).mono ?_
  rintro e w5 ⟨la, lc, rfl, hm1, hb⟩
  have HBn : Hid (Below w4.heap.size w4 w5) := Lib.hid (hb)
  have HG_n := Lib.hid (HG.out.below HBn.out)
  have H1_n := Lib.hid (H1.out.below HBn.out (Nat.le_refl _))
  have HB_n := Lib.hid (HB.out.trans (HBn.out.mono HB.out.size))
  clear HG H1 HB
  have HG := HG_n
  have H1 := H1_n
  have HB := HB_n
  clear HG_n H1_n HB_n HBn hb
  have HM1 := Lib.hid hm1
  clear hm1
  have g0 := HG.out.at0.1
  have g1 := HG.out.at0.2
  go_wp2_with fail
  clear g0 g1
  refine (HLv.out _ _ HM1.out).mono ?_
  rintro e w6 ⟨rfl, hb⟩
  have HBn : Hid (Below w5.heap.size w5 w6) := Lib.hid (hb)
  have HG_n := Lib.hid (HG.out.below HBn.out)
  have H1_n := Lib.hid (H1.out.below HBn.out (Nat.le_refl _))
  have HM1_n := Lib.hid (HM1.out.below HBn.out (Nat.le_refl _))
  have HB_n := Lib.hid (HB.out.trans (HBn.out.mono HB.out.size))
  clear HG H1 HM1 HB
  have HG := HG_n
  have H1 := H1_n
  have HM1 := HM1_n
  have HB := HB_n
  clear HG_n H1_n HM1_n HB_n HBn hb
  have g0 := HG.out.at0.1
  have g1 := HG.out.at0.2
  go_wp2_with fail
  clear HM1
  clear g0 g1
  refine (HF.out _ _ (rows1 (Blk.new _ _ _) (H1.out.alloc _))).mono ?_
  rintro e w7 ⟨rfl, hb⟩
  have HBn : Hid (Below w6.heap.size w6 w7) := Lib.hid (bl1 hb)
  have HG_n := Lib.hid (HG.out.below HBn.out)
  have H1_n := Lib.hid (H1.out.below HBn.out (Nat.le_refl _))
  have HB_n := Lib.hid (HB.out.trans (HBn.out.mono HB.out.size))
  clear HG H1 HB
  have HG := HG_n
  have H1 := H1_n
  have HB := HB_n
  clear HG_n H1_n HB_n HBn hb
  have g0 := HG.out.at0.1
  have g1 := HG.out.at0.2
  go_wp2_with fail
  clear g0 g1
  refine (HAw.out _).mono ?_
  rintro e w8 ⟨rfl, hb⟩
  have HBn : Hid (Below w7.heap.size w7 w8) := Lib.hid (hb)
  have HG_n := Lib.hid (HG.out.below HBn.out)
  have H1_n := Lib.hid (H1.out.below HBn.out (Nat.le_refl _))
  have HB_n := Lib.hid (HB.out.trans (HBn.out.mono HB.out.size))
  clear HG H1 HB
  have HG := HG_n
  have H1 := H1_n
  have HB := HB_n
  clear HG_n H1_n HB_n HBn hb
  have g0 := HG.out.at0.1
  have g1 := HG.out.at0.2
  go_wp2_with fail
  go_ret
  exact ⟨rfl, HB.out⟩

set_option maxRecDepth 100000 in
set_option maxHeartbeats 4000000 in
theorem falls_long (g : Nat) (hg : g < 17) (v1 : Value) (l1 : List Int) (s : Int) (w : World) (h1 : Ints w v1 l1) (hw1 : wordB g l1 = true) (hsh : ln g (folI g l1) ≠ l1.length) :
    Calls Try.prog 6 #[gV (kd g) (nm g), v1, .int .i64 s] w fun e w' => e = .returned (.bool true) ∧ Below w.heap.size w w' := by
  have q1 : l1.length ≤ 30 := by simp [wordB] at hw1; omega
  have hk4 := (tg hg).2.2.2.1
  have HOf := Lib.hid (fun W => Of_any (kd g) (nm g) W)
  have HLi := Lib.hid (fun v W h => listOk q1 v W h)
  have HF := Lib.hid (fun v W h => fine_any g hg v [l1] W h (by simp))
  rw [show [l1].all (wordB g) = true by simp [hw1]] at HF
  have HMi := Lib.hid (fun W => Mirrors_any g hg W)
  have HAw := Lib.hid (fun W => awake_any W)
  have HEl := Lib.hid (fun W => Elements_any g hg W)
  have hE := tE hg
  have hX := folI_lt hg hw1
  have hl12 := (tx hg hX).2.1
  have HFl := Lib.hid (fun v W h => Falls_ok g hg v l1 W h hw1)
  have HLv := Lib.hid (fun v W h => Leave_arg g hg v l1 s W h hw1 (.inl hsh))
  have HNu : Hid (∀ b0 c0 b1 c1 b2 c2 v W, RP W g b0 b1 b2 → Ints W v l1 → Calls Try.prog 27 #[rV g b0 c0 b1 c1 b2 c2, .int .i64 0, v] W fun e w' => e = .returned (.int .i64 (folI g l1 : Nat)) ∧ Below W.heap.size W w') := Lib.hid (fun b0 c0 b1 c1 b2 c2 v W h hv =>
    Number_any g b0 c0 b1 c1 b2 c2 0 hg v (toN l1) W h hE.1 (hv.toN (word_let hw1)) (toN_lt (word_let hw1)))
  have HRf := Lib.hid (fun b0 c0 b1 c1 b2 c2 W h => RFalls_any g b0 c0 b1 c1 b2 c2 (folI g l1) hg W h hX)
  have HLn := Lib.hid (fun b0 c0 b1 c1 b2 c2 W h => Len_any g b0 c0 b1 c1 b2 c2 (folI g l1) hg W h hX)
  generalize flS g (folI g l1) (kM g) = fs at *
  have hnb : (((ln g (folI g l1) : Nat) : Int) != ((l1.length : Nat) : Int)) = true := bne_iff_ne.2 (by omega)
  clear hsh
  generalize ln g (folI g l1) = ny at *
  generalize folI g l1 = X at *
  generalize kM g = kn at *
  obtain ⟨va1, vc1, rfl, _, _, _⟩ := h1.open
  have H10 := Lib.hid h1
  clear h1 hw1
  go_enter Try.func6, Try.ntmps6
  go_wp2_with fail
  refine (HOf.out _).mono ?_
  rintro e w1 ⟨rfl, hb⟩
  have HG : Hid (Blk 23 w1 w.heap.size #[.int .u8 (kd g), .int .i64 (nm g)]) := Lib.hid ((Blk.new _ _ _).below hb)
  have HB : Hid (Below w.heap.size w w1) := Lib.hid (bl1 hb)
  have H1 := Lib.hid (H10.out.below HB.out (Nat.le_refl _))
  clear hb H10
  have g0 := HG.out.at0.1
  have g1 := HG.out.at0.2
  go_wp2_with fail
  clear g0 g1
  refine (HLi.out _ _ H1.out).mono ?_
  rintro e w2 ⟨la, lc, rfl, hm1, hb⟩
  have HBn : Hid (Below w1.heap.size w1 w2) := Lib.hid (hb)
  have HG_n := Lib.hid (HG.out.below HBn.out)
  have H1_n := Lib.hid (H1.out.below HBn.out (Nat.le_refl _))
  have HB_n := Lib.hid (HB.out.trans (HBn.out.mono HB.out.size))
  clear HG H1 HB
  have HG := HG_n
  have H1 := H1_n
  have HB := HB_n
  clear HG_n H1_n HB_n HBn hb
  have HM1 := Lib.hid hm1
  clear hm1
  have g0 := HG.out.at0.1
  have g1 := HG.out.at0.2
  go_wp2_with fail
  clear g0 g1
  refine (HFl.out _ _ HM1.out).mono ?_
  rintro e w3 ⟨rfl, hb⟩
  have HBn : Hid (Below w2.heap.size w2 w3) := Lib.hid (hb)
  have HG_n := Lib.hid (HG.out.below HBn.out)
  have H1_n := Lib.hid (H1.out.below HBn.out (Nat.le_refl _))
  have HM1_n := Lib.hid (HM1.out.below HBn.out (Nat.le_refl _))
  have HB_n := Lib.hid (HB.out.trans (HBn.out.mono HB.out.size))
  clear HG H1 HM1 HB
  have HG := HG_n
  have H1 := H1_n
  have HM1 := HM1_n
  have HB := HB_n
  clear HG_n H1_n HM1_n HB_n HBn hb
  have g0 := HG.out.at0.1
  have g1 := HG.out.at0.2
  go_wp2_with fail
  clear HM1
  clear g0 g1
  refine (HOf.out _).mono ?_
  rintro e w4 ⟨rfl, hb⟩
  have HBn : Hid (Below w3.heap.size w3 w4) := Lib.hid (hb)
  have HG_n := Lib.hid (HG.out.below HBn.out)
  have H1_n := Lib.hid (H1.out.below HBn.out (Nat.le_refl _))
  have HB_n := Lib.hid (HB.out.trans (HBn.out.mono HB.out.size))
  clear HG H1 HB
  have HG := HG_n
  have H1 := H1_n
  have HB := HB_n
  clear HG_n H1_n HB_n HBn hb
  have g0 := HG.out.at0.1
  have g1 := HG.out.at0.2
  go_wp2_with fail
  clear g0 g1
  refine (HLi.out _ _ H1.out).mono ?_
  rintro e w5 ⟨la, lc, rfl, hm1, hb⟩
  have HBn : Hid (Below w4.heap.size w4 w5) := Lib.hid (hb)
  have HG_n := Lib.hid (HG.out.below HBn.out)
  have H1_n := Lib.hid (H1.out.below HBn.out (Nat.le_refl _))
  have HB_n := Lib.hid (HB.out.trans (HBn.out.mono HB.out.size))
  clear HG H1 HB
  have HG := HG_n
  have H1 := H1_n
  have HB := HB_n
  clear HG_n H1_n HB_n HBn hb
  have HM1 := Lib.hid hm1
  clear hm1
  have g0 := HG.out.at0.1
  have g1 := HG.out.at0.2
  go_wp2_with fail
  clear g0 g1
  refine (HLv.out _ _ HM1.out).mono ?_
  rintro e w6 ⟨rfl, hb⟩
  have HBn : Hid (Below w5.heap.size w5 w6) := Lib.hid (hb)
  have HG_n := Lib.hid (HG.out.below HBn.out)
  have H1_n := Lib.hid (H1.out.below HBn.out (Nat.le_refl _))
  have HM1_n := Lib.hid (HM1.out.below HBn.out (Nat.le_refl _))
  have HB_n := Lib.hid (HB.out.trans (HBn.out.mono HB.out.size))
  clear HG H1 HM1 HB
  have HG := HG_n
  have H1 := H1_n
  have HM1 := HM1_n
  have HB := HB_n
  clear HG_n H1_n HM1_n HB_n HBn hb
  have g0 := HG.out.at0.1
  have g1 := HG.out.at0.2
  go_wp2_with fail
  clear HM1
  clear g0 g1
  refine (HF.out _ _ (rows1 (Blk.new _ _ _) (H1.out.alloc _))).mono ?_
  rintro e w7 ⟨rfl, hb⟩
  have HBn : Hid (Below w6.heap.size w6 w7) := Lib.hid (bl1 hb)
  have HG_n := Lib.hid (HG.out.below HBn.out)
  have H1_n := Lib.hid (H1.out.below HBn.out (Nat.le_refl _))
  have HB_n := Lib.hid (HB.out.trans (HBn.out.mono HB.out.size))
  clear HG H1 HB
  have HG := HG_n
  have H1 := H1_n
  have HB := HB_n
  clear HG_n H1_n HB_n HBn hb
  have g0 := HG.out.at0.1
  have g1 := HG.out.at0.2
  go_wp2_with fail
  clear g0 g1
  refine (HEl.out _).mono ?_
  rintro e w8 ⟨tv, rfl, hrt, hb⟩
  have HBn : Hid (Below w7.heap.size w7 w8) := Lib.hid (hb)
  have HG_n := Lib.hid (HG.out.below HBn.out)
  have H1_n := Lib.hid (H1.out.below HBn.out (Nat.le_refl _))
  have HB_n := Lib.hid (HB.out.trans (HBn.out.mono HB.out.size))
  clear HG H1 HB
  have HG := HG_n
  have H1 := H1_n
  have HB := HB_n
  clear HG_n H1_n HB_n HBn hb
  have HRT := Lib.hid hrt
  clear hrt
  have g0 := HG.out.at0.1
  have g1 := HG.out.at0.2
  obtain ⟨b0, c0, b1, c1, b2, c2, rfl, hpp, hcc⟩ := HRT.out
  have HP : Hid (RP w8 g b0 b1 b2) := Lib.hid ⟨hpp.1, hpp.2.1, hpp.2.2⟩
  have HRB := Lib.hid (HP.out.box c0 c1 c2)
  have hbz : Below w8.heap.size w8 (w8.alloc (.cells #[.slice (some ⟨b0, 0, none⟩) (nE g) c0, .slice (some ⟨b1, 0, none⟩) (nE g) c1, .slice (some ⟨b2, 0, none⟩) (nE g) c2] 39)) := a1 _ _
  have HGz := Lib.hid (HG.out.below hbz)
  have H1z := Lib.hid (H1.out.below hbz (Nat.le_refl _))
  have HBz := Lib.hid (HB.out.trans (hbz.mono HB.out.size))
  clear hpp hcc HRT HP hbz g0 g1 H1 HB HG
  have HG := HGz
  have H1 := H1z
  have HB := HBz
  clear HGz H1z HBz
  unfold rV at HNu HRf HLn
  go_wp2_with fail
  generalize w8.alloc (.cells #[.slice (some ⟨b0, 0, none⟩) (nE g) c0, .slice (some ⟨b1, 0, none⟩) (nE g) c1, .slice (some ⟨b2, 0, none⟩) (nE g) c2] 39) = w9 at *
  have g0 := HG.out.at0.1
  have g1 := HG.out.at0.2
  clear g0 g1
  refine (HNu.out b0 c0 b1 c1 b2 c2 _ _ HRB.out.rp H1.out).mono ?_
  rintro e w10 ⟨rfl, hb⟩
  have HBn : Hid (Below w9.heap.size w9 w10) := Lib.hid (hb)
  have HG_n := Lib.hid (HG.out.below HBn.out)
  have H1_n := Lib.hid (H1.out.below HBn.out (Nat.le_refl _))
  have HRB_n := Lib.hid (HRB.out.below HBn.out)
  have HB_n := Lib.hid (HB.out.trans (HBn.out.mono HB.out.size))
  clear HG H1 HRB HB
  have HG := HG_n
  have H1 := H1_n
  have HRB := HRB_n
  have HB := HB_n
  clear HG_n H1_n HRB_n HB_n HBn hb
  have g0 := HG.out.at0.1
  have g1 := HG.out.at0.2
  have t0 := HRB.out.at.1
  have t1 := HRB.out.at.2.1
  have t2 := HRB.out.at.2.2
  go_wp2_with fail
  clear t0 t1 t2
  clear g0 g1
  refine (HRf.out b0 c0 b1 c1 b2 c2 _ HRB.out.rp).mono ?_
  rintro e w11 ⟨rfl, hb⟩
  have HBn : Hid (Below w10.heap.size w10 w11) := Lib.hid (hb)
  have HG_n := Lib.hid (HG.out.below HBn.out)
  have H1_n := Lib.hid (H1.out.below HBn.out (Nat.le_refl _))
  have HRB_n := Lib.hid (HRB.out.below HBn.out)
  have HB_n := Lib.hid (HB.out.trans (HBn.out.mono HB.out.size))
  clear HG H1 HRB HB
  have HG := HG_n
  have H1 := H1_n
  have HRB := HRB_n
  have HB := HB_n
  clear HG_n H1_n HRB_n HB_n HBn hb
  have g0 := HG.out.at0.1
  have g1 := HG.out.at0.2
  have t0 := HRB.out.at.1
  have t1 := HRB.out.at.2.1
  have t2 := HRB.out.at.2.2
  go_wp2_with fail
  clear t0 t1 t2
  clear g0 g1
  refine (HAw.out _).mono ?_
  rintro e w12 ⟨rfl, hb⟩
  have HBn : Hid (Below w11.heap.size w11 w12) := Lib.hid (hb)
  have HG_n := Lib.hid (HG.out.below HBn.out)
  have H1_n := Lib.hid (H1.out.below HBn.out (Nat.le_refl _))
  have HRB_n := Lib.hid (HRB.out.below HBn.out)
  have HB_n := Lib.hid (HB.out.trans (HBn.out.mono HB.out.size))
  clear HG H1 HRB HB
  have HG := HG_n
  have H1 := H1_n
  have HRB := HRB_n
  have HB := HB_n
  clear HG_n H1_n HRB_n HB_n HBn hb
  have g0 := HG.out.at0.1
  have g1 := HG.out.at0.2
  have t0 := HRB.out.at.1
  have t1 := HRB.out.at.2.1
  have t2 := HRB.out.at.2.2
  go_wp2_with fail
  clear t0 t1 t2
  clear g0 g1
  refine (HLn.out b0 c0 b1 c1 b2 c2 _ HRB.out.rp).mono ?_
  rintro e w13 ⟨rfl, hb⟩
  have HBn : Hid (Below w12.heap.size w12 w13) := Lib.hid (hb)
  have HG_n := Lib.hid (HG.out.below HBn.out)
  have H1_n := Lib.hid (H1.out.below HBn.out (Nat.le_refl _))
  have HRB_n := Lib.hid (HRB.out.below HBn.out)
  have HB_n := Lib.hid (HB.out.trans (HBn.out.mono HB.out.size))
  clear HG H1 HRB HB
  have HG := HG_n
  have H1 := H1_n
  have HRB := HRB_n
  have HB := HB_n
  clear HG_n H1_n HRB_n HB_n HBn hb
  have g0 := HG.out.at0.1
  have g1 := HG.out.at0.2
  have t0 := HRB.out.at.1
  have t1 := HRB.out.at.2.1
  have t2 := HRB.out.at.2.2
  go_wp2_with fail
  clear t0 t1 t2
  go_ret
  exact ⟨rfl, HB.out⟩

set_option maxRecDepth 100000 in
set_option maxHeartbeats 4000000 in
theorem falls_neg (g : Nat) (hg : g < 17) (v1 : Value) (l1 : List Int) (s : Int) (w : World) (h1 : Ints w v1 l1) (hw1 : wordB g l1 = true) (hsh : ln g (folI g l1) = l1.length) (hs : s < 0) :
    Calls Try.prog 6 #[gV (kd g) (nm g), v1, .int .i64 s] w fun e w' => e = .returned (.bool true) ∧ Below w.heap.size w w' := by
  have q1 : l1.length ≤ 30 := by simp [wordB] at hw1; omega
  have hk4 := (tg hg).2.2.2.1
  have HOf := Lib.hid (fun W => Of_any (kd g) (nm g) W)
  have HLi := Lib.hid (fun v W h => listOk q1 v W h)
  have HF := Lib.hid (fun v W h => fine_any g hg v [l1] W h (by simp))
  rw [show [l1].all (wordB g) = true by simp [hw1]] at HF
  have HMi := Lib.hid (fun W => Mirrors_any g hg W)
  have HAw := Lib.hid (fun W => awake_any W)
  have HEl := Lib.hid (fun W => Elements_any g hg W)
  have hE := tE hg
  have hX := folI_lt hg hw1
  have hl12 := (tx hg hX).2.1
  have HFl := Lib.hid (fun v W h => Falls_ok g hg v l1 W h hw1)
  have HLv := Lib.hid (fun v W h => Leave_arg g hg v l1 s W h hw1 (.inr (by simp [mirB]; omega)))
  have HNu : Hid (∀ b0 c0 b1 c1 b2 c2 v W, RP W g b0 b1 b2 → Ints W v l1 → Calls Try.prog 27 #[rV g b0 c0 b1 c1 b2 c2, .int .i64 0, v] W fun e w' => e = .returned (.int .i64 (folI g l1 : Nat)) ∧ Below W.heap.size W w') := Lib.hid (fun b0 c0 b1 c1 b2 c2 v W h hv =>
    Number_any g b0 c0 b1 c1 b2 c2 0 hg v (toN l1) W h hE.1 (hv.toN (word_let hw1)) (toN_lt (word_let hw1)))
  have HRf := Lib.hid (fun b0 c0 b1 c1 b2 c2 W h => RFalls_any g b0 c0 b1 c1 b2 c2 (folI g l1) hg W h hX)
  have HLn := Lib.hid (fun b0 c0 b1 c1 b2 c2 W h => Len_any g b0 c0 b1 c1 b2 c2 (folI g l1) hg W h hX)
  generalize flS g (folI g l1) (kM g) = fs at *
  rw [hsh] at HLn
  clear hsh
  generalize folI g l1 = X at *
  generalize kM g = kn at *
  obtain ⟨va1, vc1, rfl, _, _, _⟩ := h1.open
  have H10 := Lib.hid h1
  clear h1 hw1
  go_enter Try.func6, Try.ntmps6
  go_wp2_with fail
  refine (HOf.out _).mono ?_
  rintro e w1 ⟨rfl, hb⟩
  have HG : Hid (Blk 23 w1 w.heap.size #[.int .u8 (kd g), .int .i64 (nm g)]) := Lib.hid ((Blk.new _ _ _).below hb)
  have HB : Hid (Below w.heap.size w w1) := Lib.hid (bl1 hb)
  have H1 := Lib.hid (H10.out.below HB.out (Nat.le_refl _))
  clear hb H10
  have g0 := HG.out.at0.1
  have g1 := HG.out.at0.2
  go_wp2_with fail
  clear g0 g1
  refine (HLi.out _ _ H1.out).mono ?_
  rintro e w2 ⟨la, lc, rfl, hm1, hb⟩
  have HBn : Hid (Below w1.heap.size w1 w2) := Lib.hid (hb)
  have HG_n := Lib.hid (HG.out.below HBn.out)
  have H1_n := Lib.hid (H1.out.below HBn.out (Nat.le_refl _))
  have HB_n := Lib.hid (HB.out.trans (HBn.out.mono HB.out.size))
  clear HG H1 HB
  have HG := HG_n
  have H1 := H1_n
  have HB := HB_n
  clear HG_n H1_n HB_n HBn hb
  have HM1 := Lib.hid hm1
  clear hm1
  have g0 := HG.out.at0.1
  have g1 := HG.out.at0.2
  go_wp2_with fail
  clear g0 g1
  refine (HFl.out _ _ HM1.out).mono ?_
  rintro e w3 ⟨rfl, hb⟩
  have HBn : Hid (Below w2.heap.size w2 w3) := Lib.hid (hb)
  have HG_n := Lib.hid (HG.out.below HBn.out)
  have H1_n := Lib.hid (H1.out.below HBn.out (Nat.le_refl _))
  have HM1_n := Lib.hid (HM1.out.below HBn.out (Nat.le_refl _))
  have HB_n := Lib.hid (HB.out.trans (HBn.out.mono HB.out.size))
  clear HG H1 HM1 HB
  have HG := HG_n
  have H1 := H1_n
  have HM1 := HM1_n
  have HB := HB_n
  clear HG_n H1_n HM1_n HB_n HBn hb
  have g0 := HG.out.at0.1
  have g1 := HG.out.at0.2
  go_wp2_with fail
  clear HM1
  clear g0 g1
  refine (HOf.out _).mono ?_
  rintro e w4 ⟨rfl, hb⟩
  have HBn : Hid (Below w3.heap.size w3 w4) := Lib.hid (hb)
  have HG_n := Lib.hid (HG.out.below HBn.out)
  have H1_n := Lib.hid (H1.out.below HBn.out (Nat.le_refl _))
  have HB_n := Lib.hid (HB.out.trans (HBn.out.mono HB.out.size))
  clear HG H1 HB
  have HG := HG_n
  have H1 := H1_n
  have HB := HB_n
  clear HG_n H1_n HB_n HBn hb
  have g0 := HG.out.at0.1
  have g1 := HG.out.at0.2
  go_wp2_with fail
  clear g0 g1
  refine (HLi.out _ _ H1.out).mono ?_
  rintro e w5 ⟨la, lc, rfl, hm1, hb⟩
  have HBn : Hid (Below w4.heap.size w4 w5) := Lib.hid (hb)
  have HG_n := Lib.hid (HG.out.below HBn.out)
  have H1_n := Lib.hid (H1.out.below HBn.out (Nat.le_refl _))
  have HB_n := Lib.hid (HB.out.trans (HBn.out.mono HB.out.size))
  clear HG H1 HB
  have HG := HG_n
  have H1 := H1_n
  have HB := HB_n
  clear HG_n H1_n HB_n HBn hb
  have HM1 := Lib.hid hm1
  clear hm1
  have g0 := HG.out.at0.1
  have g1 := HG.out.at0.2
  go_wp2_with fail
  clear g0 g1
  refine (HLv.out _ _ HM1.out).mono ?_
  rintro e w6 ⟨rfl, hb⟩
  have HBn : Hid (Below w5.heap.size w5 w6) := Lib.hid (hb)
  have HG_n := Lib.hid (HG.out.below HBn.out)
  have H1_n := Lib.hid (H1.out.below HBn.out (Nat.le_refl _))
  have HM1_n := Lib.hid (HM1.out.below HBn.out (Nat.le_refl _))
  have HB_n := Lib.hid (HB.out.trans (HBn.out.mono HB.out.size))
  clear HG H1 HM1 HB
  have HG := HG_n
  have H1 := H1_n
  have HM1 := HM1_n
  have HB := HB_n
  clear HG_n H1_n HM1_n HB_n HBn hb
  have g0 := HG.out.at0.1
  have g1 := HG.out.at0.2
  go_wp2_with fail
  clear HM1
  clear g0 g1
  refine (HF.out _ _ (rows1 (Blk.new _ _ _) (H1.out.alloc _))).mono ?_
  rintro e w7 ⟨rfl, hb⟩
  have HBn : Hid (Below w6.heap.size w6 w7) := Lib.hid (bl1 hb)
  have HG_n := Lib.hid (HG.out.below HBn.out)
  have H1_n := Lib.hid (H1.out.below HBn.out (Nat.le_refl _))
  have HB_n := Lib.hid (HB.out.trans (HBn.out.mono HB.out.size))
  clear HG H1 HB
  have HG := HG_n
  have H1 := H1_n
  have HB := HB_n
  clear HG_n H1_n HB_n HBn hb
  have g0 := HG.out.at0.1
  have g1 := HG.out.at0.2
  go_wp2_with fail
  clear g0 g1
  refine (HEl.out _).mono ?_
  rintro e w8 ⟨tv, rfl, hrt, hb⟩
  have HBn : Hid (Below w7.heap.size w7 w8) := Lib.hid (hb)
  have HG_n := Lib.hid (HG.out.below HBn.out)
  have H1_n := Lib.hid (H1.out.below HBn.out (Nat.le_refl _))
  have HB_n := Lib.hid (HB.out.trans (HBn.out.mono HB.out.size))
  clear HG H1 HB
  have HG := HG_n
  have H1 := H1_n
  have HB := HB_n
  clear HG_n H1_n HB_n HBn hb
  have HRT := Lib.hid hrt
  clear hrt
  have g0 := HG.out.at0.1
  have g1 := HG.out.at0.2
  obtain ⟨b0, c0, b1, c1, b2, c2, rfl, hpp, hcc⟩ := HRT.out
  have HP : Hid (RP w8 g b0 b1 b2) := Lib.hid ⟨hpp.1, hpp.2.1, hpp.2.2⟩
  have HRB := Lib.hid (HP.out.box c0 c1 c2)
  have hbz : Below w8.heap.size w8 (w8.alloc (.cells #[.slice (some ⟨b0, 0, none⟩) (nE g) c0, .slice (some ⟨b1, 0, none⟩) (nE g) c1, .slice (some ⟨b2, 0, none⟩) (nE g) c2] 39)) := a1 _ _
  have HGz := Lib.hid (HG.out.below hbz)
  have H1z := Lib.hid (H1.out.below hbz (Nat.le_refl _))
  have HBz := Lib.hid (HB.out.trans (hbz.mono HB.out.size))
  clear hpp hcc HRT HP hbz g0 g1 H1 HB HG
  have HG := HGz
  have H1 := H1z
  have HB := HBz
  clear HGz H1z HBz
  unfold rV at HNu HRf HLn
  go_wp2_with fail
  generalize w8.alloc (.cells #[.slice (some ⟨b0, 0, none⟩) (nE g) c0, .slice (some ⟨b1, 0, none⟩) (nE g) c1, .slice (some ⟨b2, 0, none⟩) (nE g) c2] 39) = w9 at *
  have g0 := HG.out.at0.1
  have g1 := HG.out.at0.2
  clear g0 g1
  refine (HNu.out b0 c0 b1 c1 b2 c2 _ _ HRB.out.rp H1.out).mono ?_
  rintro e w10 ⟨rfl, hb⟩
  have HBn : Hid (Below w9.heap.size w9 w10) := Lib.hid (hb)
  have HG_n := Lib.hid (HG.out.below HBn.out)
  have H1_n := Lib.hid (H1.out.below HBn.out (Nat.le_refl _))
  have HRB_n := Lib.hid (HRB.out.below HBn.out)
  have HB_n := Lib.hid (HB.out.trans (HBn.out.mono HB.out.size))
  clear HG H1 HRB HB
  have HG := HG_n
  have H1 := H1_n
  have HRB := HRB_n
  have HB := HB_n
  clear HG_n H1_n HRB_n HB_n HBn hb
  have g0 := HG.out.at0.1
  have g1 := HG.out.at0.2
  have t0 := HRB.out.at.1
  have t1 := HRB.out.at.2.1
  have t2 := HRB.out.at.2.2
  go_wp2_with fail
  clear t0 t1 t2
  clear g0 g1
  refine (HRf.out b0 c0 b1 c1 b2 c2 _ HRB.out.rp).mono ?_
  rintro e w11 ⟨rfl, hb⟩
  have HBn : Hid (Below w10.heap.size w10 w11) := Lib.hid (hb)
  have HG_n := Lib.hid (HG.out.below HBn.out)
  have H1_n := Lib.hid (H1.out.below HBn.out (Nat.le_refl _))
  have HRB_n := Lib.hid (HRB.out.below HBn.out)
  have HB_n := Lib.hid (HB.out.trans (HBn.out.mono HB.out.size))
  clear HG H1 HRB HB
  have HG := HG_n
  have H1 := H1_n
  have HRB := HRB_n
  have HB := HB_n
  clear HG_n H1_n HRB_n HB_n HBn hb
  have g0 := HG.out.at0.1
  have g1 := HG.out.at0.2
  have t0 := HRB.out.at.1
  have t1 := HRB.out.at.2.1
  have t2 := HRB.out.at.2.2
  go_wp2_with fail
  clear t0 t1 t2
  clear g0 g1
  refine (HAw.out _).mono ?_
  rintro e w12 ⟨rfl, hb⟩
  have HBn : Hid (Below w11.heap.size w11 w12) := Lib.hid (hb)
  have HG_n := Lib.hid (HG.out.below HBn.out)
  have H1_n := Lib.hid (H1.out.below HBn.out (Nat.le_refl _))
  have HRB_n := Lib.hid (HRB.out.below HBn.out)
  have HB_n := Lib.hid (HB.out.trans (HBn.out.mono HB.out.size))
  clear HG H1 HRB HB
  have HG := HG_n
  have H1 := H1_n
  have HRB := HRB_n
  have HB := HB_n
  clear HG_n H1_n HRB_n HB_n HBn hb
  have g0 := HG.out.at0.1
  have g1 := HG.out.at0.2
  have t0 := HRB.out.at.1
  have t1 := HRB.out.at.2.1
  have t2 := HRB.out.at.2.2
  go_wp2_with fail
  clear t0 t1 t2
  clear g0 g1
  refine (HLn.out b0 c0 b1 c1 b2 c2 _ HRB.out.rp).mono ?_
  rintro e w13 ⟨rfl, hb⟩
  have HBn : Hid (Below w12.heap.size w12 w13) := Lib.hid (hb)
  have HG_n := Lib.hid (HG.out.below HBn.out)
  have H1_n := Lib.hid (H1.out.below HBn.out (Nat.le_refl _))
  have HRB_n := Lib.hid (HRB.out.below HBn.out)
  have HB_n := Lib.hid (HB.out.trans (HBn.out.mono HB.out.size))
  clear HG H1 HRB HB
  have HG := HG_n
  have H1 := H1_n
  have HRB := HRB_n
  have HB := HB_n
  clear HG_n H1_n HRB_n HB_n HBn hb
  have g0 := HG.out.at0.1
  have g1 := HG.out.at0.2
  have t0 := HRB.out.at.1
  have t1 := HRB.out.at.2.1
  have t2 := HRB.out.at.2.2
  go_wp2_with fail
  clear t0 t1 t2
  go_ret
  exact ⟨rfl, HB.out⟩

set_option maxRecDepth 100000 in
set_option maxHeartbeats 4000000 in
theorem falls_big (g : Nat) (hg : g < 17) (v1 : Value) (l1 : List Int) (s : Int) (w : World) (h1 : Ints w v1 l1) (hw1 : wordB g l1 = true) (hsh : ln g (folI g l1) = l1.length) (hs : ((kM g : Nat) : Int) ≤ s) :
    Calls Try.prog 6 #[gV (kd g) (nm g), v1, .int .i64 s] w fun e w' => e = .returned (.bool true) ∧ Below w.heap.size w w' := by
  have q1 : l1.length ≤ 30 := by simp [wordB] at hw1; omega
  have hk4 := (tg hg).2.2.2.1
  have HOf := Lib.hid (fun W => Of_any (kd g) (nm g) W)
  have HLi := Lib.hid (fun v W h => listOk q1 v W h)
  have HF := Lib.hid (fun v W h => fine_any g hg v [l1] W h (by simp))
  rw [show [l1].all (wordB g) = true by simp [hw1]] at HF
  have HMi := Lib.hid (fun W => Mirrors_any g hg W)
  have HAw := Lib.hid (fun W => awake_any W)
  have HEl := Lib.hid (fun W => Elements_any g hg W)
  have hE := tE hg
  have hX := folI_lt hg hw1
  have hl12 := (tx hg hX).2.1
  have HFl := Lib.hid (fun v W h => Falls_ok g hg v l1 W h hw1)
  have HLv := Lib.hid (fun v W h => Leave_arg g hg v l1 s W h hw1 (.inr (by simp [mirB]; omega)))
  have hs0 : ¬ s < 0 := by omega
  have HNu : Hid (∀ b0 c0 b1 c1 b2 c2 v W, RP W g b0 b1 b2 → Ints W v l1 → Calls Try.prog 27 #[rV g b0 c0 b1 c1 b2 c2, .int .i64 0, v] W fun e w' => e = .returned (.int .i64 (folI g l1 : Nat)) ∧ Below W.heap.size W w') := Lib.hid (fun b0 c0 b1 c1 b2 c2 v W h hv =>
    Number_any g b0 c0 b1 c1 b2 c2 0 hg v (toN l1) W h hE.1 (hv.toN (word_let hw1)) (toN_lt (word_let hw1)))
  have HRf := Lib.hid (fun b0 c0 b1 c1 b2 c2 W h => RFalls_any g b0 c0 b1 c1 b2 c2 (folI g l1) hg W h hX)
  have HLn := Lib.hid (fun b0 c0 b1 c1 b2 c2 W h => Len_any g b0 c0 b1 c1 b2 c2 (folI g l1) hg W h hX)
  generalize flS g (folI g l1) (kM g) = fs at *
  rw [hsh] at HLn
  clear hsh
  generalize folI g l1 = X at *
  generalize kM g = kn at *
  obtain ⟨va1, vc1, rfl, _, _, _⟩ := h1.open
  have H10 := Lib.hid h1
  clear h1 hw1
  go_enter Try.func6, Try.ntmps6
  go_wp2_with fail
  refine (HOf.out _).mono ?_
  rintro e w1 ⟨rfl, hb⟩
  have HG : Hid (Blk 23 w1 w.heap.size #[.int .u8 (kd g), .int .i64 (nm g)]) := Lib.hid ((Blk.new _ _ _).below hb)
  have HB : Hid (Below w.heap.size w w1) := Lib.hid (bl1 hb)
  have H1 := Lib.hid (H10.out.below HB.out (Nat.le_refl _))
  clear hb H10
  have g0 := HG.out.at0.1
  have g1 := HG.out.at0.2
  go_wp2_with fail
  clear g0 g1
  refine (HLi.out _ _ H1.out).mono ?_
  rintro e w2 ⟨la, lc, rfl, hm1, hb⟩
  have HBn : Hid (Below w1.heap.size w1 w2) := Lib.hid (hb)
  have HG_n := Lib.hid (HG.out.below HBn.out)
  have H1_n := Lib.hid (H1.out.below HBn.out (Nat.le_refl _))
  have HB_n := Lib.hid (HB.out.trans (HBn.out.mono HB.out.size))
  clear HG H1 HB
  have HG := HG_n
  have H1 := H1_n
  have HB := HB_n
  clear HG_n H1_n HB_n HBn hb
  have HM1 := Lib.hid hm1
  clear hm1
  have g0 := HG.out.at0.1
  have g1 := HG.out.at0.2
  go_wp2_with fail
  clear g0 g1
  refine (HFl.out _ _ HM1.out).mono ?_
  rintro e w3 ⟨rfl, hb⟩
  have HBn : Hid (Below w2.heap.size w2 w3) := Lib.hid (hb)
  have HG_n := Lib.hid (HG.out.below HBn.out)
  have H1_n := Lib.hid (H1.out.below HBn.out (Nat.le_refl _))
  have HM1_n := Lib.hid (HM1.out.below HBn.out (Nat.le_refl _))
  have HB_n := Lib.hid (HB.out.trans (HBn.out.mono HB.out.size))
  clear HG H1 HM1 HB
  have HG := HG_n
  have H1 := H1_n
  have HM1 := HM1_n
  have HB := HB_n
  clear HG_n H1_n HM1_n HB_n HBn hb
  have g0 := HG.out.at0.1
  have g1 := HG.out.at0.2
  go_wp2_with fail
  clear HM1
  clear g0 g1
  refine (HOf.out _).mono ?_
  rintro e w4 ⟨rfl, hb⟩
  have HBn : Hid (Below w3.heap.size w3 w4) := Lib.hid (hb)
  have HG_n := Lib.hid (HG.out.below HBn.out)
  have H1_n := Lib.hid (H1.out.below HBn.out (Nat.le_refl _))
  have HB_n := Lib.hid (HB.out.trans (HBn.out.mono HB.out.size))
  clear HG H1 HB
  have HG := HG_n
  have H1 := H1_n
  have HB := HB_n
  clear HG_n H1_n HB_n HBn hb
  have g0 := HG.out.at0.1
  have g1 := HG.out.at0.2
  go_wp2_with fail
  clear g0 g1
  refine (HLi.out _ _ H1.out).mono ?_
  rintro e w5 ⟨la, lc, rfl, hm1, hb⟩
  have HBn : Hid (Below w4.heap.size w4 w5) := Lib.hid (hb)
  have HG_n := Lib.hid (HG.out.below HBn.out)
  have H1_n := Lib.hid (H1.out.below HBn.out (Nat.le_refl _))
  have HB_n := Lib.hid (HB.out.trans (HBn.out.mono HB.out.size))
  clear HG H1 HB
  have HG := HG_n
  have H1 := H1_n
  have HB := HB_n
  clear HG_n H1_n HB_n HBn hb
  have HM1 := Lib.hid hm1
  clear hm1
  have g0 := HG.out.at0.1
  have g1 := HG.out.at0.2
  go_wp2_with fail
  clear g0 g1
  refine (HLv.out _ _ HM1.out).mono ?_
  rintro e w6 ⟨rfl, hb⟩
  have HBn : Hid (Below w5.heap.size w5 w6) := Lib.hid (hb)
  have HG_n := Lib.hid (HG.out.below HBn.out)
  have H1_n := Lib.hid (H1.out.below HBn.out (Nat.le_refl _))
  have HM1_n := Lib.hid (HM1.out.below HBn.out (Nat.le_refl _))
  have HB_n := Lib.hid (HB.out.trans (HBn.out.mono HB.out.size))
  clear HG H1 HM1 HB
  have HG := HG_n
  have H1 := H1_n
  have HM1 := HM1_n
  have HB := HB_n
  clear HG_n H1_n HM1_n HB_n HBn hb
  have g0 := HG.out.at0.1
  have g1 := HG.out.at0.2
  go_wp2_with fail
  clear HM1
  clear g0 g1
  refine (HF.out _ _ (rows1 (Blk.new _ _ _) (H1.out.alloc _))).mono ?_
  rintro e w7 ⟨rfl, hb⟩
  have HBn : Hid (Below w6.heap.size w6 w7) := Lib.hid (bl1 hb)
  have HG_n := Lib.hid (HG.out.below HBn.out)
  have H1_n := Lib.hid (H1.out.below HBn.out (Nat.le_refl _))
  have HB_n := Lib.hid (HB.out.trans (HBn.out.mono HB.out.size))
  clear HG H1 HB
  have HG := HG_n
  have H1 := H1_n
  have HB := HB_n
  clear HG_n H1_n HB_n HBn hb
  have g0 := HG.out.at0.1
  have g1 := HG.out.at0.2
  go_wp2_with fail
  clear g0 g1
  refine (HEl.out _).mono ?_
  rintro e w8 ⟨tv, rfl, hrt, hb⟩
  have HBn : Hid (Below w7.heap.size w7 w8) := Lib.hid (hb)
  have HG_n := Lib.hid (HG.out.below HBn.out)
  have H1_n := Lib.hid (H1.out.below HBn.out (Nat.le_refl _))
  have HB_n := Lib.hid (HB.out.trans (HBn.out.mono HB.out.size))
  clear HG H1 HB
  have HG := HG_n
  have H1 := H1_n
  have HB := HB_n
  clear HG_n H1_n HB_n HBn hb
  have HRT := Lib.hid hrt
  clear hrt
  have g0 := HG.out.at0.1
  have g1 := HG.out.at0.2
  obtain ⟨b0, c0, b1, c1, b2, c2, rfl, hpp, hcc⟩ := HRT.out
  have HP : Hid (RP w8 g b0 b1 b2) := Lib.hid ⟨hpp.1, hpp.2.1, hpp.2.2⟩
  have HRB := Lib.hid (HP.out.box c0 c1 c2)
  have hbz : Below w8.heap.size w8 (w8.alloc (.cells #[.slice (some ⟨b0, 0, none⟩) (nE g) c0, .slice (some ⟨b1, 0, none⟩) (nE g) c1, .slice (some ⟨b2, 0, none⟩) (nE g) c2] 39)) := a1 _ _
  have HGz := Lib.hid (HG.out.below hbz)
  have H1z := Lib.hid (H1.out.below hbz (Nat.le_refl _))
  have HBz := Lib.hid (HB.out.trans (hbz.mono HB.out.size))
  clear hpp hcc HRT HP hbz g0 g1 H1 HB HG
  have HG := HGz
  have H1 := H1z
  have HB := HBz
  clear HGz H1z HBz
  unfold rV at HNu HRf HLn
  go_wp2_with fail
  generalize w8.alloc (.cells #[.slice (some ⟨b0, 0, none⟩) (nE g) c0, .slice (some ⟨b1, 0, none⟩) (nE g) c1, .slice (some ⟨b2, 0, none⟩) (nE g) c2] 39) = w9 at *
  have g0 := HG.out.at0.1
  have g1 := HG.out.at0.2
  clear g0 g1
  refine (HNu.out b0 c0 b1 c1 b2 c2 _ _ HRB.out.rp H1.out).mono ?_
  rintro e w10 ⟨rfl, hb⟩
  have HBn : Hid (Below w9.heap.size w9 w10) := Lib.hid (hb)
  have HG_n := Lib.hid (HG.out.below HBn.out)
  have H1_n := Lib.hid (H1.out.below HBn.out (Nat.le_refl _))
  have HRB_n := Lib.hid (HRB.out.below HBn.out)
  have HB_n := Lib.hid (HB.out.trans (HBn.out.mono HB.out.size))
  clear HG H1 HRB HB
  have HG := HG_n
  have H1 := H1_n
  have HRB := HRB_n
  have HB := HB_n
  clear HG_n H1_n HRB_n HB_n HBn hb
  have g0 := HG.out.at0.1
  have g1 := HG.out.at0.2
  have t0 := HRB.out.at.1
  have t1 := HRB.out.at.2.1
  have t2 := HRB.out.at.2.2
  go_wp2_with fail
  clear t0 t1 t2
  clear g0 g1
  refine (HRf.out b0 c0 b1 c1 b2 c2 _ HRB.out.rp).mono ?_
  rintro e w11 ⟨rfl, hb⟩
  have HBn : Hid (Below w10.heap.size w10 w11) := Lib.hid (hb)
  have HG_n := Lib.hid (HG.out.below HBn.out)
  have H1_n := Lib.hid (H1.out.below HBn.out (Nat.le_refl _))
  have HRB_n := Lib.hid (HRB.out.below HBn.out)
  have HB_n := Lib.hid (HB.out.trans (HBn.out.mono HB.out.size))
  clear HG H1 HRB HB
  have HG := HG_n
  have H1 := H1_n
  have HRB := HRB_n
  have HB := HB_n
  clear HG_n H1_n HRB_n HB_n HBn hb
  have g0 := HG.out.at0.1
  have g1 := HG.out.at0.2
  have t0 := HRB.out.at.1
  have t1 := HRB.out.at.2.1
  have t2 := HRB.out.at.2.2
  go_wp2_with fail
  clear t0 t1 t2
  clear g0 g1
  refine (HAw.out _).mono ?_
  rintro e w12 ⟨rfl, hb⟩
  have HBn : Hid (Below w11.heap.size w11 w12) := Lib.hid (hb)
  have HG_n := Lib.hid (HG.out.below HBn.out)
  have H1_n := Lib.hid (H1.out.below HBn.out (Nat.le_refl _))
  have HRB_n := Lib.hid (HRB.out.below HBn.out)
  have HB_n := Lib.hid (HB.out.trans (HBn.out.mono HB.out.size))
  clear HG H1 HRB HB
  have HG := HG_n
  have H1 := H1_n
  have HRB := HRB_n
  have HB := HB_n
  clear HG_n H1_n HRB_n HB_n HBn hb
  have g0 := HG.out.at0.1
  have g1 := HG.out.at0.2
  have t0 := HRB.out.at.1
  have t1 := HRB.out.at.2.1
  have t2 := HRB.out.at.2.2
  go_wp2_with fail
  clear t0 t1 t2
  clear g0 g1
  refine (HLn.out b0 c0 b1 c1 b2 c2 _ HRB.out.rp).mono ?_
  rintro e w13 ⟨rfl, hb⟩
  have HBn : Hid (Below w12.heap.size w12 w13) := Lib.hid (hb)
  have HG_n := Lib.hid (HG.out.below HBn.out)
  have H1_n := Lib.hid (H1.out.below HBn.out (Nat.le_refl _))
  have HRB_n := Lib.hid (HRB.out.below HBn.out)
  have HB_n := Lib.hid (HB.out.trans (HBn.out.mono HB.out.size))
  clear HG H1 HRB HB
  have HG := HG_n
  have H1 := H1_n
  have HRB := HRB_n
  have HB := HB_n
  clear HG_n H1_n HRB_n HB_n HBn hb
  have g0 := HG.out.at0.1
  have g1 := HG.out.at0.2
  have t0 := HRB.out.at.1
  have t1 := HRB.out.at.2.1
  have t2 := HRB.out.at.2.2
  go_wp2_with fail
  clear t0 t1 t2
  clear g0 g1
  refine (HMi.out _).mono ?_
  rintro e w14 ⟨rfl, hb⟩
  have HBn : Hid (Below w13.heap.size w13 w14) := Lib.hid (hb)
  have HG_n := Lib.hid (HG.out.below HBn.out)
  have H1_n := Lib.hid (H1.out.below HBn.out (Nat.le_refl _))
  have HRB_n := Lib.hid (HRB.out.below HBn.out)
  have HB_n := Lib.hid (HB.out.trans (HBn.out.mono HB.out.size))
  clear HG H1 HRB HB
  have HG := HG_n
  have H1 := H1_n
  have HRB := HRB_n
  have HB := HB_n
  clear HG_n H1_n HRB_n HB_n HBn hb
  have g0 := HG.out.at0.1
  have g1 := HG.out.at0.2
  have t0 := HRB.out.at.1
  have t1 := HRB.out.at.2.1
  have t2 := HRB.out.at.2.2
  go_wp2_with fail
  clear t0 t1 t2
  go_ret
  exact ⟨rfl, HB.out⟩

set_option maxRecDepth 100000 in
set_option maxHeartbeats 4000000 in
theorem falls_good (g : Nat) (hg : g < 17) (v1 : Value) (l1 : List Int) (s : Nat) (w : World) (h1 : Ints w v1 l1) (hw1 : wordB g l1 = true) (hsh : ln g (folI g l1) = l1.length) (hs : s < kM g) :
    Calls Try.prog 6 #[gV (kd g) (nm g), v1, .int .i64 (s : Nat)] w fun e w' => e = .returned (.bool true) ∧ Below w.heap.size w w' := by
  have q1 : l1.length ≤ 30 := by simp [wordB] at hw1; omega
  have hk4 := (tg hg).2.2.2.1
  have HOf := Lib.hid (fun W => Of_any (kd g) (nm g) W)
  have HLi := Lib.hid (fun v W h => listOk q1 v W h)
  have HF := Lib.hid (fun v W h => fine_any g hg v [l1] W h (by simp))
  rw [show [l1].all (wordB g) = true by simp [hw1]] at HF
  have HMi := Lib.hid (fun W => Mirrors_any g hg W)
  have HAw := Lib.hid (fun W => awake_any W)
  have HEl := Lib.hid (fun W => Elements_any g hg W)
  have hE := tE hg
  have hX := folI_lt hg hw1
  have hl12 := (tx hg hX).2.1
  have HFl := Lib.hid (fun v W h => Falls_ok g hg v l1 W h hw1)
  have htl : (toN l1).length = l1.length := by simp [toN]
  have hs0 : ¬ (s : Int) < 0 := by omega
  have hsk : ¬ ((kM g : Nat) : Int) ≤ (s : Int) := by omega
  obtain ⟨vv, ve, hvv⟩ : ∃ vv ve : Int, lvV (lvO g (folI g l1) s (toN l1)) = .tuple #[.int .i64 vv, .int .i64 ve] := by
    cases lvO g (folI g l1) s (toN l1) with
    | none => exact ⟨0, 4, rfl⟩
    | some k => exact ⟨k, 0, rfl⟩
  have HLv := Lib.hid (fun v W h => Leave_ok g hg v l1 s W h hw1 hsh hs)
  have HRl : Hid (∀ b0 c0 b1 c1 b2 c2 v W, RP W g b0 b1 b2 → Ints W v l1 → Calls Try.prog 45 #[rV g b0 c0 b1 c1 b2 c2, v, .int .i64 (s : Nat)] W fun e w' => e = .returned (lvV (lvO g (folI g l1) s (toN l1))) ∧ Below W.heap.size W w') := Lib.hid (fun b0 c0 b1 c1 b2 c2 v W h hv =>
    RLeave_any g b0 c0 b1 c1 b2 c2 hg v (toN l1) s W h (hv.toN (word_let hw1)) (toN_lt (word_let hw1)) (by omega) (by rw [htl]; exact hsh) hs)
  rw [hvv] at HLv HRl
  clear hvv htl
  have HNu : Hid (∀ b0 c0 b1 c1 b2 c2 v W, RP W g b0 b1 b2 → Ints W v l1 → Calls Try.prog 27 #[rV g b0 c0 b1 c1 b2 c2, .int .i64 0, v] W fun e w' => e = .returned (.int .i64 (folI g l1 : Nat)) ∧ Below W.heap.size W w') := Lib.hid (fun b0 c0 b1 c1 b2 c2 v W h hv =>
    Number_any g b0 c0 b1 c1 b2 c2 0 hg v (toN l1) W h hE.1 (hv.toN (word_let hw1)) (toN_lt (word_let hw1)))
  have HRf := Lib.hid (fun b0 c0 b1 c1 b2 c2 W h => RFalls_any g b0 c0 b1 c1 b2 c2 (folI g l1) hg W h hX)
  have HLn := Lib.hid (fun b0 c0 b1 c1 b2 c2 W h => Len_any g b0 c0 b1 c1 b2 c2 (folI g l1) hg W h hX)
  generalize flS g (folI g l1) (kM g) = fs at *
  rw [hsh] at HLn
  clear hsh hs
  generalize folI g l1 = X at *
  generalize kM g = kn at *
  obtain ⟨va1, vc1, rfl, _, _, _⟩ := h1.open
  have H10 := Lib.hid h1
  clear h1 hw1
  go_enter Try.func6, Try.ntmps6
  go_wp2_with fail
  refine (HOf.out _).mono ?_
  rintro e w1 ⟨rfl, hb⟩
  have HG : Hid (Blk 23 w1 w.heap.size #[.int .u8 (kd g), .int .i64 (nm g)]) := Lib.hid ((Blk.new _ _ _).below hb)
  have HB : Hid (Below w.heap.size w w1) := Lib.hid (bl1 hb)
  have H1 := Lib.hid (H10.out.below HB.out (Nat.le_refl _))
  clear hb H10
  have g0 := HG.out.at0.1
  have g1 := HG.out.at0.2
  go_wp2_with fail
  clear g0 g1
  refine (HLi.out _ _ H1.out).mono ?_
  rintro e w2 ⟨la, lc, rfl, hm1, hb⟩
  have HBn : Hid (Below w1.heap.size w1 w2) := Lib.hid (hb)
  have HG_n := Lib.hid (HG.out.below HBn.out)
  have H1_n := Lib.hid (H1.out.below HBn.out (Nat.le_refl _))
  have HB_n := Lib.hid (HB.out.trans (HBn.out.mono HB.out.size))
  clear HG H1 HB
  have HG := HG_n
  have H1 := H1_n
  have HB := HB_n
  clear HG_n H1_n HB_n HBn hb
  have HM1 := Lib.hid hm1
  clear hm1
  have g0 := HG.out.at0.1
  have g1 := HG.out.at0.2
  go_wp2_with fail
  clear g0 g1
  refine (HFl.out _ _ HM1.out).mono ?_
  rintro e w3 ⟨rfl, hb⟩
  have HBn : Hid (Below w2.heap.size w2 w3) := Lib.hid (hb)
  have HG_n := Lib.hid (HG.out.below HBn.out)
  have H1_n := Lib.hid (H1.out.below HBn.out (Nat.le_refl _))
  have HM1_n := Lib.hid (HM1.out.below HBn.out (Nat.le_refl _))
  have HB_n := Lib.hid (HB.out.trans (HBn.out.mono HB.out.size))
  clear HG H1 HM1 HB
  have HG := HG_n
  have H1 := H1_n
  have HM1 := HM1_n
  have HB := HB_n
  clear HG_n H1_n HM1_n HB_n HBn hb
  have g0 := HG.out.at0.1
  have g1 := HG.out.at0.2
  go_wp2_with fail
  clear HM1
  clear g0 g1
  refine (HOf.out _).mono ?_
  rintro e w4 ⟨rfl, hb⟩
  have HBn : Hid (Below w3.heap.size w3 w4) := Lib.hid (hb)
  have HG_n := Lib.hid (HG.out.below HBn.out)
  have H1_n := Lib.hid (H1.out.below HBn.out (Nat.le_refl _))
  have HB_n := Lib.hid (HB.out.trans (HBn.out.mono HB.out.size))
  clear HG H1 HB
  have HG := HG_n
  have H1 := H1_n
  have HB := HB_n
  clear HG_n H1_n HB_n HBn hb
  have g0 := HG.out.at0.1
  have g1 := HG.out.at0.2
  go_wp2_with fail
  clear g0 g1
  refine (HLi.out _ _ H1.out).mono ?_
  rintro e w5 ⟨la, lc, rfl, hm1, hb⟩
  have HBn : Hid (Below w4.heap.size w4 w5) := Lib.hid (hb)
  have HG_n := Lib.hid (HG.out.below HBn.out)
  have H1_n := Lib.hid (H1.out.below HBn.out (Nat.le_refl _))
  have HB_n := Lib.hid (HB.out.trans (HBn.out.mono HB.out.size))
  clear HG H1 HB
  have HG := HG_n
  have H1 := H1_n
  have HB := HB_n
  clear HG_n H1_n HB_n HBn hb
  have HM1 := Lib.hid hm1
  clear hm1
  have g0 := HG.out.at0.1
  have g1 := HG.out.at0.2
  go_wp2_with fail
  clear g0 g1
  refine (HLv.out _ _ HM1.out).mono ?_
  rintro e w6 ⟨rfl, hb⟩
  have HBn : Hid (Below w5.heap.size w5 w6) := Lib.hid (hb)
  have HG_n := Lib.hid (HG.out.below HBn.out)
  have H1_n := Lib.hid (H1.out.below HBn.out (Nat.le_refl _))
  have HM1_n := Lib.hid (HM1.out.below HBn.out (Nat.le_refl _))
  have HB_n := Lib.hid (HB.out.trans (HBn.out.mono HB.out.size))
  clear HG H1 HM1 HB
  have HG := HG_n
  have H1 := H1_n
  have HM1 := HM1_n
  have HB := HB_n
  clear HG_n H1_n HM1_n HB_n HBn hb
  have g0 := HG.out.at0.1
  have g1 := HG.out.at0.2
  go_wp2_with fail
  clear HM1
  clear g0 g1
  refine (HF.out _ _ (rows1 (Blk.new _ _ _) (H1.out.alloc _))).mono ?_
  rintro e w7 ⟨rfl, hb⟩
  have HBn : Hid (Below w6.heap.size w6 w7) := Lib.hid (bl1 hb)
  have HG_n := Lib.hid (HG.out.below HBn.out)
  have H1_n := Lib.hid (H1.out.below HBn.out (Nat.le_refl _))
  have HB_n := Lib.hid (HB.out.trans (HBn.out.mono HB.out.size))
  clear HG H1 HB
  have HG := HG_n
  have H1 := H1_n
  have HB := HB_n
  clear HG_n H1_n HB_n HBn hb
  have g0 := HG.out.at0.1
  have g1 := HG.out.at0.2
  go_wp2_with fail
  clear g0 g1
  refine (HEl.out _).mono ?_
  rintro e w8 ⟨tv, rfl, hrt, hb⟩
  have HBn : Hid (Below w7.heap.size w7 w8) := Lib.hid (hb)
  have HG_n := Lib.hid (HG.out.below HBn.out)
  have H1_n := Lib.hid (H1.out.below HBn.out (Nat.le_refl _))
  have HB_n := Lib.hid (HB.out.trans (HBn.out.mono HB.out.size))
  clear HG H1 HB
  have HG := HG_n
  have H1 := H1_n
  have HB := HB_n
  clear HG_n H1_n HB_n HBn hb
  have HRT := Lib.hid hrt
  clear hrt
  have g0 := HG.out.at0.1
  have g1 := HG.out.at0.2
  obtain ⟨b0, c0, b1, c1, b2, c2, rfl, hpp, hcc⟩ := HRT.out
  have HP : Hid (RP w8 g b0 b1 b2) := Lib.hid ⟨hpp.1, hpp.2.1, hpp.2.2⟩
  have HRB := Lib.hid (HP.out.box c0 c1 c2)
  have hbz : Below w8.heap.size w8 (w8.alloc (.cells #[.slice (some ⟨b0, 0, none⟩) (nE g) c0, .slice (some ⟨b1, 0, none⟩) (nE g) c1, .slice (some ⟨b2, 0, none⟩) (nE g) c2] 39)) := a1 _ _
  have HGz := Lib.hid (HG.out.below hbz)
  have H1z := Lib.hid (H1.out.below hbz (Nat.le_refl _))
  have HBz := Lib.hid (HB.out.trans (hbz.mono HB.out.size))
  clear hpp hcc HRT HP hbz g0 g1 H1 HB HG
  have HG := HGz
  have H1 := H1z
  have HB := HBz
  clear HGz H1z HBz
  unfold rV at HNu HRf HLn HRl
  go_wp2_with fail
  generalize w8.alloc (.cells #[.slice (some ⟨b0, 0, none⟩) (nE g) c0, .slice (some ⟨b1, 0, none⟩) (nE g) c1, .slice (some ⟨b2, 0, none⟩) (nE g) c2] 39) = w9 at *
  have g0 := HG.out.at0.1
  have g1 := HG.out.at0.2
  clear g0 g1
  refine (HNu.out b0 c0 b1 c1 b2 c2 _ _ HRB.out.rp H1.out).mono ?_
  rintro e w10 ⟨rfl, hb⟩
  have HBn : Hid (Below w9.heap.size w9 w10) := Lib.hid (hb)
  have HG_n := Lib.hid (HG.out.below HBn.out)
  have H1_n := Lib.hid (H1.out.below HBn.out (Nat.le_refl _))
  have HRB_n := Lib.hid (HRB.out.below HBn.out)
  have HB_n := Lib.hid (HB.out.trans (HBn.out.mono HB.out.size))
  clear HG H1 HRB HB
  have HG := HG_n
  have H1 := H1_n
  have HRB := HRB_n
  have HB := HB_n
  clear HG_n H1_n HRB_n HB_n HBn hb
  have g0 := HG.out.at0.1
  have g1 := HG.out.at0.2
  have t0 := HRB.out.at.1
  have t1 := HRB.out.at.2.1
  have t2 := HRB.out.at.2.2
  go_wp2_with fail
  clear t0 t1 t2
  clear g0 g1
  refine (HRf.out b0 c0 b1 c1 b2 c2 _ HRB.out.rp).mono ?_
  rintro e w11 ⟨rfl, hb⟩
  have HBn : Hid (Below w10.heap.size w10 w11) := Lib.hid (hb)
  have HG_n := Lib.hid (HG.out.below HBn.out)
  have H1_n := Lib.hid (H1.out.below HBn.out (Nat.le_refl _))
  have HRB_n := Lib.hid (HRB.out.below HBn.out)
  have HB_n := Lib.hid (HB.out.trans (HBn.out.mono HB.out.size))
  clear HG H1 HRB HB
  have HG := HG_n
  have H1 := H1_n
  have HRB := HRB_n
  have HB := HB_n
  clear HG_n H1_n HRB_n HB_n HBn hb
  have g0 := HG.out.at0.1
  have g1 := HG.out.at0.2
  have t0 := HRB.out.at.1
  have t1 := HRB.out.at.2.1
  have t2 := HRB.out.at.2.2
  go_wp2_with fail
  clear t0 t1 t2
  clear g0 g1
  refine (HAw.out _).mono ?_
  rintro e w12 ⟨rfl, hb⟩
  have HBn : Hid (Below w11.heap.size w11 w12) := Lib.hid (hb)
  have HG_n := Lib.hid (HG.out.below HBn.out)
  have H1_n := Lib.hid (H1.out.below HBn.out (Nat.le_refl _))
  have HRB_n := Lib.hid (HRB.out.below HBn.out)
  have HB_n := Lib.hid (HB.out.trans (HBn.out.mono HB.out.size))
  clear HG H1 HRB HB
  have HG := HG_n
  have H1 := H1_n
  have HRB := HRB_n
  have HB := HB_n
  clear HG_n H1_n HRB_n HB_n HBn hb
  have g0 := HG.out.at0.1
  have g1 := HG.out.at0.2
  have t0 := HRB.out.at.1
  have t1 := HRB.out.at.2.1
  have t2 := HRB.out.at.2.2
  go_wp2_with fail
  clear t0 t1 t2
  clear g0 g1
  refine (HLn.out b0 c0 b1 c1 b2 c2 _ HRB.out.rp).mono ?_
  rintro e w13 ⟨rfl, hb⟩
  have HBn : Hid (Below w12.heap.size w12 w13) := Lib.hid (hb)
  have HG_n := Lib.hid (HG.out.below HBn.out)
  have H1_n := Lib.hid (H1.out.below HBn.out (Nat.le_refl _))
  have HRB_n := Lib.hid (HRB.out.below HBn.out)
  have HB_n := Lib.hid (HB.out.trans (HBn.out.mono HB.out.size))
  clear HG H1 HRB HB
  have HG := HG_n
  have H1 := H1_n
  have HRB := HRB_n
  have HB := HB_n
  clear HG_n H1_n HRB_n HB_n HBn hb
  have g0 := HG.out.at0.1
  have g1 := HG.out.at0.2
  have t0 := HRB.out.at.1
  have t1 := HRB.out.at.2.1
  have t2 := HRB.out.at.2.2
  go_wp2_with fail
  clear t0 t1 t2
  clear g0 g1
  refine (HMi.out _).mono ?_
  rintro e w14 ⟨rfl, hb⟩
  have HBn : Hid (Below w13.heap.size w13 w14) := Lib.hid (hb)
  have HG_n := Lib.hid (HG.out.below HBn.out)
  have H1_n := Lib.hid (H1.out.below HBn.out (Nat.le_refl _))
  have HRB_n := Lib.hid (HRB.out.below HBn.out)
  have HB_n := Lib.hid (HB.out.trans (HBn.out.mono HB.out.size))
  clear HG H1 HRB HB
  have HG := HG_n
  have H1 := H1_n
  have HRB := HRB_n
  have HB := HB_n
  clear HG_n H1_n HRB_n HB_n HBn hb
  have g0 := HG.out.at0.1
  have g1 := HG.out.at0.2
  have t0 := HRB.out.at.1
  have t1 := HRB.out.at.2.1
  have t2 := HRB.out.at.2.2
  go_wp2_with fail
  clear t0 t1 t2
  clear g0 g1
  refine (HRl.out b0 c0 b1 c1 b2 c2 _ _ HRB.out.rp H1.out).mono ?_
  rintro e w15 ⟨rfl, hb⟩
  have HBn : Hid (Below w14.heap.size w14 w15) := Lib.hid (hb)
  have HG_n := Lib.hid (HG.out.below HBn.out)
  have H1_n := Lib.hid (H1.out.below HBn.out (Nat.le_refl _))
  have HRB_n := Lib.hid (HRB.out.below HBn.out)
  have HB_n := Lib.hid (HB.out.trans (HBn.out.mono HB.out.size))
  clear HG H1 HRB HB
  have HG := HG_n
  have H1 := H1_n
  have HRB := HRB_n
  have HB := HB_n
  clear HG_n H1_n HRB_n HB_n HBn hb
  have g0 := HG.out.at0.1
  have g1 := HG.out.at0.2
  have t0 := HRB.out.at.1
  have t1 := HRB.out.at.2.1
  have t2 := HRB.out.at.2.2
  go_wp2_with fail
  clear t0 t1 t2
  go_ret
  exact ⟨rfl, HB.out⟩

/-- THE LAW MirrorFalls. -/
theorem mirrorFalls_law (k n : Int) (v1 : Value) (l1 : List Int) (s : Int) (w : World) (h1 : Ints w v1 l1) :
    Calls Try.prog 6 #[gV k n, v1, .int .i64 s] w fun e w' => e = .returned (.bool true) ∧ Below w.heap.size w w' := by
  by_cases hk : grpB k n = true
  · obtain ⟨g, hg, rfl, rfl⟩ := grp_of hk
    cases hw1 : wordB g l1 with
    | true =>
      by_cases hsh : ln g (folI g l1) = l1.length
      · by_cases h0 : s < 0
        · exact falls_neg g hg v1 l1 s w h1 hw1 hsh h0
        · obtain ⟨s, rfl⟩ : ∃ q : Nat, s = (q : Nat) := ⟨s.toNat, by omega⟩
          by_cases hs : s < kM g
          · exact falls_good g hg v1 l1 s w h1 hw1 hsh hs
          · exact falls_big g hg v1 l1 s w h1 hw1 hsh (by omega)
      · exact falls_long g hg v1 l1 s w h1 hw1 hsh
    | false =>
      refine falls_bad _ _ v1 l1 s w h1 (.inr ⟨g, hg, rfl, rfl, by simp [word_take, hw1]⟩) fun v W h => ?_
      have := fine_any g hg v [l1] W h (by simp)
      rwa [show [l1].all (wordB g) = false by simp [hw1]] at this
  · exact falls_bad k n v1 l1 s w h1 (.inl (by simpa using hk)) fun v W _ => fine_none k n (Bool.eq_false_iff.2 hk) v W
end Go.Proofs.Ytlnbodpdgebflaa
