/- MirrorDiamonds -/
import Derived.Test.YtlnbodpdgebflaaDy
import Derived.Test.YtlnbodpdgebflaaPl
namespace Go.Proofs.Ytlnbodpdgebflaa
open Go.RowKit

theorem idx_before : ∀ (l : List Nat) (a i : Nat), i < l.idxOf a → l.getD i 0 ≠ a
  | [], a, i, h => by simp at h
  | b :: l, a, i, h => by
    rw [List.idxOf_cons] at h
    by_cases e : b = a
    · simp [e] at h
    · have e' : (b == a) = false := beq_eq_false_iff_ne.2 e
      rw [e'] at h
      cases i with
      | zero => simpa using e
      | succ i => simpa using idx_before l a i (by simpa using h)
theorem wd_inj {g x y : Nat} (hg : g < 17) (hx : x < nE g) (hy : y < nE g) (h : wd g x = wd g y) : x = y := by
  rw [← wd_fol hg hx, ← wd_fol hg hy, h]
theorem ln_posD {g x : Nat} (hg : g < 17) (hx : x < nE g) : ln g x = 0 ↔ x = 0 := by
  constructor
  · intro h
    have h1 : wd g x = [] := List.eq_nil_of_length_eq_zero h
    have := wd_fol hg hx
    rw [h1] at this
    exact this.symm
  · intro h; subst h; unfold ln; rw [(tg hg).2.2.2.2.2.2.2.1]; rfl
theorem idx_facts {g y : Nat} {l : List Nat} (hg : g < 17) (hl : ∀ x ∈ l, x < nE g) (hy : y < nE g) : l.idxOf y ≤ (l.map (wd g)).length ∧ (∀ i, i < l.idxOf y → (l.map (wd g)).getD i [] ≠ wd g y) ∧ (l.idxOf y < (l.map (wd g)).length → (l.map (wd g)).getD (l.idxOf y) [] = wd g y) := by
  refine ⟨by rw [List.length_map]; exact List.idxOf_le_length, fun i hi e => ?_, fun h => ?_⟩
  · have hlt : i < l.length := Nat.lt_of_lt_of_le hi List.idxOf_le_length
    have h1 := idx_before l y i hi
    simp only [List.getD_eq_getElem?_getD, List.getElem?_map, List.getElem?_eq_getElem hlt, Option.map_some, Option.getD_some] at e h1
    exact h1 (wd_inj hg (hl _ (List.getElem_mem hlt)) hy e)
  · rw [List.length_map] at h
    simp only [List.getD_eq_getElem?_getD, List.getElem?_map, List.getElem?_eq_getElem h, Option.map_some, Option.getD_some]
    rw [List.getElem_idxOf]

set_option maxRecDepth 100000 in
set_option maxHeartbeats 2000000 in
theorem diamonds_bad (k n : Int) (v1 : Value) (l1 : List Int) (w : World) (h1 : Ints w v1 l1) (hb0 : Bad k n [l1.take 34]) :
    Calls Try.prog 13 #[gV k n, v1] w fun e w' => e = .returned (.bool true) ∧ Below w.heap.size w w' := by
  have HOf := Lib.hid (fun W => Of_any k n W)
  have HLi := Lib.hid (fun v W h => listBad l1 v W h)
  have HCo := Lib.hid (fun v W h => Covers_bad k n v (l1.take 34) W h hb0)
  have HLn := Lib.hid (fun v W h => Length_bad k n v (l1.take 34) W h hb0)
  generalize l1.take 34 = m1 at *
  have HAw := Lib.hid (fun W => awake_any W)
  obtain ⟨va1, vc1, rfl, _, _, _⟩ := h1.open
  have H10 := Lib.hid h1
  clear h1 hb0
  go_enter Try.func13, Try.ntmps13
  go_wp2_with fail
  refine (HOf.out _).mono ?_
  rintro e w1 ⟨rfl, hb⟩
  have HG : Hid (Blk 23 w1 w.heap.size #[.int .u8 k, .int .i64 n]) := Lib.hid ((Blk.new _ _ _).below hb)
  have HB : Hid (Below w.heap.size w w1) := Lib.hid (bl1 hb)
  have H1 := Lib.hid (H10.out.below HB.out (Nat.le_refl _))
  clear hb H10
  have g0 := HG.out.at0.1
  have g1 := HG.out.at0.2
  go_wp2_with fail
  clear g0 g1
  refine (HLi.out _ _ H1.out).mono ?_
  rintro e w2 ⟨la, lc, rfl, hm1, hb⟩
  have HBn : Hid (Below w1.heap.size w1 w2) := Lib.hid (hb)
  have HG_n := Lib.hid (HG.out.below HBn.out)
  have H1_n := Lib.hid (H1.out.below HBn.out (Nat.le_refl _))
  have HB_n := Lib.hid (HB.out.trans (HBn.out.mono HB.out.size))
  clear HG H1 HB
  have HG := HG_n
  have H1 := H1_n
  have HB := HB_n
  clear HG_n H1_n HB_n HBn hb
  have HM1 := Lib.hid hm1
  clear hm1
  have g0 := HG.out.at0.1
  have g1 := HG.out.at0.2
  go_wp2_with fail
  clear g0 g1
  refine (HCo.out _ _ HM1.out).mono ?_
  rintro e w3 ⟨rfl, hb⟩
  have HBn : Hid (Below w2.heap.size w2 w3) := Lib.hid (hb)
  have HG_n := Lib.hid (HG.out.below HBn.out)
  have H1_n := Lib.hid (H1.out.below HBn.out (Nat.le_refl _))
  have HM1_n := Lib.hid (HM1.out.below HBn.out (Nat.le_refl _))
  have HB_n := Lib.hid (HB.out.trans (HBn.out.mono HB.out.size))
  clear HG H1 HM1 HB
  have HG := HG_n
  have H1 := H1_n
  have HM1 := HM1_n
  have HB := HB_n
  clear HG_n H1_n HM1_n HB_n HBn hb
  have g0 := HG.out.at0.1
  have g1 := HG.out.at0.2
  go_wp2_with fail
  clear HM1
  clear g0 g1
  refine (HOf.out _).mono ?_
  rintro e w4 ⟨rfl, hb⟩
  have HBn : Hid (Below w3.heap.size w3 w4) := Lib.hid (hb)
  have HG_n := Lib.hid (HG.out.below HBn.out)
  have H1_n := Lib.hid (H1.out.below HBn.out (Nat.le_refl _))
  have HB_n := Lib.hid (HB.out.trans (HBn.out.mono HB.out.size))
  clear HG H1 HB
  have HG := HG_n
  have H1 := H1_n
  have HB := HB_n
  clear HG_n H1_n HB_n HBn hb
  have g0 := HG.out.at0.1
  have g1 := HG.out.at0.2
  go_wp2_with fail
  clear g0 g1
  refine (HLi.out _ _ H1.out).mono ?_
  rintro e w5 ⟨la, lc, rfl, hm1, hb⟩
  have HBn : Hid (Below w4.heap.size w4 w5) := Lib.hid (hb)
  have HG_n := Lib.hid (HG.out.below HBn.out)
  have H1_n := Lib.hid (H1.out.below HBn.out (Nat.le_refl _))
  have HB_n := Lib.hid (HB.out.trans (HBn.out.mono HB.out.size))
  clear HG H1 HB
  have HG := HG_n
  have H1 := H1_n
  have HB := HB_n
  clear HG_n H1_n HB_n HBn hb
  have HM1 := Lib.hid hm1
  clear hm1
  have g0 := HG.out.at0.1
  have g1 := HG.out.at0.2
  go_wp2_with fail
  clear g0 g1
  refine (HLn.out _ _ HM1.out).mono ?_
  rintro e w6 ⟨rfl, hb⟩
  have HBn : Hid (Below w5.heap.size w5 w6) := Lib.hid (hb)
  have HG_n := Lib.hid (HG.out.below HBn.out)
  have H1_n := Lib.hid (H1.out.below HBn.out (Nat.le_refl _))
  have HM1_n := Lib.hid (HM1.out.below HBn.out (Nat.le_refl _))
  have HB_n := Lib.hid (HB.out.trans (HBn.out.mono HB.out.size))
  clear HG H1 HM1 HB
  have HG := HG_n
  have H1 := H1_n
  have HM1 := HM1_n
  have HB := HB_n
  clear HG_n H1_n HM1_n HB_n HBn hb
  have g0 := HG.out.at0.1
  have g1 := HG.out.at0.2
  go_wp2_with fail
  clear HM1
  clear g0 g1
  refine (HAw.out _).mono ?_
  rintro e w7 ⟨rfl, hb⟩
  have HBn : Hid (Below w6.heap.size w6 w7) := Lib.hid (hb)
  have HG_n := Lib.hid (HG.out.below HBn.out)
  have H1_n := Lib.hid (H1.out.below HBn.out (Nat.le_refl _))
  have HB_n := Lib.hid (HB.out.trans (HBn.out.mono HB.out.size))
  clear HG H1 HB
  have HG := HG_n
  have H1 := H1_n
  have HB := HB_n
  clear HG_n H1_n HB_n HBn hb
  have g0 := HG.out.at0.1
  have g1 := HG.out.at0.2
  go_wp2_with fail
  go_ret
  exact ⟨rfl, HB.out⟩

set_option maxRecDepth 100000 in
set_option maxHeartbeats 2000000 in
theorem diamonds_a (g : Nat) (hg : g < 17) (v1 : Value) (l1 : List Int) (w : World) (h1 : Ints w v1 l1) (hw1 : wordB g l1 = true) (hZ : (cvL g (folI g l1) (nE g)).length ≠ 0) :
    Calls Try.prog 13 #[gV (kd g) (nm g), v1] w fun e w' => e = .returned (.bool true) ∧ Below w.heap.size w w' := by
  have q1 : l1.length ≤ 30 := by simp [wordB] at hw1; omega
  have HOf := Lib.hid (fun W => Of_any (kd g) (nm g) W)
  have HLi := Lib.hid (fun v W h => listOk q1 v W h)
  have HAw := Lib.hid (fun W => awake_any W)
  have hX := folI_lt hg hw1
  have hl12 := (tx hg hX).2.1
  have HCo := Lib.hid (fun v W h => Covers_ok g hg v l1 W h hw1)
  have HLn := Lib.hid (fun v W h => Length_ok g hg v l1 W h hw1)
  obtain ⟨hd1, hd2, hd3⟩ := d_ok hg hX
  have hlp := ln_posD hg hX
  have hcz := hZ
  have HCn := Lib.hid (fun x v W (hx : x < nE g) h => Covers_new g hg v (nats (wd g x)) W h (word_wd hg hx))
  have HCl := Lib.hid (fun v zs W h => clone1_any v zs W h)
  have HTX := Lib.hid (fun x (hx : x < nE g) => (tx hg hx).2.1)
  have HFW := Lib.hid (fun x (hx : x < nE g) => folI_wd hg hx)
  have HC20 := Lib.hid (fun x (hx : x < nE g) => (d_ok hg hx).2.2)
  have hmem : ∀ u ∈ cvL g (folI g l1) (nE g), u < nE g ∧ ln g u + 1 = ln g (folI g l1) := fun u hu => by
    have h9 := List.mem_filter.1 hu
    have h8 := h9.2
    rw [Bool.and_eq_true, beq_iff_eq] at h8
    exact ⟨List.mem_range.1 h9.1, h8.1⟩
  generalize folI g l1 = X at *
  obtain ⟨nX, hnX⟩ : ∃ nX, nX = ln g X := ⟨_, rfl⟩
  rw [← hnX] at hl12 HLn hlp hmem
  clear hnX
  generalize cvL g X (nE g) = cv at *
  obtain ⟨cl, hcl⟩ : ∃ cl, cl = cv.length := ⟨_, rfl⟩
  rw [← hcl] at HCo hd2 hd3 hcz
  have HCLN := Lib.hid hcl
  have HMEM := Lib.hid hmem
  have HD1 := Lib.hid hd1
  have hc1 : 0 < cl := by omega
  have hc2 : 0 < nX := by
    have : nX ≠ 0 := fun q => hcz (hd2.2 (hlp.1 q))
    omega
  have hc3 : (!decide (0 < cl) == decide (0 < nX)) = false := by rw [decide_eq_true hc1, decide_eq_true hc2]; rfl
  have hbd : ∀ u ∈ cv, nX ≠ 0 := fun u hu => by have := (hmem u hu).2; omega
  have HBD := Lib.hid hbd
  clear hcl hmem hd1 hd2 hlp hbd hcz hZ
  obtain ⟨va1, vc1, rfl, _, _, _⟩ := h1.open
  have H10 := Lib.hid h1
  clear h1 hw1
  obtain ⟨i0, hi0, hz0, hz1, hz2⟩ := info_parts Try.info3
  obtain ⟨i24, hi24, hy0, hy1, hy2⟩ := info_parts Try.info24
  go_enter Try.func13, Try.ntmps13
  go_wp2_with fail
  refine (HOf.out _).mono ?_
  rintro e w1 ⟨rfl, hb⟩
  have HG : Hid (Blk 23 w1 w.heap.size #[.int .u8 (kd g), .int .i64 (nm g)]) := Lib.hid ((Blk.new _ _ _).below hb)
  have HB : Hid (Below w.heap.size w w1) := Lib.hid (bl1 hb)
  have H1 := Lib.hid (H10.out.below HB.out (Nat.le_refl _))
  clear hb H10
  have g0 := HG.out.at0.1
  have g1 := HG.out.at0.2
  go_wp2_with fail
  clear g0 g1
  refine (HLi.out _ _ H1.out).mono ?_
  rintro e w2 ⟨la, lc, rfl, hm1, hb⟩
  have HBn : Hid (Below w1.heap.size w1 w2) := Lib.hid (hb)
  have HG_n := Lib.hid (HG.out.below HBn.out)
  have H1_n := Lib.hid (H1.out.below HBn.out (Nat.le_refl _))
  have HB_n := Lib.hid (HB.out.trans (HBn.out.mono HB.out.size))
  clear HG H1 HB
  have HG := HG_n
  have H1 := H1_n
  have HB := HB_n
  clear HG_n H1_n HB_n HBn hb
  have HM1 := Lib.hid hm1
  clear hm1
  have g0 := HG.out.at0.1
  have g1 := HG.out.at0.2
  go_wp2_with fail
  clear g0 g1
  refine (HCo.out _ _ HM1.out).mono ?_
  rintro e w3 ⟨sa, sc, rfl, hsw, hb⟩
  have HBn : Hid (Below w2.heap.size w2 w3) := Lib.hid (hb)
  have HG_n := Lib.hid (HG.out.below HBn.out)
  have H1_n := Lib.hid (H1.out.below HBn.out (Nat.le_refl _))
  have HM1_n := Lib.hid (HM1.out.below HBn.out (Nat.le_refl _))
  have HB_n := Lib.hid (HB.out.trans (HBn.out.mono HB.out.size))
  clear HG H1 HM1 HB
  have HG := HG_n
  have H1 := H1_n
  have HM1 := HM1_n
  have HB := HB_n
  clear HG_n H1_n HM1_n HB_n HBn hb
  have HSW := Lib.hid hsw
  clear hsw
  have g0 := HG.out.at0.1
  have g1 := HG.out.at0.2
  go_wp2_with fail
  clear HM1
  clear g0 g1
  refine (HOf.out _).mono ?_
  rintro e w4 ⟨rfl, hb⟩
  have HBn : Hid (Below w3.heap.size w3 w4) := Lib.hid (hb)
  have HG_n := Lib.hid (HG.out.below HBn.out)
  have H1_n := Lib.hid (H1.out.below HBn.out (Nat.le_refl _))
  have HSW_n := Lib.hid (HSW.out.below HBn.out (Nat.le_refl _))
  have HB_n := Lib.hid (HB.out.trans (HBn.out.mono HB.out.size))
  clear HG H1 HSW HB
  have HG := HG_n
  have H1 := H1_n
  have HSW := HSW_n
  have HB := HB_n
  clear HG_n H1_n HSW_n HB_n HBn hb
  have g0 := HG.out.at0.1
  have g1 := HG.out.at0.2
  go_wp2_with fail
  clear g0 g1
  refine (HLi.out _ _ H1.out).mono ?_
  rintro e w5 ⟨la, lc, rfl, hm1, hb⟩
  have HBn : Hid (Below w4.heap.size w4 w5) := Lib.hid (hb)
  have HG_n := Lib.hid (HG.out.below HBn.out)
  have H1_n := Lib.hid (H1.out.below HBn.out (Nat.le_refl _))
  have HSW_n := Lib.hid (HSW.out.below HBn.out (Nat.le_refl _))
  have HB_n := Lib.hid (HB.out.trans (HBn.out.mono HB.out.size))
  clear HG H1 HSW HB
  have HG := HG_n
  have H1 := H1_n
  have HSW := HSW_n
  have HB := HB_n
  clear HG_n H1_n HSW_n HB_n HBn hb
  have HM1 := Lib.hid hm1
  clear hm1
  have g0 := HG.out.at0.1
  have g1 := HG.out.at0.2
  go_wp2_with fail
  clear g0 g1
  refine (HLn.out _ _ HM1.out).mono ?_
  rintro e w6 ⟨rfl, hb⟩
  have HBn : Hid (Below w5.heap.size w5 w6) := Lib.hid (hb)
  have HG_n := Lib.hid (HG.out.below HBn.out)
  have H1_n := Lib.hid (H1.out.below HBn.out (Nat.le_refl _))
  have HSW_n := Lib.hid (HSW.out.below HBn.out (Nat.le_refl _))
  have HM1_n := Lib.hid (HM1.out.below HBn.out (Nat.le_refl _))
  have HB_n := Lib.hid (HB.out.trans (HBn.out.mono HB.out.size))
  clear HG H1 HSW HM1 HB
  have HG := HG_n
  have H1 := H1_n
  have HSW := HSW_n
  have HM1 := HM1_n
  have HB := HB_n
  clear HG_n H1_n HSW_n HM1_n HB_n HBn hb
  have g0 := HG.out.at0.1
  have g1 := HG.out.at0.2
  go_wp2_with fail
  clear HM1
  clear g0 g1
  obtain ⟨_, _, e, hscap, _, hsx⟩ := SlOf.open HSW.out
  rw [List.length_map, ← HCLN.out] at e
  simp only [Value.slice.injEq] at e
  obtain ⟨rfl, -, rfl⟩ := e
  have HSX := Lib.hid hsx
  clear hsx hscap
  go_loopw [59, 9, 10] (fun i v vt wr => ∃ k : Nat, k ≤ cl ∧ i = .int .i64 k ∧ Met wr w6.heap.size g v vt (dRn g (cv.take k)) ∧ DOk g (20 * k) (dRn g (cv.take k)) ∧ Below w6.heap.size w6 wr) (fun i _ _ _ => cl - (intOf i).toNat)
  case atStart => exact ⟨0, Nat.zero_le _, rfl, Met.nil _ _ _, ⟨rfl, by simp [dRn], by simp [dRn], by simp [dRn]⟩, Below.refl _ _⟩
  case round =>
    obtain ⟨k, hk, rfl, hM, hD, hb⟩ := hrel
    by_cases hkl : k < cl
    · obtain ⟨x, hx⟩ : ∃ x, cv[k]? = some x := ⟨cv[k]'(by rw [← HCLN.out]; exact hkl), by simp⟩
      obtain ⟨hxn, hxl⟩ := HMEM.out x (List.mem_of_getElem? hx)
      have hn0 := HBD.out x (List.mem_of_getElem? hx)
      obtain ⟨xb, xo, xu, rfl, hck, hxu⟩ := HSX.out k (wd g x) (by rw [List.getElem?_map, hx]; rfl)
      have c1 := ck hck hb
      have hwl : (wd g x).length = ln g x := rfl
      have hxu2 := Ints.below hxu hb (Nat.le_refl _)
      obtain ⟨xa, xc, rfl, _, _, _⟩ := Nats.open hxu
      rw [hwl] at c1
      have HXU := Lib.hid hxu2
      have HI64 : Hid (∀ z ∈ nats (wd g x), I64 z) := Lib.hid hxu.2
      have hxlen := HTX.out x hxn
      have HTK : Hid (cv.take (k + 1) = cv.take k ++ [x]) := Lib.hid (by rw [List.take_add_one, hx]; rfl)
      have HCx := Lib.hid (fun v W h => HCn.out x v W hxn h)
      rw [HFW.out x hxn] at HCx
      have hcx20 := HC20.out x hxn
      have HCM : Hid (∀ u ∈ cvL g x (nE g), u < nE g) := Lib.hid fun u hu => cvL_lt hu
      have HGr := Lib.hid (HG.out.below hb)
      have HBr := Lib.hid hb
      have HM := Lib.hid hM
      have HD := Lib.hid hD
      have HCLx := Lib.hid (fun W (hb9 : Below wr.heap.size wr W) => HCl.out (.slice xa (wd g x).length xc) (nats (wd g x)) W (Ints.below hxu2 hb9 (Nat.le_refl _)))
      rw [nats_length, hwl] at HCLx
      have hle : ((ln g x : Int) != (nX : Int) - 1) = false := by rw [bne_eq_false_iff_eq]; omega
      generalize hp0 : dRn g (cv.take k) = p0 at *
      have HP0 := Lib.hid hp0
      have g0 := HGr.out.at0.1
      have g1 := HGr.out.at0.2
      clear hx hck hxu hxu2 hb hM hD hp0 hwl
      obtain ⟨lx, hlx⟩ : ∃ lx, lx = ln g x := ⟨_, rfl⟩
      rw [← hlx] at c1 HCLx hle hxl hxlen
      have HLX := Lib.hid hlx
      clear hlx
      go_wp2_with fail
      refine (HOf.out _).mono ?_
      rintro e wa ⟨rfl, hb⟩
      have hba : Below wr.heap.size wr wa := hb
      have HBa := Lib.hid hba
      have HMa := Lib.hid (HM.out.below hba)
      clear hb hba g0 g1
      go_wp2_with fail
      refine (HCLx.out _ HBa.out).mono ?_
      rintro e wb ⟨ca, cc, rfl, hown, hb⟩
      have HBb := Lib.hid (HBa.out.trans (hb.mono HBa.out.size))
      have HMb := Lib.hid (HMa.out.below hb)
      have HIb := Lib.hid (Ints.of_owns hown (by omega) HI64.out)
      clear hown hb HMa HBa
      go_wp2_with fail
      refine (HCx.out _ _ HIb.out).mono ?_
      rintro e wc ⟨ma, mc, rfl, hro, hb⟩
      have HMc := Lib.hid (HMb.out.below hb)
      have HFc := Lib.hid (Far.of HMb.out hro)
      have HBc := Lib.hid (HBr.out.trans ((HBb.out.trans (hb.mono HBb.out.size)).mono HBr.out.size))
      clear hro hb HMb HIb HCLx
      obtain ⟨cx, hcx⟩ : ∃ cx, cx = cvL g x (nE g) := ⟨_, rfl⟩
      have HCX := Lib.hid hcx
      rw [← hcx] at HFc HCM hcx20
      rw [← hcx]
      clear hcx
      obtain ⟨ml, hml⟩ : ∃ ml, ml = cx.length := ⟨_, rfl⟩
      rw [← hml] at hcx20 HFc
      rw [← hml]
      have HML := Lib.hid hml
      clear hml
      go_wp2_with fail
      go_loopw [80, 9, 10] (fun i v vt wi => ∃ j : Nat, j ≤ ml ∧ i = .int .i64 j ∧ Met wi w6.heap.size g v vt (dAl (cx.take j) p0) ∧ Far wi g v vt (.slice ma ml mc) cx ∧ DOk g (20 * k + j) (dAl (cx.take j) p0) ∧ Below w6.heap.size w6 wi) (fun i _ _ _ => ml - (intOf i).toNat)
      case atStart => exact ⟨0, Nat.zero_le _, rfl, HMc.out, HFc.out, HD.out, HBc.out⟩
      case round =>
        rename World => wi
        clear HMc HFc HBc HM HD
        obtain ⟨j, hj, rfl, hM, hF, hD, hb⟩ := hrel
        by_cases hjl : j < ml
        · obtain ⟨y, hy⟩ : ∃ y, cx[j]? = some y := ⟨cx[j]'(by rw [← HML.out]; exact hjl), by simp⟩
          have hyn := HCM.out y (List.mem_of_getElem? hy)
          have HTJ : Hid (dAl (cx.take (j + 1)) p0 = dSt (dAl (cx.take j) p0) y) := Lib.hid (by rw [List.take_add_one, hy]; exact dAl_snoc _ _ _)
          generalize dAl (cx.take j) p0 = p at *
          obtain ⟨us, f1, f0, f2⟩ := hF
          have hFar : Far wi g u9 u10 (.slice ma ml mc) cx := ⟨us, f1, f0, f2⟩
          obtain ⟨b9, c9, e9, _⟩ := own_lit f1 (by rw [← HML.out]; omega)
          simp only [Value.slice.injEq] at e9
          obtain ⟨rfl, -, rfl⟩ := e9
          have husl : us.length = cx.length := by have := f1.1; omega
          obtain ⟨u, hu⟩ : ∃ u, us[j]? = some u := ⟨us[j]'(by rw [husl, ← HML.out]; exact hjl), by simp⟩
          have t1 : wi.cell? ⟨b9, j, none⟩ = some u := by
            have f1' := f1
            rw [← HML.out] at f1'
            rw [World.ownsRow.cellAt f1' j (by omega), hu]
          obtain ⟨hq1, hq2⟩ := f2 j u y hu hy
          obtain ⟨ya, yc, rfl⟩ := owns_form hq1
          have hwy : (wd g y).length = ln g y := rfl
          rw [hwy] at hq1 hq2 t1
          have hly := HTX.out y hyn
          have hdel := hD.el
          have hdle : p.1.length ≤ 1000 := by have := hD.le; omega
          have hdl := hD.len
          have hMa := hM.below (a1 wi (.cells #[.slice ya (ln g y) yc] 24))
          have hNa : Nats (wi.alloc (.cells #[.slice ya (ln g y) yc] 24)) (.slice ya (ln g y) yc) (wd g y) := Bg.nats (owns_below hq1 (a1 wi _) (Nat.le_refl _)) (by rw [hwy]; omega) (wd_bd hg hyn)
          have hbx : (wi.alloc (.cells #[.slice ya (ln g y) yc] 24)).cell? ⟨wi.heap.size, 0, none⟩ = some (.slice ya (ln g y) yc) := by simp
          obtain ⟨hi1, hi2, hi3⟩ := idx_facts hg hdel hyn
          have HIX := Lib.hid (idx_any wi.heap.size (p.1.idxOf y) u9 _ (p.1.map (wd g)) (wd g y) _ (hMa.read hg hdel (by omega)) hNa hbx hi1 hi2 hi3 (by rw [List.length_map]; omega))
          rw [List.length_map] at HIX hi1
          have HM1 := Lib.hid hM
          have HF1 := Lib.hid hFar
          have HQ1 := Lib.hid hq1
          have HQ2 := Lib.hid hq2
          have HD2 : Hid (DOk g (20 * k + (j + 1)) (dSt p y)) := Lib.hid (hD.step hyn)
          have HTM : Hid (∀ q ∈ p.2, q ≤ 20 * k + j) := Lib.hid hD.tm
          have HBi := Lib.hid hb
          have HBX := Lib.hid hbx
          clear hy hM hFar f1 f0 f2 hu hq1 hq2 hMa hNa hbx hi2 hi3 hdel hD hb husl hwy
          generalize hr : p.1.idxOf y = r at *
          have HRR := Lib.hid hr
          clear hr
          obtain ⟨lp, hlp⟩ : ∃ lp, lp = p.1.length := ⟨_, rfl⟩
          rw [← hlp] at HIX hi1 hdle hdl
          have HLP := Lib.hid hlp
          clear hlp
          generalize ln g y = ly at *
          go_wp2_with fail
          refine HIX.out.mono ?_
          clear HIX
          rintro e w7 ⟨rfl, hb7⟩
          have hb17 : Below wi.heap.size wi w7 := (a1 wi _).trans (hb7.mono (by simp))
          have HM7 := Lib.hid (HM1.out.below hb17)
          have HF7 := Lib.hid (HF1.out.below hb17)
          have HB7 := Lib.hid (HBi.out.trans (hb17.mono HBi.out.size))
          have HQ7 := Lib.hid (owns_below HQ1.out hb17 (Nat.le_refl _))
          have c16 := ck HBX.out hb7
          clear hb7 hb17 HM1 HF1 HBi HQ1 HBX t1
          by_cases hrl : r < lp
          · rw [if_pos hrl]
            have HDS : Hid (dSt p y = (p.1, p.2.set r (p.2.getD r 0 + 1))) := Lib.hid (by unfold dSt; rw [HRR.out, ← HLP.out, if_pos hrl])
            obtain ⟨hm1, hm3⟩ := HM7.out
            have hr2 : r < p.2.length := by omega
            obtain ⟨bt, ct, rfl, _⟩ := own_lit hm3 (by omega)
            have t0 := World.ownsRow.cellAt hm3 r (by omega)
            have ht2 : (ints (nats p.2))[r]? = some (.int .i64 (p.2.getD r 0 : Nat)) := by simp [ints, nats, List.getElem?_eq_getElem hr2, List.getD_eq_getElem?_getD]
            rw [ht2] at t0
            have t1 := World.ownsRow.frozenAt hm3 r
            have hz9 := HTM.out _ (natD_mem hr2)
            have hms := HM7.out.set (i := r) (k := p.2.getD r 0 + 1)
            have hfs := Far.set (i := r) (q := .int .i64 ((p.2.getD r 0 + 1 : Nat) : Int)) HF7.out hm3
            have hge9 := (World.ownsRow.lt hm3 bt rfl).1
            have hbs := below_cell HB7.out (a := ⟨bt, r, none⟩) hge9 (.int .i64 ((p.2.getD r 0 + 1 : Nat) : Int))
            rw [← HDS.out, ← HTJ.out] at hms
            rw [← HTJ.out] at HD2
            rw [show ((p.2.getD r 0 + 1 : Nat) : Int) = ((p.2.getD r 0 : Nat) : Int) + 1 by omega] at hms hfs hbs
            have HMS := Lib.hid hms
            have HFS := Lib.hid hfs
            have HBS := Lib.hid hbs
            clear hms hfs hbs hm1 hm3 ht2 HDS HM7 HF7 HB7 HQ7 c16
            generalize p.2.getD r 0 = z9 at *
            rw [hdl] at hrl
            go_wp2_with fail
            go_roundw
            case rel => exact ⟨j + 1, by omega, by go_num, HMS.out, HFS.out, HD2.out, HBS.out⟩
            case measure => simp [intOf]; omega
          · rw [if_neg hrl]
            have HDS : Hid (dSt p y = (p.1 ++ [y], p.2 ++ [1])) := Lib.hid (by unfold dSt; rw [HRR.out, ← HLP.out, if_neg hrl])
            have hmA := HM7.out.below (a1 w7 (.cells #[.slice ya ly yc] 24))
            have hfA := HF7.out.below (a1 w7 (.cells #[.slice ya ly yc] 24))
            obtain ⟨⟨vs, m1, m2⟩, m3⟩ := hmA
            have HS1 := Lib.hid m1
            have HS2 := Lib.hid m2
            have HS3 := Lib.hid m3
            have HFA := Lib.hid hfA
            have HQA := Lib.hid (owns_below HQ7.out (a1 w7 (.cells #[.slice ya ly yc] 24)) (Nat.le_refl _))
            have HBA := Lib.hid (HB7.out.alloc HB7.out.size (.cells #[.slice ya ly yc] 24))
            have hpl : p.1.length ≤ 1000 := by rw [← HLP.out]; exact hdle
            have hpl2 : p.2.length ≤ 1000 := by omega
            clear m1 m2 m3 hfA HM7 HF7 HQ7 HB7
            go_wp2_with (first
              | (at_builtin
                 refine wpList_append_own_at _ rfl _ _ 33 rfl w6.heap.size 24 i24 (.slice none 0 0) 1 24 Try.underlying33 hi24 hy0 hy1 hy2 rfl (by decide) u9 p.1.length vs rfl HS1.out ⟨w7.heap.size, 0, none⟩ 1 1 [.slice ya ly yc] rfl rfl (newOne _ _ _) (by intro u hu; simp at hu; subst hu; rfl) (by unfold maxLen; omega) (by omega) HBA.out.size ?_
                 intro v9 w9 hown9 hg9 _ hloc9
                 have HO9 := Lib.hid hown9
                 have HG9 := Lib.hid hg9
                 have HL9 := Lib.hid hloc9
                 have HT9 := Lib.hid ((World.ownsRow.kept HS3.out hg9 (own_own HS3.out HS1.out (by decide))).alloc (.cells #[.int .i64 1] 3))
                 have HB9 := Lib.hid (((HBA.out.grown hg9 HBA.out.size fun q e => (HS1.out.lt q e).1)).alloc (Nat.le_trans HBA.out.size hg9.size) (.cells #[.int .i64 1] 3))
                 clear hown9 hg9 hloc9)
              | (at_builtin
                 refine wpList_append_own_at _ rfl _ _ 24 rfl w6.heap.size 3 i0 (.int .i64 0) 1 8 Try.underlying24 hi0 hz0 hz1 hz2 rfl (by decide) u10 p.2.length (ints (nats p.2)) rfl HT9.out ⟨w9.heap.size, 0, none⟩ 1 1 [.int .i64 1] rfl rfl (newOne _ _ _) (oneInt _) (by unfold maxLen; omega) (by omega) HB9.out.size ?_
                 intro v10 w10 hown10 hg10 _ hloc10
                 have HM10 := Lib.hid (Met.push HS1.out HS2.out HS3.out HQA.out HQ2.out HG9.out HO9.out hg10 hown10 hloc10)
                 have HF10 := Lib.hid (Far.push HFA.out HS1.out HS3.out HG9.out HL9.out hg10 hloc10)
                 have HB10 := Lib.hid (HB9.out.grown hg10 HB9.out.size fun q e => (HT9.out.lt q e).1)
                 rw [← HDS.out, ← HTJ.out] at HM10
                 rw [← HTJ.out] at HD2
                 clear hown10 hg10 hloc10)
              | fail)
            go_roundw
            case rel => exact ⟨j + 1, by omega, by go_num, HM10.out, HF10.out, HD2.out, HB10.out⟩
            case measure => simp [intOf]; omega
        · have hjj : j = ml := by omega
          have hnl : ¬ (j : Int) < (ml : Int) := by omega
          rw [hjj, HML.out, List.take_length, HCX.out, ← HP0.out, ← dRn_snoc, ← HTK.out] at hM hD
          have HM9 := Lib.hid hM
          have h20 := HC20.out x hxn
          have HD9 : Hid (DOk g (20 * (k + 1)) (dRn g (cv.take (k + 1)))) := Lib.hid ⟨hD.len, hD.el, by have := hD.le; omega, fun q hq => by have := hD.tm q hq; omega⟩
          have HB9 := Lib.hid hb
          clear hM hF hD hb hjj
          go_wp2_with fail
          go_roundw
          case rel => exact ⟨k + 1, by omega, by go_num, HM9.out, HD9.out, HB9.out⟩
          case measure => simp [intOf]; omega
    · have hkk : k = cl := by omega
      have hnl : ¬ (k : Int) < (cl : Int) := by omega
      rw [hkk, HCLN.out, List.take_length] at hM hD
      have htl9 : (dRn g cv).2.length ≤ 1000 := by have := hD.len; have := hD.le; have := HCLN.out; omega
      obtain ⟨_, hm3⟩ := hM
      obtain ⟨ta, tc, rfl⟩ := owns_form hm3
      have HB1 := Lib.hid (HB.out.trans (hb.mono HB.out.size))
      have HM3 := Lib.hid hm3
      have h2 := HD1.out
      have HALL : Hid (∀ q, q < (dRn g cv).2.length → (ints (nats (dRn g cv).2))[q]? = some (.int .i64 2)) := Lib.hid fun q hq => by
        have h9 := h2 _ (natD_mem hq)
        rw [List.getD_eq_getElem?_getD, List.getElem?_eq_getElem hq] at h9
        simp only [Option.getD_some] at h9
        simp [ints, nats, List.getElem?_eq_getElem hq, h9]
      generalize (dRn g cv).2 = tm at *
      obtain ⟨tl, htl⟩ : ∃ tl, tl = tm.length := ⟨_, rfl⟩
      rw [← htl] at HM3 HALL htl9
      rw [← htl]
      clear htl hm3 hD hb hkk h2
      go_wp2_with fail
      go_loop [106] (fun i => ∃ j : Nat, j ≤ tl ∧ i = .int .i64 j) (fun i => tl - (intOf i).toNat)
      case atStart => exact ⟨0, Nat.zero_le _, rfl⟩
      case round =>
        obtain ⟨j, hj, rfl⟩ := hrel
        by_cases hjl : j < tl
        · obtain ⟨bt, ct, e9, _⟩ := own_lit HM3.out (by omega)
          simp only [Value.slice.injEq, true_and] at e9
          obtain ⟨rfl, rfl⟩ := e9
          have t0 := World.ownsRow.cellAt HM3.out j (by omega)
          rw [HALL.out j hjl] at t0
          go_wp2_with fail
          go_round
          case rel => exact ⟨j + 1, by omega, by go_num⟩
          case measure => simp [intOf]; omega
        · have hnl2 : ¬ (j : Int) < (tl : Int) := by omega
          go_wp2_with fail
          refine (HAw.out _).mono ?_
          rintro e w9 ⟨rfl, hb⟩
          have HB9 := Lib.hid (HB1.out.trans (hb.mono HB1.out.size))
          clear hb
          go_wp2_with fail
          go_ret
          exact ⟨rfl, HB9.out⟩


set_option maxRecDepth 100000 in
set_option maxHeartbeats 2000000 in
theorem diamonds_b (g : Nat) (hg : g < 17) (v1 : Value) (l1 : List Int) (w : World) (h1 : Ints w v1 l1) (hw1 : wordB g l1 = true) (hZ : (cvL g (folI g l1) (nE g)).length = 0) :
    Calls Try.prog 13 #[gV (kd g) (nm g), v1] w fun e w' => e = .returned (.bool true) ∧ Below w.heap.size w w' := by
  have q1 : l1.length ≤ 30 := by simp [wordB] at hw1; omega
  have HOf := Lib.hid (fun W => Of_any (kd g) (nm g) W)
  have HLi := Lib.hid (fun v W h => listOk q1 v W h)
  have HAw := Lib.hid (fun W => awake_any W)
  have hX := folI_lt hg hw1
  have hl12 := (tx hg hX).2.1
  have HCo := Lib.hid (fun v W h => Covers_ok g hg v l1 W h hw1)
  have HLn := Lib.hid (fun v W h => Length_ok g hg v l1 W h hw1)
  obtain ⟨hd1, hd2, hd3⟩ := d_ok hg hX
  have hlp := ln_posD hg hX
  have hcz := hZ
  have HCn := Lib.hid (fun x v W (hx : x < nE g) h => Covers_new g hg v (nats (wd g x)) W h (word_wd hg hx))
  have HCl := Lib.hid (fun v zs W h => clone1_any v zs W h)
  have HTX := Lib.hid (fun x (hx : x < nE g) => (tx hg hx).2.1)
  have HFW := Lib.hid (fun x (hx : x < nE g) => folI_wd hg hx)
  have HC20 := Lib.hid (fun x (hx : x < nE g) => (d_ok hg hx).2.2)
  have hmem : ∀ u ∈ cvL g (folI g l1) (nE g), u < nE g ∧ ln g u + 1 = ln g (folI g l1) := fun u hu => by
    have h9 := List.mem_filter.1 hu
    have h8 := h9.2
    rw [Bool.and_eq_true, beq_iff_eq] at h8
    exact ⟨List.mem_range.1 h9.1, h8.1⟩
  generalize folI g l1 = X at *
  obtain ⟨nX, hnX⟩ : ∃ nX, nX = ln g X := ⟨_, rfl⟩
  rw [← hnX] at hl12 HLn hlp hmem
  clear hnX
  generalize cvL g X (nE g) = cv at *
  obtain ⟨cl, hcl⟩ : ∃ cl, cl = cv.length := ⟨_, rfl⟩
  rw [← hcl] at HCo hd2 hd3 hcz
  have HCLN := Lib.hid hcl
  have HMEM := Lib.hid hmem
  have HD1 := Lib.hid hd1
  have hc1 : ¬ 0 < cl := by omega
  have hc2 : ¬ 0 < nX := by
    have : nX = 0 := hlp.2 (hd2.1 hcz)
    omega
  have hc3 : (!decide (0 < cl) == decide (0 < nX)) = false := by rw [decide_eq_false hc1, decide_eq_false hc2]; rfl
  have hbd : ∀ u ∈ cv, nX ≠ 0 := fun u hu => by have := (hmem u hu).2; omega
  have HBD := Lib.hid hbd
  clear hcl hmem hd1 hd2 hlp hbd hcz hZ
  obtain ⟨va1, vc1, rfl, _, _, _⟩ := h1.open
  have H10 := Lib.hid h1
  clear h1 hw1
  obtain ⟨i0, hi0, hz0, hz1, hz2⟩ := info_parts Try.info3
  obtain ⟨i24, hi24, hy0, hy1, hy2⟩ := info_parts Try.info24
  go_enter Try.func13, Try.ntmps13
  go_wp2_with fail
  refine (HOf.out _).mono ?_
  rintro e w1 ⟨rfl, hb⟩
  have HG : Hid (Blk 23 w1 w.heap.size #[.int .u8 (kd g), .int .i64 (nm g)]) := Lib.hid ((Blk.new _ _ _).below hb)
  have HB : Hid (Below w.heap.size w w1) := Lib.hid (bl1 hb)
  have H1 := Lib.hid (H10.out.below HB.out (Nat.le_refl _))
  clear hb H10
  have g0 := HG.out.at0.1
  have g1 := HG.out.at0.2
  go_wp2_with fail
  clear g0 g1
  refine (HLi.out _ _ H1.out).mono ?_
  rintro e w2 ⟨la, lc, rfl, hm1, hb⟩
  have HBn : Hid (Below w1.heap.size w1 w2) := Lib.hid (hb)
  have HG_n := Lib.hid (HG.out.below HBn.out)
  have H1_n := Lib.hid (H1.out.below HBn.out (Nat.le_refl _))
  have HB_n := Lib.hid (HB.out.trans (HBn.out.mono HB.out.size))
  clear HG H1 HB
  have HG := HG_n
  have H1 := H1_n
  have HB := HB_n
  clear HG_n H1_n HB_n HBn hb
  have HM1 := Lib.hid hm1
  clear hm1
  have g0 := HG.out.at0.1
  have g1 := HG.out.at0.2
  go_wp2_with fail
  clear g0 g1
  refine (HCo.out _ _ HM1.out).mono ?_
  rintro e w3 ⟨sa, sc, rfl, hsw, hb⟩
  have HBn : Hid (Below w2.heap.size w2 w3) := Lib.hid (hb)
  have HG_n := Lib.hid (HG.out.below HBn.out)
  have H1_n := Lib.hid (H1.out.below HBn.out (Nat.le_refl _))
  have HM1_n := Lib.hid (HM1.out.below HBn.out (Nat.le_refl _))
  have HB_n := Lib.hid (HB.out.trans (HBn.out.mono HB.out.size))
  clear HG H1 HM1 HB
  have HG := HG_n
  have H1 := H1_n
  have HM1 := HM1_n
  have HB := HB_n
  clear HG_n H1_n HM1_n HB_n HBn hb
  have HSW := Lib.hid hsw
  clear hsw
  have g0 := HG.out.at0.1
  have g1 := HG.out.at0.2
  go_wp2_with fail
  clear HM1
  clear g0 g1
  refine (HOf.out _).mono ?_
  rintro e w4 ⟨rfl, hb⟩
  have HBn : Hid (Below w3.heap.size w3 w4) := Lib.hid (hb)
  have HG_n := Lib.hid (HG.out.below HBn.out)
  have H1_n := Lib.hid (H1.out.below HBn.out (Nat.le_refl _))
  have HSW_n := Lib.hid (HSW.out.below HBn.out (Nat.le_refl _))
  have HB_n := Lib.hid (HB.out.trans (HBn.out.mono HB.out.size))
  clear HG H1 HSW HB
  have HG := HG_n
  have H1 := H1_n
  have HSW := HSW_n
  have HB := HB_n
  clear HG_n H1_n HSW_n HB_n HBn hb
  have g0 := HG.out.at0.1
  have g1 := HG.out.at0.2
  go_wp2_with fail
  clear g0 g1
  refine (HLi.out _ _ H1.out).mono ?_
  rintro e w5 ⟨la, lc, rfl, hm1, hb⟩
  have HBn : Hid (Below w4.heap.size w4 w5) := Lib.hid (hb)
  have HG_n := Lib.hid (HG.out.below HBn.out)
  have H1_n := Lib.hid (H1.out.below HBn.out (Nat.le_refl _))
  have HSW_n := Lib.hid (HSW.out.below HBn.out (Nat.le_refl _))
  have HB_n := Lib.hid (HB.out.trans (HBn.out.mono HB.out.size))
  clear HG H1 HSW HB
  have HG := HG_n
  have H1 := H1_n
  have HSW := HSW_n
  have HB := HB_n
  clear HG_n H1_n HSW_n HB_n HBn hb
  have HM1 := Lib.hid hm1
  clear hm1
  have g0 := HG.out.at0.1
  have g1 := HG.out.at0.2
  go_wp2_with fail
  clear g0 g1
  refine (HLn.out _ _ HM1.out).mono ?_
  rintro e w6 ⟨rfl, hb⟩
  have HBn : Hid (Below w5.heap.size w5 w6) := Lib.hid (hb)
  have HG_n := Lib.hid (HG.out.below HBn.out)
  have H1_n := Lib.hid (H1.out.below HBn.out (Nat.le_refl _))
  have HSW_n := Lib.hid (HSW.out.below HBn.out (Nat.le_refl _))
  have HM1_n := Lib.hid (HM1.out.below HBn.out (Nat.le_refl _))
  have HB_n := Lib.hid (HB.out.trans (HBn.out.mono HB.out.size))
  clear HG H1 HSW HM1 HB
  have HG := HG_n
  have H1 := H1_n
  have HSW := HSW_n
  have HM1 := HM1_n
  have HB := HB_n
  clear HG_n H1_n HSW_n HM1_n HB_n HBn hb
  have g0 := HG.out.at0.1
  have g1 := HG.out.at0.2
  go_wp2_with fail
  clear HM1
  clear g0 g1
  obtain ⟨_, _, e, hscap, _, hsx⟩ := SlOf.open HSW.out
  rw [List.length_map, ← HCLN.out] at e
  simp only [Value.slice.injEq] at e
  obtain ⟨rfl, -, rfl⟩ := e
  have HSX := Lib.hid hsx
  clear hsx hscap
  go_loopw [59, 9, 10] (fun i v vt wr => ∃ k : Nat, k ≤ cl ∧ i = .int .i64 k ∧ Met wr w6.heap.size g v vt (dRn g (cv.take k)) ∧ DOk g (20 * k) (dRn g (cv.take k)) ∧ Below w6.heap.size w6 wr) (fun i _ _ _ => cl - (intOf i).toNat)
  case atStart => exact ⟨0, Nat.zero_le _, rfl, Met.nil _ _ _, ⟨rfl, by simp [dRn], by simp [dRn], by simp [dRn]⟩, Below.refl _ _⟩
  case round =>
    obtain ⟨k, hk, rfl, hM, hD, hb⟩ := hrel
    by_cases hkl : k < cl
    · exact absurd hkl (by omega)
    · have hkk : k = cl := by omega
      have hnl : ¬ (k : Int) < (cl : Int) := by omega
      rw [hkk, HCLN.out, List.take_length] at hM hD
      have htl9 : (dRn g cv).2.length ≤ 1000 := by have := hD.len; have := hD.le; have := HCLN.out; omega
      obtain ⟨_, hm3⟩ := hM
      obtain ⟨ta, tc, rfl⟩ := owns_form hm3
      have HB1 := Lib.hid (HB.out.trans (hb.mono HB.out.size))
      have HM3 := Lib.hid hm3
      have h2 := HD1.out
      have HALL : Hid (∀ q, q < (dRn g cv).2.length → (ints (nats (dRn g cv).2))[q]? = some (.int .i64 2)) := Lib.hid fun q hq => by
        have h9 := h2 _ (natD_mem hq)
        rw [List.getD_eq_getElem?_getD, List.getElem?_eq_getElem hq] at h9
        simp only [Option.getD_some] at h9
        simp [ints, nats, List.getElem?_eq_getElem hq, h9]
      generalize (dRn g cv).2 = tm at *
      obtain ⟨tl, htl⟩ : ∃ tl, tl = tm.length := ⟨_, rfl⟩
      rw [← htl] at HM3 HALL htl9
      rw [← htl]
      clear htl hm3 hD hb hkk h2
      go_wp2_with fail
      go_loop [106] (fun i => ∃ j : Nat, j ≤ tl ∧ i = .int .i64 j) (fun i => tl - (intOf i).toNat)
      case atStart => exact ⟨0, Nat.zero_le _, rfl⟩
      case round =>
        obtain ⟨j, hj, rfl⟩ := hrel
        by_cases hjl : j < tl
        · obtain ⟨bt, ct, e9, _⟩ := own_lit HM3.out (by omega)
          simp only [Value.slice.injEq, true_and] at e9
          obtain ⟨rfl, rfl⟩ := e9
          have t0 := World.ownsRow.cellAt HM3.out j (by omega)
          rw [HALL.out j hjl] at t0
          go_wp2_with fail
          go_round
          case rel => exact ⟨j + 1, by omega, by go_num⟩
          case measure => simp [intOf]; omega
        · have hnl2 : ¬ (j : Int) < (tl : Int) := by omega
          go_wp2_with fail
          refine (HAw.out _).mono ?_
          rintro e w9 ⟨rfl, hb⟩
          have HB9 := Lib.hid (HB1.out.trans (hb.mono HB1.out.size))
          clear hb
          go_wp2_with fail
          go_ret
          exact ⟨rfl, HB9.out⟩


/-- THE LAW MirrorDiamonds. -/
theorem mirrorDiamonds_law (k n : Int) (v1 : Value) (l1 : List Int) (w : World) (h1 : Ints w v1 l1) :
    Calls Try.prog 13 #[gV k n, v1] w fun e w' => e = .returned (.bool true) ∧ Below w.heap.size w w' := by
  by_cases hk : grpB k n = true
  · obtain ⟨g, hg, rfl, rfl⟩ := grp_of hk
    cases hw1 : wordB g l1 with
    | true =>
      by_cases hZ : (cvL g (folI g l1) (nE g)).length = 0
      · exact diamonds_b g hg v1 l1 w h1 hw1 hZ
      · exact diamonds_a g hg v1 l1 w h1 hw1 hZ
    | false => exact diamonds_bad _ _ v1 l1 w h1 (.inr ⟨g, hg, rfl, rfl, by simp [word_take, hw1]⟩)
  · exact diamonds_bad k n v1 l1 w h1 (.inl (by simpa using hk))
end Go.Proofs.Ytlnbodpdgebflaa
