/- MirrorLeaves -/
import Derived.Test.YtlnbodpdgebflaaWh
import Derived.Test.YtlnbodpdgebflaaLv
import Derived.Test.YtlnbodpdgebflaaQt
import Derived.Test.YtlnbodpdgebflaaTk
namespace Go.Proofs.Ytlnbodpdgebflaa
open Go.RowKit

set_option maxHeartbeats 2000000 in
theorem fineL_any (g : Nat) (hg : g < 17) (v : Value) (Ls : List (List Int)) (w : World) (h : IntRows w v Ls) (h3 : Ls.length ≤ 16777216) :
    Calls Try.prog 24 #[gV (kd g) (nm g), v] w fun e w' => e = .returned (.bool (Ls.all (wordB g))) ∧ Below w.heap.size w w' := by
  obtain ⟨ao, cap, rfl, h1, h2, hx⟩ := h.open
  have HX := Lib.hid hx
  have HG := Lib.hid (fun W => Valid_any (kd g) (nm g) W)
  rw [grp_kn hg] at HG
  have HW := Lib.hid (fun v l W h => Word_any g hg v l W h)
  clear h hx
  go_enter Try.func24, Try.ntmps24
  go_wp2_with fail
  refine (HG.out _).mono ?_
  rintro e w1 ⟨rfl, hb1⟩
  have HG1 : Hid (Blk 23 w1 w.heap.size #[.int .u8 (kd g), .int .i64 (nm g)]) := Lib.hid ((Blk.new _ _ _).below hb1)
  have HB1 : Hid (Below w.heap.size w w1) := Lib.hid ((a1 w _).trans (hb1.mono (by simp)))
  clear hb1 HG
  go_wp2_with fail
  go_loopw [12] (fun i wr => ∃ k : Nat, k ≤ Ls.length ∧ i = .int .i64 k ∧ (Ls.take k).all (wordB g) = true ∧ Blk 23 wr w.heap.size #[.int .u8 (kd g), .int .i64 (nm g)] ∧ Below w.heap.size w wr) (fun i _ => Ls.length - (intOf i).toNat)
  case atStart => exact ⟨0, Nat.zero_le _, rfl, rfl, HG1.out, HB1.out⟩
  case round =>
    clear HG1 HB1
    obtain ⟨k, hk, rfl, hl, hG, hb⟩ := hrel
    have HL := Lib.hid hl
    have HG := Lib.hid hG
    have HB := Lib.hid hb
    have g0 := hG.at0.1
    have g1 := hG.at0.2
    clear hl hG hb
    by_cases hlt : k < Ls.length
    · obtain ⟨l, hkl⟩ : ∃ l, Ls[k]? = some l := ⟨Ls[k], by simp [hlt]⟩
      obtain ⟨b, o, u, rfl, hck, hu⟩ := HX.out k l hkl
      have hck' := ck hck (W := w) (w1 := wr) HB.out
      have HU : Hid (Ints wr u l) := Lib.hid (hu.below HB.out (Nat.le_refl _))
      have HK := Lib.hid hkl
      obtain ⟨ua, uc, rfl, _, _, _⟩ := hu.open
      clear hck hu hkl
      go_wp2_with fail
      refine (HW.out _ _ _ HU.out).mono ?_
      rintro e w2 ⟨rfl, hb2⟩
      have HG2 := Lib.hid (HG.out.below hb2)
      have HB2 : Hid (Below w.heap.size w w2) := Lib.hid (HB.out.trans (hb2.mono HB.out.size))
      clear hb2
      cases hm : wordB g l with
      | true =>
        have HT2 := Lib.hid (all_take HK.out HL.out hm)
        clear hm
        go_wp2_with fail
        go_roundw
        case rel => exact ⟨k + 1, by omega, by go_num, HT2.out, HG2.out, HB2.out⟩
        case measure => simp [intOf]; omega
      | false =>
        have HE : Hid (Ls.all (wordB g) = false) := Lib.hid (List.all_eq_false.2 ⟨l, List.mem_of_getElem? HK.out, by rw [hm]; decide⟩)
        clear hm
        go_wp2_with fail
        go_ret
        exact ⟨ret_bool HE.out.symm, HB2.out⟩
    · obtain rfl : k = Ls.length := by omega
      have HA : Hid (Ls.all (wordB g) = true) := Lib.hid (by have := HL.out; rwa [List.take_length] at this)
      clear HL HW
      go_wp2_with fail
      go_ret
      exact ⟨ret_bool HA.out.symm, HB.out⟩
set_option maxRecDepth 20000 in
set_option maxHeartbeats 2000000 in
theorem Leave_arg (g : Nat) (hg : g < 17) (v : Value) (l : List Int) (s : Int) (w : World) (h : Ints w v l) (hw : wordB g l = true) (hsh : ln g (folI g l) ≠ l.length ∨ mirB g s = false) :
    Calls Try.prog 42 #[gV (kd g) (nm g), v, .int .i64 s] w fun e w' => e = .returned (.tuple #[.int .i64 0, .int .i64 2]) ∧ Below w.heap.size w w' := by
  have hl30 : l.length ≤ 30 := by simp [wordB] at hw; omega
  have HO := Lib.hid (fun W b hc h => open1_ok g hg (v := v) (l := l) W b hc h hw)
  have hlt := folI_lt hg hw
  have HM := Lib.hid (fun W => isMirror_any g hg s W)
  have hl12 := (tx hg hlt).2.1
  obtain ⟨va, vc, rfl, _, _, _⟩ := h.open
  have HV := Lib.hid h
  clear h hw
  go_enter Try.func42, Try.ntmps42
  go_wp2_with fail
  refine (HO.out _ _ (blk_at (by simp)) ((HV.out.alloc _).alloc _)).mono ?_
  rintro e w1 ⟨T0, eb, eo, ec, rfl, hT, hx, hb1, hec⟩
  have HB1 : Hid (Below w.heap.size w w1) := Lib.hid ((a2 w _ _).trans (hb1.mono (by simp; try omega)))
  have HG : Hid (Blk 28 w1 w.heap.size #[.int .u8 (kd g), .int .i64 (nm g)]) := Lib.hid ((hb1.block _ (by simp; try omega)).trans ((Blk.new _ _ _).alloc _))
  have HLe := Lib.hid (length_any g T0 (folI g l) hg w1 hT hlt)
  have g0 := HG.out.at0.1
  have g1 := HG.out.at0.2
  clear hb1 HO hT
  generalize hln : ln g (folI g l) = n at *
  have HLN := Lib.hid hln
  clear hln
  generalize folI g l = y at *
  go_wp2_with fail
  refine HLe.out.mono ?_
  rintro e w2 ⟨rfl, rfl⟩
  clear HLe HLN
  by_cases hn : n = l.length
  · subst hn
    have hm : mirB g s = false := hsh.resolve_left (fun e => e rfl)
    rw [hm] at HM
    clear hsh hm
    go_wp2_with fail
    refine (HM.out _).mono ?_
    rintro e w2 ⟨rfl, hb2⟩
    have HB2 : Hid (Below w.heap.size w w2) := Lib.hid (HB1.out.trans (hb2.mono HB1.out.size))
    clear hb2 g0 g1 HM HG hx
    go_wp2_with fail
    exact bodyPost_ret (results_tmp2 rfl _ _ _) rfl ⟨rfl, HB2.out⟩
  · have hnb : (((n : Nat) : Int) != ((l.length : Nat) : Int)) = true := bne_iff_ne.2 (by omega)
    clear hsh
    go_wp2_with fail
    exact bodyPost_ret (results_tmp2 rfl _ _ _) rfl ⟨rfl, HB1.out⟩


set_option maxHeartbeats 400000 in
theorem list_own (v : Value) (zs : List Int) (w : World) (h : Ints w v zs) (hl : zs.length ≤ 34) :
    Calls Try.prog 21 #[v] w fun e w' => ∃ a c, e = .returned (.slice a zs.length c) ∧ w'.ownsRow w.heap.size 3 1 (.slice a zs.length c) zs.length (ints zs) ∧ Below w.heap.size w w' := by
  obtain ⟨ao, cap, rfl, h1, h2, hc⟩ := h.open
  have HT' := Lib.hid (clone1_any _ _ w (h.take (Nat.le_refl zs.length)))
  rw [List.take_length] at HT'
  clear h hc
  have hm : min (zs.length : Int) 34 = zs.length := by omega
  have hm2 : min zs.length 34 = zs.length := by omega
  go_enter Try.func21, Try.ntmps21
  go_wp2_with fail
  refine HT'.out.mono ?_
  rintro e w1 ⟨ao1, c1, rfl, hown, hb1⟩
  have HO := Lib.hid hown
  have HB1 := Lib.hid hb1
  clear hown hb1
  go_wp2
  go_ret
  exact ⟨_, _, rfl, HO.out, HB1.out⟩
def Cel (a : Addr) (u : Value) (W : World) : Prop := W.cell? a = some u
theorem Cel.below {a : Addr} {u : Value} {W W' : World} (h : Cel a u W) (hb : Below W.heap.size W W') : Cel a u W' := ck h hb
theorem NatRows.ints {W : World} {v : Value} {L : List (List Nat)} (h : NatRows W v L) : IntRows W v (L.map nats) := by
  obtain ⟨vs, h1, h2, h3⟩ := h
  refine ⟨vs, h1, by simpa using h2, fun i u x a b => ?_⟩
  rw [List.getElem?_map] at b
  cases hb : L[i]? with
  | none => rw [hb] at b; cases b
  | some l => rw [hb] at b; cases b; exact h3 i u l a hb
theorem flS_top {g x s : Nat} (hs : kM g ≤ s) : (flS g x (kM g)).testBit s = false := by
  cases h : (flS g x (kM g)).testBit s with
  | false => rfl
  | true => have := ((flS_bit g x s (kM g)).1 h).1; omega
theorem flS_no {g x s : Nat} (h : ¬ ln g (rt g x s) < ln g x) : (flS g x (kM g)).testBit s = false := by
  cases hb : (flS g x (kM g)).testBit s with
  | false => rfl
  | true => exact absurd ((flS_bit g x s (kM g)).1 hb).2 h
theorem flS_yes {g x s : Nat} (hs : s < kM g) (h : ln g (rt g x s) < ln g x) : (flS g x (kM g)).testBit s = true := (flS_bit g x s (kM g)).2 ⟨hs, h⟩
theorem shw_word {g : Nat} {l : List Int} (hw : wordB g l = true) (h : ln g (folI g l) = l.length) : Shw g (folI g l) (toN l) :=
  ⟨toN_lt (word_let hw), by simp [toN, h], rfl⟩
theorem lvO_up {g s : Nat} {l : List Int} (hg : g < 17) (hs : s < kM g) (hw : wordB g l = true) (h : ln g (folI g l) = l.length) (hn : ¬ ln g (rt g (folI g l) s) < ln g (folI g l)) : lvO g (folI g l) s (toN l) = none := by
  have hx := folI_lt hg hw
  have htl : (toN l).length = l.length := by simp [toN]
  refine lvO_none fun k hk e => ?_
  have h1 := ln_fol hg (wo_ (toN l) k) fun u hu => toN_lt (word_let hw) u (wo_mem hu)
  rw [e, wo_len _ _ hk, htl] at h1
  have := (len_one hg hx hs).2.1
  omega

set_option maxRecDepth 100000 in
set_option maxHeartbeats 2000000 in
theorem leaves_bad (k n : Int) (v1 : Value) (l1 : List Int) (s : Int) (w : World) (h1 : Ints w v1 l1) (hb0 : Bad k n [l1.take 34]) :
    Calls Try.prog 14 #[gV k n, v1, .int .i64 s] w fun e w' => e = .returned (.bool true) ∧ Below w.heap.size w w' := by
  have HOf := Lib.hid (fun W => Of_any k n W)
  have HLi := Lib.hid (fun v W h => listBad l1 v W h)
  have HFl := Lib.hid (fun v W h => Falls_bad k n v (l1.take 34) W h hb0)
  have HWs := Lib.hid (fun v W h => Words_bad k n v (l1.take 34) W h hb0)
  generalize l1.take 34 = m1 at *
  have HAw := Lib.hid (fun W => awake_any W)
  obtain ⟨va1, vc1, rfl, _, _, _⟩ := h1.open
  have H10 := Lib.hid h1
  clear h1 hb0
  go_enter Try.func14, Try.ntmps14
  go_wp2_with fail
  refine (HOf.out _).mono ?_
  rintro e w1 ⟨rfl, hb⟩
  have HG : Hid (Blk 23 w1 w.heap.size #[.int .u8 k, .int .i64 n]) := Lib.hid ((Blk.new _ _ _).below hb)
  have HB : Hid (Below w.heap.size w w1) := Lib.hid (bl1 hb)
  have H1 := Lib.hid (H10.out.below HB.out (Nat.le_refl _))
  clear hb H10
  have g0 := HG.out.at0.1
  have g1 := HG.out.at0.2
  go_wp2_with fail
  clear g0 g1
  refine (HLi.out _ _ H1.out).mono ?_
  rintro e w2 ⟨la, lc, rfl, hm1, hb⟩
  have HBn : Hid (Below w1.heap.size w1 w2) := Lib.hid (hb)
  have HG_n := Lib.hid (HG.out.below HBn.out)
  have H1_n := Lib.hid (H1.out.below HBn.out (Nat.le_refl _))
  have HB_n := Lib.hid (HB.out.trans (HBn.out.mono HB.out.size))
  clear HG H1 HB
  have HG := HG_n
  have H1 := H1_n
  have HB := HB_n
  clear HG_n H1_n HB_n HBn hb
  have HM1 := Lib.hid hm1
  clear hm1
  have g0 := HG.out.at0.1
  have g1 := HG.out.at0.2
  go_wp2_with fail
  clear g0 g1
  refine (HFl.out _ _ HM1.out).mono ?_
  rintro e w3 ⟨rfl, hb⟩
  have HBn : Hid (Below w2.heap.size w2 w3) := Lib.hid (hb)
  have HG_n := Lib.hid (HG.out.below HBn.out)
  have H1_n := Lib.hid (H1.out.below HBn.out (Nat.le_refl _))
  have HM1_n := Lib.hid (HM1.out.below HBn.out (Nat.le_refl _))
  have HB_n := Lib.hid (HB.out.trans (HBn.out.mono HB.out.size))
  clear HG H1 HM1 HB
  have HG := HG_n
  have H1 := H1_n
  have HM1 := HM1_n
  have HB := HB_n
  clear HG_n H1_n HM1_n HB_n HBn hb
  have g0 := HG.out.at0.1
  have g1 := HG.out.at0.2
  go_wp2_with fail
  clear HM1
  clear g0 g1
  refine (HOf.out _).mono ?_
  rintro e w4 ⟨rfl, hb⟩
  have HBn : Hid (Below w3.heap.size w3 w4) := Lib.hid (hb)
  have HG_n := Lib.hid (HG.out.below HBn.out)
  have H1_n := Lib.hid (H1.out.below HBn.out (Nat.le_refl _))
  have HB_n := Lib.hid (HB.out.trans (HBn.out.mono HB.out.size))
  clear HG H1 HB
  have HG := HG_n
  have H1 := H1_n
  have HB := HB_n
  clear HG_n H1_n HB_n HBn hb
  have g0 := HG.out.at0.1
  have g1 := HG.out.at0.2
  go_wp2_with fail
  clear g0 g1
  refine (HLi.out _ _ H1.out).mono ?_
  rintro e w5 ⟨la, lc, rfl, hm1, hb⟩
  have HBn : Hid (Below w4.heap.size w4 w5) := Lib.hid (hb)
  have HG_n := Lib.hid (HG.out.below HBn.out)
  have H1_n := Lib.hid (H1.out.below HBn.out (Nat.le_refl _))
  have HB_n := Lib.hid (HB.out.trans (HBn.out.mono HB.out.size))
  clear HG H1 HB
  have HG := HG_n
  have H1 := H1_n
  have HB := HB_n
  clear HG_n H1_n HB_n HBn hb
  have HM1 := Lib.hid hm1
  clear hm1
  have g0 := HG.out.at0.1
  have g1 := HG.out.at0.2
  go_wp2_with fail
  clear g0 g1
  refine (HWs.out _ _ HM1.out).mono ?_
  rintro e w6 ⟨rfl, hb⟩
  have HBn : Hid (Below w5.heap.size w5 w6) := Lib.hid (hb)
  have HG_n := Lib.hid (HG.out.below HBn.out)
  have H1_n := Lib.hid (H1.out.below HBn.out (Nat.le_refl _))
  have HM1_n := Lib.hid (HM1.out.below HBn.out (Nat.le_refl _))
  have HB_n := Lib.hid (HB.out.trans (HBn.out.mono HB.out.size))
  clear HG H1 HM1 HB
  have HG := HG_n
  have H1 := H1_n
  have HM1 := HM1_n
  have HB := HB_n
  clear HG_n H1_n HM1_n HB_n HBn hb
  have g0 := HG.out.at0.1
  have g1 := HG.out.at0.2
  go_wp2_with fail
  clear HM1
  clear g0 g1
  refine (HAw.out _).mono ?_
  rintro e w7 ⟨rfl, hb⟩
  have HBn : Hid (Below w6.heap.size w6 w7) := Lib.hid (hb)
  have HG_n := Lib.hid (HG.out.below HBn.out)
  have H1_n := Lib.hid (H1.out.below HBn.out (Nat.le_refl _))
  have HB_n := Lib.hid (HB.out.trans (HBn.out.mono HB.out.size))
  clear HG H1 HB
  have HG := HG_n
  have H1 := H1_n
  have HB := HB_n
  clear HG_n H1_n HB_n HBn hb
  have g0 := HG.out.at0.1
  have g1 := HG.out.at0.2
  go_wp2_with fail
  go_ret
  exact ⟨rfl, HB.out⟩

set_option maxRecDepth 100000 in
set_option maxHeartbeats 4000000 in
theorem leaves_a (g : Nat) (hg : g < 17) (v1 : Value) (l1 : List Int) (s : Int) (w : World) (h1 : Ints w v1 l1) (hw1 : wordB g l1 = true) (hln : ln g (folI g l1) ≠ l1.length) :
    Calls Try.prog 14 #[gV (kd g) (nm g), v1, .int .i64 s] w fun e w' => e = .returned (.bool true) ∧ Below w.heap.size w w' := by
  have q1 : l1.length ≤ 30 := by simp [wordB] at hw1; omega
  have hk4 := (tg hg).2.2.2.1
  have HOf := Lib.hid (fun W => Of_any (kd g) (nm g) W)
  have HLi := Lib.hid (fun v W h => listOk q1 v W h)
  have HF := Lib.hid (fun v W h => fine_any g hg v [l1] W h (by simp))
  rw [show [l1].all (wordB g) = true by simp [hw1]] at HF
  have HAw := Lib.hid (fun W => awake_any W)
  have hE := tE hg
  have hX := folI_lt hg hw1
  have hl12 := (tx hg hX).2.1
  have HFl := Lib.hid (fun v W h => Falls_ok g hg v l1 W h hw1)
  have HWs := Lib.hid (fun v W h => Words_ok g hg v l1 W h hw1)
  have HSm := Lib.hid (fun a => shP_mem hg (ln g (folI g l1)) (folI g l1) hX (Nat.le_refl _) a)
  have hSl := shP_len hg hX
  have hSp := shP_pos hg hX
  have HLa := Lib.hid (lv_last hg hX)
  have HFg : Hid (∀ v W, NatRows W v (shP g (ln g (folI g l1)) (folI g l1)) → Calls Try.prog 24 #[gV (kd g) (nm g), v] W fun e w' => e = .returned (.bool true) ∧ Below W.heap.size W w') := Lib.hid (fun v W h => by
    have h9 := fineL_any g hg v _ W h.ints (by simpa using hSl)
    rwa [show ((shP g (ln g (folI g l1)) (folI g l1)).map nats).all (wordB g) = true by
      rw [List.all_eq_true]
      intro z hz
      obtain ⟨y, hy, rfl⟩ := List.mem_map.1 hz
      have h8 := (shP_mem hg _ _ hX (Nat.le_refl _) y).1 hy
      exact word_nats h8.1 (by rw [h8.2.1]; omega)] at h9)
  have HLv := Lib.hid (fun v W h => Leave_arg g hg v l1 s W h hw1 (.inl hln))

  have hfs : flS g (folI g l1) (kM g) < 16 := Nat.lt_of_lt_of_le (flS_lt g _ _) (Nat.pow_le_pow_right (n := 2) (by decide) hk4)
  rw [← HLa.out] at hfs HFl 
  have HL4 : Hid (∀ i, laS ((shP g (ln g (folI g l1)) (folI g l1)).take i) < 16) := Lib.hid (fun i => laS_lt _ _ rfl fun y hy z hz => by
    have h8 := (shP_mem hg _ _ hX (Nat.le_refl _) y).1 (List.mem_of_mem_take hy)
    have := h8.1 z hz
    omega)
  have HSw : Hid (∀ y ∈ shP g (ln g (folI g l1)) (folI g l1), y.length = ln g (folI g l1) ∧ ∀ z ∈ y, z < 4) := Lib.hid (fun y hy => by
    have h8 := (shP_mem hg _ _ hX (Nat.le_refl _) y).1 hy
    exact ⟨h8.2.1, fun z hz => by have := h8.1 z hz; omega⟩)
  clear HSm HLa
  generalize shP g (ln g (folI g l1)) (folI g l1) = sp at *
  obtain ⟨sl, hsl⟩ : ∃ sl, sl = sp.length := ⟨_, rfl⟩
  rw [← hsl] at HWs hSl hSp
  have HSL := Lib.hid hsl
  obtain ⟨n, hn⟩ : ∃ n, n = ln g (folI g l1) := ⟨_, rfl⟩
  rw [← hn] at HSw hl12 hln
  have HN := Lib.hid hn
  clear hsl hn
  have HLn9 := Lib.hid hln


  clear hln
  generalize hXX : folI g l1 = X at *
  clear hXX
  obtain ⟨va1, vc1, rfl, _, _, _⟩ := h1.open
  have H10 := Lib.hid h1
  clear h1 hw1
  go_enter Try.func14, Try.ntmps14
  go_wp2_with fail
  refine (HOf.out _).mono ?_
  rintro e w1 ⟨rfl, hb⟩
  have HG : Hid (Blk 23 w1 w.heap.size #[.int .u8 (kd g), .int .i64 (nm g)]) := Lib.hid ((Blk.new _ _ _).below hb)
  have HB : Hid (Below w.heap.size w w1) := Lib.hid (bl1 hb)
  have H1 := Lib.hid (H10.out.below HB.out (Nat.le_refl _))
  clear hb H10
  have g0 := HG.out.at0.1
  have g1 := HG.out.at0.2
  go_wp2_with fail
  clear g0 g1
  refine (HLi.out _ _ H1.out).mono ?_
  rintro e w2 ⟨la, lc, rfl, hm1, hb⟩
  have HBn : Hid (Below w1.heap.size w1 w2) := Lib.hid (hb)
  have HG_n := Lib.hid (HG.out.below HBn.out)
  have H1_n := Lib.hid (H1.out.below HBn.out (Nat.le_refl _))
  have HB_n := Lib.hid (HB.out.trans (HBn.out.mono HB.out.size))
  clear HG H1 HB
  have HG := HG_n
  have H1 := H1_n
  have HB := HB_n
  clear HG_n H1_n HB_n HBn hb
  have HM1 := Lib.hid hm1
  clear hm1
  have g0 := HG.out.at0.1
  have g1 := HG.out.at0.2
  go_wp2_with fail
  clear g0 g1
  refine (HFl.out _ _ HM1.out).mono ?_
  rintro e w3 ⟨rfl, hb⟩
  have HBn : Hid (Below w2.heap.size w2 w3) := Lib.hid (hb)
  have HG_n := Lib.hid (HG.out.below HBn.out)
  have H1_n := Lib.hid (H1.out.below HBn.out (Nat.le_refl _))
  have HM1_n := Lib.hid (HM1.out.below HBn.out (Nat.le_refl _))
  have HB_n := Lib.hid (HB.out.trans (HBn.out.mono HB.out.size))
  clear HG H1 HM1 HB
  have HG := HG_n
  have H1 := H1_n
  have HM1 := HM1_n
  have HB := HB_n
  clear HG_n H1_n HM1_n HB_n HBn hb
  have g0 := HG.out.at0.1
  have g1 := HG.out.at0.2
  go_wp2_with fail
  clear HM1
  clear g0 g1
  refine (HOf.out _).mono ?_
  rintro e w4 ⟨rfl, hb⟩
  have HBn : Hid (Below w3.heap.size w3 w4) := Lib.hid (hb)
  have HG_n := Lib.hid (HG.out.below HBn.out)
  have H1_n := Lib.hid (H1.out.below HBn.out (Nat.le_refl _))
  have HB_n := Lib.hid (HB.out.trans (HBn.out.mono HB.out.size))
  clear HG H1 HB
  have HG := HG_n
  have H1 := H1_n
  have HB := HB_n
  clear HG_n H1_n HB_n HBn hb
  have g0 := HG.out.at0.1
  have g1 := HG.out.at0.2
  go_wp2_with fail
  clear g0 g1
  refine (HLi.out _ _ H1.out).mono ?_
  rintro e w5 ⟨la, lc, rfl, hm1, hb⟩
  have HBn : Hid (Below w4.heap.size w4 w5) := Lib.hid (hb)
  have HG_n := Lib.hid (HG.out.below HBn.out)
  have H1_n := Lib.hid (H1.out.below HBn.out (Nat.le_refl _))
  have HB_n := Lib.hid (HB.out.trans (HBn.out.mono HB.out.size))
  clear HG H1 HB
  have HG := HG_n
  have H1 := H1_n
  have HB := HB_n
  clear HG_n H1_n HB_n HBn hb
  have HM1 := Lib.hid hm1
  clear hm1
  have g0 := HG.out.at0.1
  have g1 := HG.out.at0.2
  go_wp2_with fail
  clear g0 g1
  refine (HWs.out _ _ HM1.out).mono ?_
  rintro e w6 ⟨sa, sc, rfl, hsw, hb⟩
  have HBn : Hid (Below w5.heap.size w5 w6) := Lib.hid (hb)
  have HG_n := Lib.hid (HG.out.below HBn.out)
  have H1_n := Lib.hid (H1.out.below HBn.out (Nat.le_refl _))
  have HM1_n := Lib.hid (HM1.out.below HBn.out (Nat.le_refl _))
  have HB_n := Lib.hid (HB.out.trans (HBn.out.mono HB.out.size))
  clear HG H1 HM1 HB
  have HG := HG_n
  have H1 := H1_n
  have HM1 := HM1_n
  have HB := HB_n
  clear HG_n H1_n HM1_n HB_n HBn hb
  have HSW := Lib.hid hsw
  clear hsw
  have g0 := HG.out.at0.1
  have g1 := HG.out.at0.2
  go_wp2_with fail
  clear HM1
  clear g0 g1
  refine (HF.out _ _ (rows1 (Blk.new _ _ _) (H1.out.alloc _))).mono ?_
  rintro e w7 ⟨rfl, hb⟩
  have HBn : Hid (Below w6.heap.size w6 w7) := Lib.hid (bl1 hb)
  have HG_n := Lib.hid (HG.out.below HBn.out)
  have H1_n := Lib.hid (H1.out.below HBn.out (Nat.le_refl _))
  have HSW_n := Lib.hid (HSW.out.below HBn.out (Nat.le_refl _))
  have HB_n := Lib.hid (HB.out.trans (HBn.out.mono HB.out.size))
  clear HG H1 HSW HB
  have HG := HG_n
  have H1 := H1_n
  have HSW := HSW_n
  have HB := HB_n
  clear HG_n H1_n HSW_n HB_n HBn hb
  have g0 := HG.out.at0.1
  have g1 := HG.out.at0.2
  go_wp2_with fail
  clear g0 g1
  refine (HFg.out _ _ HSW.out).mono ?_
  rintro e w8 ⟨rfl, hb⟩
  have HBn : Hid (Below w7.heap.size w7 w8) := Lib.hid (hb)
  have HG_n := Lib.hid (HG.out.below HBn.out)
  have H1_n := Lib.hid (H1.out.below HBn.out (Nat.le_refl _))
  have HSW_n := Lib.hid (HSW.out.below HBn.out (Nat.le_refl _))
  have HB_n := Lib.hid (HB.out.trans (HBn.out.mono HB.out.size))
  clear HG H1 HSW HB
  have HG := HG_n
  have H1 := H1_n
  have HSW := HSW_n
  have HB := HB_n
  clear HG_n H1_n HSW_n HB_n HBn hb
  have g0 := HG.out.at0.1
  have g1 := HG.out.at0.2
  go_wp2_with fail
  obtain ⟨_, _, e, hscap, _, hsx⟩ := SlOf.open HSW.out
  simp only [Value.slice.injEq] at e
  obtain ⟨rfl, -, rfl⟩ := e
  have HSX := Lib.hid hsx
  rw [← HSL.out] at hscap
  clear hsx
  go_loop [69, 11] (fun i a => ∃ k : Nat, k ≤ sl ∧ i = .int .i64 k ∧ a = .int .i64 (laS (sp.take k) : Nat)) (fun i _ => sl - (intOf i).toNat)
  case atStart => exact ⟨0, Nat.zero_le _, rfl, rfl⟩
  case round =>
    obtain ⟨k, hk, rfl, rfl⟩ := hrel
    by_cases hl : k < sl
    · obtain ⟨l, hkl⟩ : ∃ l, sp[k]? = some l := ⟨sp[k]'(by rw [← HSL.out]; exact hl), by simp⟩
      obtain ⟨b, o, u, rfl, hck, hu⟩ := HSX.out k l hkl
      obtain ⟨ua, uc, rfl, huc, _, hux⟩ := Nats.open hu
      obtain ⟨hln9, hl4⟩ := HSw.out l (List.mem_of_getElem? hkl)
      have h16 := HL4.out k
      have HSs : Hid (laS (sp.take (k + 1)) = if l.length = 0 then laS (sp.take k) else laS (sp.take k) ||| 2 ^ (l.getD (l.length - 1) 0)) := Lib.hid (by
        rw [List.take_add_one, hkl]; exact laS_snoc _ l)
      have HUX := Lib.hid hux
      have HL49 := Lib.hid hl4
      clear hu hux hl4 hkl
      rw [hln9] at hck huc HSs HUX
      have hnI : n ≤ 12 := hl12
      by_cases h0 : n = 0
      · have HE : Hid (laS (sp.take (k + 1)) = laS (sp.take k)) := Lib.hid (by rw [HSs.out, if_pos h0])
        have h0' : ¬ (0 : Int) < (n : Int) := by omega
        clear HSs HUX h0 hln9
        generalize laS (sp.take k) = y at *
        go_wp2_with fail
        go_round
        case rel => exact ⟨k + 1, by omega, by go_num, by rw [HE.out]⟩
        case measure => simp [intOf]; omega
      · obtain ⟨b2, o2, rfl, c2⟩ := HUX.out (n - 1) (by omega)
        have hx4 : l.getD (n - 1) 0 < 4 := HL49.out _ (natD_mem (by rw [hln9]; omega))
        have HE : Hid (laS (sp.take (k + 1)) = laS (sp.take k) ||| 2 ^ l.getD (n - 1) 0) := Lib.hid (by rw [HSs.out, if_neg h0])
        have h0' : (0 : Int) < (n : Int) := by omega
        have ht2 : (n : Int) - 1 = ((n - 1 : Nat) : Int) := by omega
        clear HSs HUX hln9
        generalize laS (sp.take k) = y at *
        generalize l.getD (n - 1) 0 = z at *
        have hp16 : 2 ^ z ≤ 8 := Nat.pow_le_pow_right (n := 2) (by decide) (show z ≤ 3 by omega)
        have hor : bits .or .i64 (y : Int) ((2:Int) ^ z) = ((y ||| 2 ^ z : Nat) : Int) := by rw [← pw_cast]; exact i64_or _ _ (by omega) (by omega)
        have hd3 : IntKind.i64.wrap ((2:Int) ^ z) = (2:Int) ^ z := by have := pw_bd z (by omega); exact i64_of (by omega) (by omega)
        clear hp16
        generalize y ||| 2 ^ z = y2 at *
        generalize hn1 : n - 1 = n1 at *
        have hn1a : n1 + 1 ≤ n := by omega
        have hn1b : n ≤ n1 + 1 := by omega
        clear hn1
        go_wp2_with fail
        go_round
        case rel => exact ⟨k + 1, by omega, by go_num, by rw [HE.out]⟩
        case measure => simp [intOf]; omega
    · have hkk : k = sl := by omega
      have HLt : Hid (laS (sp.take k) = laS sp) := Lib.hid (by rw [hkk, HSL.out, List.take_length])
      rw [HLt.out]
      obtain ⟨l0, hk0⟩ : ∃ l, sp[0]? = some l := ⟨sp[0]'(by rw [← HSL.out]; exact hSp), by simp⟩
      obtain ⟨b0, o0, u0, rfl, hck0, hu0⟩ := HSX.out 0 l0 hk0
      obtain ⟨ua0, uc0, rfl, _, _, _⟩ := Nats.open hu0
      have hln0 := (HSw.out l0 (List.mem_of_getElem? hk0)).1
      rw [hln0] at hck0
      rw [Nat.add_zero] at hck0
      have HC0 : Hid (Cel ⟨b0, o0, none⟩ (.slice ua0 n uc0) _) := Lib.hid hck0
      clear hkk HLt hu0 hk0 hln0 HSX HSw HL4 hck0
      generalize laS sp = fs at *
      go_wp2_with fail
      clear HSW
      clear g0 g1
      refine (HOf.out _).mono ?_
      rintro e w9 ⟨rfl, hb⟩
      have HBn : Hid (Below w8.heap.size w8 w9) := Lib.hid (hb)
      have HG_n := Lib.hid (HG.out.below HBn.out)
      have H1_n := Lib.hid (H1.out.below HBn.out (Nat.le_refl _))
      have HC0_n := Lib.hid (HC0.out.below HBn.out)
      have HB_n := Lib.hid (HB.out.trans (HBn.out.mono HB.out.size))
      clear HG H1 HC0 HB
      have HG := HG_n
      have H1 := H1_n
      have HC0 := HC0_n
      have HB := HB_n
      clear HG_n H1_n HC0_n HB_n HBn hb
      have g0 := HG.out.at0.1
      have g1 := HG.out.at0.2
      go_wp2_with fail
      clear g0 g1
      refine (HLi.out _ _ H1.out).mono ?_
      rintro e w10 ⟨la, lc, rfl, hm1, hb⟩
      have HBn : Hid (Below w9.heap.size w9 w10) := Lib.hid (hb)
      have HG_n := Lib.hid (HG.out.below HBn.out)
      have H1_n := Lib.hid (H1.out.below HBn.out (Nat.le_refl _))
      have HC0_n := Lib.hid (HC0.out.below HBn.out)
      have HB_n := Lib.hid (HB.out.trans (HBn.out.mono HB.out.size))
      clear HG H1 HC0 HB
      have HG := HG_n
      have H1 := H1_n
      have HC0 := HC0_n
      have HB := HB_n
      clear HG_n H1_n HC0_n HB_n HBn hb
      have HM1 := Lib.hid hm1
      clear hm1
      have g0 := HG.out.at0.1
      have g1 := HG.out.at0.2
      go_wp2_with fail
      clear g0 g1
      refine (HLv.out _ _ HM1.out).mono ?_
      rintro e w11 ⟨rfl, hb⟩
      have HBn : Hid (Below w10.heap.size w10 w11) := Lib.hid (hb)
      have HG_n := Lib.hid (HG.out.below HBn.out)
      have H1_n := Lib.hid (H1.out.below HBn.out (Nat.le_refl _))
      have HC0_n := Lib.hid (HC0.out.below HBn.out)
      have HM1_n := Lib.hid (HM1.out.below HBn.out (Nat.le_refl _))
      have HB_n := Lib.hid (HB.out.trans (HBn.out.mono HB.out.size))
      clear HG H1 HC0 HM1 HB
      have HG := HG_n
      have H1 := H1_n
      have HC0 := HC0_n
      have HM1 := HM1_n
      have HB := HB_n
      clear HG_n H1_n HC0_n HM1_n HB_n HBn hb
      have g0 := HG.out.at0.1
      have g1 := HG.out.at0.2
      have hc0 : _ = some _ := HC0.out
      have hq1 : ((l1.length : Int) == (n : Int)) = false := beq_eq_false_iff_ne.2 (by have := HLn9.out; omega)
      go_wp2_with fail
      clear hc0
      clear HM1 HC0
      clear g0 g1
      refine (HAw.out _).mono ?_
      rintro e w12 ⟨rfl, hb⟩
      have HBn : Hid (Below w11.heap.size w11 w12) := Lib.hid (hb)
      have HG_n := Lib.hid (HG.out.below HBn.out)
      have H1_n := Lib.hid (H1.out.below HBn.out (Nat.le_refl _))
      have HB_n := Lib.hid (HB.out.trans (HBn.out.mono HB.out.size))
      clear HG H1 HB
      have HG := HG_n
      have H1 := H1_n
      have HB := HB_n
      clear HG_n H1_n HB_n HBn hb
      have g0 := HG.out.at0.1
      have g1 := HG.out.at0.2
      go_wp2_with fail
      go_ret
      exact ⟨rfl, HB.out⟩

set_option maxRecDepth 100000 in
set_option maxHeartbeats 4000000 in
theorem leaves_b (g : Nat) (hg : g < 17) (v1 : Value) (l1 : List Int) (s : Int) (w : World) (h1 : Ints w v1 l1) (hw1 : wordB g l1 = true) (hln : ln g (folI g l1) = l1.length) (hs : s < 0) :
    Calls Try.prog 14 #[gV (kd g) (nm g), v1, .int .i64 s] w fun e w' => e = .returned (.bool true) ∧ Below w.heap.size w w' := by
  have q1 : l1.length ≤ 30 := by simp [wordB] at hw1; omega
  have hk4 := (tg hg).2.2.2.1
  have HOf := Lib.hid (fun W => Of_any (kd g) (nm g) W)
  have HLi := Lib.hid (fun v W h => listOk q1 v W h)
  have HF := Lib.hid (fun v W h => fine_any g hg v [l1] W h (by simp))
  rw [show [l1].all (wordB g) = true by simp [hw1]] at HF
  have HAw := Lib.hid (fun W => awake_any W)
  have hE := tE hg
  have hX := folI_lt hg hw1
  have hl12 := (tx hg hX).2.1
  have HFl := Lib.hid (fun v W h => Falls_ok g hg v l1 W h hw1)
  have HWs := Lib.hid (fun v W h => Words_ok g hg v l1 W h hw1)
  have HSm := Lib.hid (fun a => shP_mem hg (ln g (folI g l1)) (folI g l1) hX (Nat.le_refl _) a)
  have hSl := shP_len hg hX
  have hSp := shP_pos hg hX
  have HLa := Lib.hid (lv_last hg hX)
  have HFg : Hid (∀ v W, NatRows W v (shP g (ln g (folI g l1)) (folI g l1)) → Calls Try.prog 24 #[gV (kd g) (nm g), v] W fun e w' => e = .returned (.bool true) ∧ Below W.heap.size W w') := Lib.hid (fun v W h => by
    have h9 := fineL_any g hg v _ W h.ints (by simpa using hSl)
    rwa [show ((shP g (ln g (folI g l1)) (folI g l1)).map nats).all (wordB g) = true by
      rw [List.all_eq_true]
      intro z hz
      obtain ⟨y, hy, rfl⟩ := List.mem_map.1 hz
      have h8 := (shP_mem hg _ _ hX (Nat.le_refl _) y).1 hy
      exact word_nats h8.1 (by rw [h8.2.1]; omega)] at h9)
  have HLv := Lib.hid (fun v W h => Leave_arg g hg v l1 s W h hw1 (.inr (by simp [mirB]; omega)))
  have hs0 := hs
  have hfs : flS g (folI g l1) (kM g) < 16 := Nat.lt_of_lt_of_le (flS_lt g _ _) (Nat.pow_le_pow_right (n := 2) (by decide) hk4)
  rw [← HLa.out] at hfs HFl 
  have HL4 : Hid (∀ i, laS ((shP g (ln g (folI g l1)) (folI g l1)).take i) < 16) := Lib.hid (fun i => laS_lt _ _ rfl fun y hy z hz => by
    have h8 := (shP_mem hg _ _ hX (Nat.le_refl _) y).1 (List.mem_of_mem_take hy)
    have := h8.1 z hz
    omega)
  have HSw : Hid (∀ y ∈ shP g (ln g (folI g l1)) (folI g l1), y.length = ln g (folI g l1) ∧ ∀ z ∈ y, z < 4) := Lib.hid (fun y hy => by
    have h8 := (shP_mem hg _ _ hX (Nat.le_refl _) y).1 hy
    exact ⟨h8.2.1, fun z hz => by have := h8.1 z hz; omega⟩)
  clear HSm HLa
  generalize shP g (ln g (folI g l1)) (folI g l1) = sp at *
  obtain ⟨sl, hsl⟩ : ∃ sl, sl = sp.length := ⟨_, rfl⟩
  rw [← hsl] at HWs hSl hSp
  have HSL := Lib.hid hsl
  obtain ⟨n, hn⟩ : ∃ n, n = ln g (folI g l1) := ⟨_, rfl⟩
  rw [← hn] at HSw hl12 hln
  have HN := Lib.hid hn
  clear hsl hn
  have HLn9 := Lib.hid hln


  clear hln
  generalize hXX : folI g l1 = X at *
  clear hXX
  obtain ⟨va1, vc1, rfl, _, _, _⟩ := h1.open
  have H10 := Lib.hid h1
  clear h1 hw1
  go_enter Try.func14, Try.ntmps14
  go_wp2_with fail
  refine (HOf.out _).mono ?_
  rintro e w1 ⟨rfl, hb⟩
  have HG : Hid (Blk 23 w1 w.heap.size #[.int .u8 (kd g), .int .i64 (nm g)]) := Lib.hid ((Blk.new _ _ _).below hb)
  have HB : Hid (Below w.heap.size w w1) := Lib.hid (bl1 hb)
  have H1 := Lib.hid (H10.out.below HB.out (Nat.le_refl _))
  clear hb H10
  have g0 := HG.out.at0.1
  have g1 := HG.out.at0.2
  go_wp2_with fail
  clear g0 g1
  refine (HLi.out _ _ H1.out).mono ?_
  rintro e w2 ⟨la, lc, rfl, hm1, hb⟩
  have HBn : Hid (Below w1.heap.size w1 w2) := Lib.hid (hb)
  have HG_n := Lib.hid (HG.out.below HBn.out)
  have H1_n := Lib.hid (H1.out.below HBn.out (Nat.le_refl _))
  have HB_n := Lib.hid (HB.out.trans (HBn.out.mono HB.out.size))
  clear HG H1 HB
  have HG := HG_n
  have H1 := H1_n
  have HB := HB_n
  clear HG_n H1_n HB_n HBn hb
  have HM1 := Lib.hid hm1
  clear hm1
  have g0 := HG.out.at0.1
  have g1 := HG.out.at0.2
  go_wp2_with fail
  clear g0 g1
  refine (HFl.out _ _ HM1.out).mono ?_
  rintro e w3 ⟨rfl, hb⟩
  have HBn : Hid (Below w2.heap.size w2 w3) := Lib.hid (hb)
  have HG_n := Lib.hid (HG.out.below HBn.out)
  have H1_n := Lib.hid (H1.out.below HBn.out (Nat.le_refl _))
  have HM1_n := Lib.hid (HM1.out.below HBn.out (Nat.le_refl _))
  have HB_n := Lib.hid (HB.out.trans (HBn.out.mono HB.out.size))
  clear HG H1 HM1 HB
  have HG := HG_n
  have H1 := H1_n
  have HM1 := HM1_n
  have HB := HB_n
  clear HG_n H1_n HM1_n HB_n HBn hb
  have g0 := HG.out.at0.1
  have g1 := HG.out.at0.2
  go_wp2_with fail
  clear HM1
  clear g0 g1
  refine (HOf.out _).mono ?_
  rintro e w4 ⟨rfl, hb⟩
  have HBn : Hid (Below w3.heap.size w3 w4) := Lib.hid (hb)
  have HG_n := Lib.hid (HG.out.below HBn.out)
  have H1_n := Lib.hid (H1.out.below HBn.out (Nat.le_refl _))
  have HB_n := Lib.hid (HB.out.trans (HBn.out.mono HB.out.size))
  clear HG H1 HB
  have HG := HG_n
  have H1 := H1_n
  have HB := HB_n
  clear HG_n H1_n HB_n HBn hb
  have g0 := HG.out.at0.1
  have g1 := HG.out.at0.2
  go_wp2_with fail
  clear g0 g1
  refine (HLi.out _ _ H1.out).mono ?_
  rintro e w5 ⟨la, lc, rfl, hm1, hb⟩
  have HBn : Hid (Below w4.heap.size w4 w5) := Lib.hid (hb)
  have HG_n := Lib.hid (HG.out.below HBn.out)
  have H1_n := Lib.hid (H1.out.below HBn.out (Nat.le_refl _))
  have HB_n := Lib.hid (HB.out.trans (HBn.out.mono HB.out.size))
  clear HG H1 HB
  have HG := HG_n
  have H1 := H1_n
  have HB := HB_n
  clear HG_n H1_n HB_n HBn hb
  have HM1 := Lib.hid hm1
  clear hm1
  have g0 := HG.out.at0.1
  have g1 := HG.out.at0.2
  go_wp2_with fail
  clear g0 g1
  refine (HWs.out _ _ HM1.out).mono ?_
  rintro e w6 ⟨sa, sc, rfl, hsw, hb⟩
  have HBn : Hid (Below w5.heap.size w5 w6) := Lib.hid (hb)
  have HG_n := Lib.hid (HG.out.below HBn.out)
  have H1_n := Lib.hid (H1.out.below HBn.out (Nat.le_refl _))
  have HM1_n := Lib.hid (HM1.out.below HBn.out (Nat.le_refl _))
  have HB_n := Lib.hid (HB.out.trans (HBn.out.mono HB.out.size))
  clear HG H1 HM1 HB
  have HG := HG_n
  have H1 := H1_n
  have HM1 := HM1_n
  have HB := HB_n
  clear HG_n H1_n HM1_n HB_n HBn hb
  have HSW := Lib.hid hsw
  clear hsw
  have g0 := HG.out.at0.1
  have g1 := HG.out.at0.2
  go_wp2_with fail
  clear HM1
  clear g0 g1
  refine (HF.out _ _ (rows1 (Blk.new _ _ _) (H1.out.alloc _))).mono ?_
  rintro e w7 ⟨rfl, hb⟩
  have HBn : Hid (Below w6.heap.size w6 w7) := Lib.hid (bl1 hb)
  have HG_n := Lib.hid (HG.out.below HBn.out)
  have H1_n := Lib.hid (H1.out.below HBn.out (Nat.le_refl _))
  have HSW_n := Lib.hid (HSW.out.below HBn.out (Nat.le_refl _))
  have HB_n := Lib.hid (HB.out.trans (HBn.out.mono HB.out.size))
  clear HG H1 HSW HB
  have HG := HG_n
  have H1 := H1_n
  have HSW := HSW_n
  have HB := HB_n
  clear HG_n H1_n HSW_n HB_n HBn hb
  have g0 := HG.out.at0.1
  have g1 := HG.out.at0.2
  go_wp2_with fail
  clear g0 g1
  refine (HFg.out _ _ HSW.out).mono ?_
  rintro e w8 ⟨rfl, hb⟩
  have HBn : Hid (Below w7.heap.size w7 w8) := Lib.hid (hb)
  have HG_n := Lib.hid (HG.out.below HBn.out)
  have H1_n := Lib.hid (H1.out.below HBn.out (Nat.le_refl _))
  have HSW_n := Lib.hid (HSW.out.below HBn.out (Nat.le_refl _))
  have HB_n := Lib.hid (HB.out.trans (HBn.out.mono HB.out.size))
  clear HG H1 HSW HB
  have HG := HG_n
  have H1 := H1_n
  have HSW := HSW_n
  have HB := HB_n
  clear HG_n H1_n HSW_n HB_n HBn hb
  have g0 := HG.out.at0.1
  have g1 := HG.out.at0.2
  go_wp2_with fail
  obtain ⟨_, _, e, hscap, _, hsx⟩ := SlOf.open HSW.out
  simp only [Value.slice.injEq] at e
  obtain ⟨rfl, -, rfl⟩ := e
  have HSX := Lib.hid hsx
  rw [← HSL.out] at hscap
  clear hsx
  go_loop [69, 11] (fun i a => ∃ k : Nat, k ≤ sl ∧ i = .int .i64 k ∧ a = .int .i64 (laS (sp.take k) : Nat)) (fun i _ => sl - (intOf i).toNat)
  case atStart => exact ⟨0, Nat.zero_le _, rfl, rfl⟩
  case round =>
    obtain ⟨k, hk, rfl, rfl⟩ := hrel
    by_cases hl : k < sl
    · obtain ⟨l, hkl⟩ : ∃ l, sp[k]? = some l := ⟨sp[k]'(by rw [← HSL.out]; exact hl), by simp⟩
      obtain ⟨b, o, u, rfl, hck, hu⟩ := HSX.out k l hkl
      obtain ⟨ua, uc, rfl, huc, _, hux⟩ := Nats.open hu
      obtain ⟨hln9, hl4⟩ := HSw.out l (List.mem_of_getElem? hkl)
      have h16 := HL4.out k
      have HSs : Hid (laS (sp.take (k + 1)) = if l.length = 0 then laS (sp.take k) else laS (sp.take k) ||| 2 ^ (l.getD (l.length - 1) 0)) := Lib.hid (by
        rw [List.take_add_one, hkl]; exact laS_snoc _ l)
      have HUX := Lib.hid hux
      have HL49 := Lib.hid hl4
      clear hu hux hl4 hkl
      rw [hln9] at hck huc HSs HUX
      have hnI : n ≤ 12 := hl12
      by_cases h0 : n = 0
      · have HE : Hid (laS (sp.take (k + 1)) = laS (sp.take k)) := Lib.hid (by rw [HSs.out, if_pos h0])
        have h0' : ¬ (0 : Int) < (n : Int) := by omega
        clear HSs HUX h0 hln9
        generalize laS (sp.take k) = y at *
        go_wp2_with fail
        go_round
        case rel => exact ⟨k + 1, by omega, by go_num, by rw [HE.out]⟩
        case measure => simp [intOf]; omega
      · obtain ⟨b2, o2, rfl, c2⟩ := HUX.out (n - 1) (by omega)
        have hx4 : l.getD (n - 1) 0 < 4 := HL49.out _ (natD_mem (by rw [hln9]; omega))
        have HE : Hid (laS (sp.take (k + 1)) = laS (sp.take k) ||| 2 ^ l.getD (n - 1) 0) := Lib.hid (by rw [HSs.out, if_neg h0])
        have h0' : (0 : Int) < (n : Int) := by omega
        have ht2 : (n : Int) - 1 = ((n - 1 : Nat) : Int) := by omega
        clear HSs HUX hln9
        generalize laS (sp.take k) = y at *
        generalize l.getD (n - 1) 0 = z at *
        have hp16 : 2 ^ z ≤ 8 := Nat.pow_le_pow_right (n := 2) (by decide) (show z ≤ 3 by omega)
        have hor : bits .or .i64 (y : Int) ((2:Int) ^ z) = ((y ||| 2 ^ z : Nat) : Int) := by rw [← pw_cast]; exact i64_or _ _ (by omega) (by omega)
        have hd3 : IntKind.i64.wrap ((2:Int) ^ z) = (2:Int) ^ z := by have := pw_bd z (by omega); exact i64_of (by omega) (by omega)
        clear hp16
        generalize y ||| 2 ^ z = y2 at *
        generalize hn1 : n - 1 = n1 at *
        have hn1a : n1 + 1 ≤ n := by omega
        have hn1b : n ≤ n1 + 1 := by omega
        clear hn1
        go_wp2_with fail
        go_round
        case rel => exact ⟨k + 1, by omega, by go_num, by rw [HE.out]⟩
        case measure => simp [intOf]; omega
    · have hkk : k = sl := by omega
      have HLt : Hid (laS (sp.take k) = laS sp) := Lib.hid (by rw [hkk, HSL.out, List.take_length])
      rw [HLt.out]
      obtain ⟨l0, hk0⟩ : ∃ l, sp[0]? = some l := ⟨sp[0]'(by rw [← HSL.out]; exact hSp), by simp⟩
      obtain ⟨b0, o0, u0, rfl, hck0, hu0⟩ := HSX.out 0 l0 hk0
      obtain ⟨ua0, uc0, rfl, _, _, _⟩ := Nats.open hu0
      have hln0 := (HSw.out l0 (List.mem_of_getElem? hk0)).1
      rw [hln0] at hck0
      rw [Nat.add_zero] at hck0
      have HC0 : Hid (Cel ⟨b0, o0, none⟩ (.slice ua0 n uc0) _) := Lib.hid hck0
      clear hkk HLt hu0 hk0 hln0 HSX HSw HL4 hck0
      generalize laS sp = fs at *
      go_wp2_with fail
      clear HSW
      clear g0 g1
      refine (HOf.out _).mono ?_
      rintro e w9 ⟨rfl, hb⟩
      have HBn : Hid (Below w8.heap.size w8 w9) := Lib.hid (hb)
      have HG_n := Lib.hid (HG.out.below HBn.out)
      have H1_n := Lib.hid (H1.out.below HBn.out (Nat.le_refl _))
      have HC0_n := Lib.hid (HC0.out.below HBn.out)
      have HB_n := Lib.hid (HB.out.trans (HBn.out.mono HB.out.size))
      clear HG H1 HC0 HB
      have HG := HG_n
      have H1 := H1_n
      have HC0 := HC0_n
      have HB := HB_n
      clear HG_n H1_n HC0_n HB_n HBn hb
      have g0 := HG.out.at0.1
      have g1 := HG.out.at0.2
      go_wp2_with fail
      clear g0 g1
      refine (HLi.out _ _ H1.out).mono ?_
      rintro e w10 ⟨la, lc, rfl, hm1, hb⟩
      have HBn : Hid (Below w9.heap.size w9 w10) := Lib.hid (hb)
      have HG_n := Lib.hid (HG.out.below HBn.out)
      have H1_n := Lib.hid (H1.out.below HBn.out (Nat.le_refl _))
      have HC0_n := Lib.hid (HC0.out.below HBn.out)
      have HB_n := Lib.hid (HB.out.trans (HBn.out.mono HB.out.size))
      clear HG H1 HC0 HB
      have HG := HG_n
      have H1 := H1_n
      have HC0 := HC0_n
      have HB := HB_n
      clear HG_n H1_n HC0_n HB_n HBn hb
      have HM1 := Lib.hid hm1
      clear hm1
      have g0 := HG.out.at0.1
      have g1 := HG.out.at0.2
      go_wp2_with fail
      clear g0 g1
      refine (HLv.out _ _ HM1.out).mono ?_
      rintro e w11 ⟨rfl, hb⟩
      have HBn : Hid (Below w10.heap.size w10 w11) := Lib.hid (hb)
      have HG_n := Lib.hid (HG.out.below HBn.out)
      have H1_n := Lib.hid (H1.out.below HBn.out (Nat.le_refl _))
      have HC0_n := Lib.hid (HC0.out.below HBn.out)
      have HM1_n := Lib.hid (HM1.out.below HBn.out (Nat.le_refl _))
      have HB_n := Lib.hid (HB.out.trans (HBn.out.mono HB.out.size))
      clear HG H1 HC0 HM1 HB
      have HG := HG_n
      have H1 := H1_n
      have HC0 := HC0_n
      have HM1 := HM1_n
      have HB := HB_n
      clear HG_n H1_n HC0_n HM1_n HB_n HBn hb
      have g0 := HG.out.at0.1
      have g1 := HG.out.at0.2
      have hc0 : _ = some _ := HC0.out
      have hq1 : ((l1.length : Int) == (n : Int)) = true := beq_iff_eq.2 (by have := HLn9.out; omega)

      go_wp2_with fail
      clear hc0
      clear HM1 HC0
      clear g0 g1
      refine (HAw.out _).mono ?_
      rintro e w12 ⟨rfl, hb⟩
      have HBn : Hid (Below w11.heap.size w11 w12) := Lib.hid (hb)
      have HG_n := Lib.hid (HG.out.below HBn.out)
      have H1_n := Lib.hid (H1.out.below HBn.out (Nat.le_refl _))
      have HB_n := Lib.hid (HB.out.trans (HBn.out.mono HB.out.size))
      clear HG H1 HB
      have HG := HG_n
      have H1 := H1_n
      have HB := HB_n
      clear HG_n H1_n HB_n HBn hb
      have g0 := HG.out.at0.1
      have g1 := HG.out.at0.2
      go_wp2_with fail
      go_ret
      exact ⟨rfl, HB.out⟩

set_option maxRecDepth 100000 in
set_option maxHeartbeats 4000000 in
theorem leaves_c (g : Nat) (hg : g < 17) (v1 : Value) (l1 : List Int) (s : Int) (w : World) (h1 : Ints w v1 l1) (hw1 : wordB g l1 = true) (hln : ln g (folI g l1) = l1.length) (hs : 4 ≤ s) :
    Calls Try.prog 14 #[gV (kd g) (nm g), v1, .int .i64 s] w fun e w' => e = .returned (.bool true) ∧ Below w.heap.size w w' := by
  have q1 : l1.length ≤ 30 := by simp [wordB] at hw1; omega
  have hk4 := (tg hg).2.2.2.1
  have HOf := Lib.hid (fun W => Of_any (kd g) (nm g) W)
  have HLi := Lib.hid (fun v W h => listOk q1 v W h)
  have HF := Lib.hid (fun v W h => fine_any g hg v [l1] W h (by simp))
  rw [show [l1].all (wordB g) = true by simp [hw1]] at HF
  have HAw := Lib.hid (fun W => awake_any W)
  have hE := tE hg
  have hX := folI_lt hg hw1
  have hl12 := (tx hg hX).2.1
  have HFl := Lib.hid (fun v W h => Falls_ok g hg v l1 W h hw1)
  have HWs := Lib.hid (fun v W h => Words_ok g hg v l1 W h hw1)
  have HSm := Lib.hid (fun a => shP_mem hg (ln g (folI g l1)) (folI g l1) hX (Nat.le_refl _) a)
  have hSl := shP_len hg hX
  have hSp := shP_pos hg hX
  have HLa := Lib.hid (lv_last hg hX)
  have HFg : Hid (∀ v W, NatRows W v (shP g (ln g (folI g l1)) (folI g l1)) → Calls Try.prog 24 #[gV (kd g) (nm g), v] W fun e w' => e = .returned (.bool true) ∧ Below W.heap.size W w') := Lib.hid (fun v W h => by
    have h9 := fineL_any g hg v _ W h.ints (by simpa using hSl)
    rwa [show ((shP g (ln g (folI g l1)) (folI g l1)).map nats).all (wordB g) = true by
      rw [List.all_eq_true]
      intro z hz
      obtain ⟨y, hy, rfl⟩ := List.mem_map.1 hz
      have h8 := (shP_mem hg _ _ hX (Nat.le_refl _) y).1 hy
      exact word_nats h8.1 (by rw [h8.2.1]; omega)] at h9)
  have HLv := Lib.hid (fun v W h => Leave_arg g hg v l1 s W h hw1 (.inr (by simp [mirB]; omega)))
  have hs1 : ¬ s < 0 := by omega
  have hs2 : ¬ s < 4 := by omega
  have hfs : flS g (folI g l1) (kM g) < 16 := Nat.lt_of_lt_of_le (flS_lt g _ _) (Nat.pow_le_pow_right (n := 2) (by decide) hk4)
  rw [← HLa.out] at hfs HFl 
  have HL4 : Hid (∀ i, laS ((shP g (ln g (folI g l1)) (folI g l1)).take i) < 16) := Lib.hid (fun i => laS_lt _ _ rfl fun y hy z hz => by
    have h8 := (shP_mem hg _ _ hX (Nat.le_refl _) y).1 (List.mem_of_mem_take hy)
    have := h8.1 z hz
    omega)
  have HSw : Hid (∀ y ∈ shP g (ln g (folI g l1)) (folI g l1), y.length = ln g (folI g l1) ∧ ∀ z ∈ y, z < 4) := Lib.hid (fun y hy => by
    have h8 := (shP_mem hg _ _ hX (Nat.le_refl _) y).1 hy
    exact ⟨h8.2.1, fun z hz => by have := h8.1 z hz; omega⟩)
  clear HSm HLa
  generalize shP g (ln g (folI g l1)) (folI g l1) = sp at *
  obtain ⟨sl, hsl⟩ : ∃ sl, sl = sp.length := ⟨_, rfl⟩
  rw [← hsl] at HWs hSl hSp
  have HSL := Lib.hid hsl
  obtain ⟨n, hn⟩ : ∃ n, n = ln g (folI g l1) := ⟨_, rfl⟩
  rw [← hn] at HSw hl12 hln
  have HN := Lib.hid hn
  clear hsl hn
  have HLn9 := Lib.hid hln


  clear hln
  generalize hXX : folI g l1 = X at *
  clear hXX
  obtain ⟨va1, vc1, rfl, _, _, _⟩ := h1.open
  have H10 := Lib.hid h1
  clear h1 hw1
  go_enter Try.func14, Try.ntmps14
  go_wp2_with fail
  refine (HOf.out _).mono ?_
  rintro e w1 ⟨rfl, hb⟩
  have HG : Hid (Blk 23 w1 w.heap.size #[.int .u8 (kd g), .int .i64 (nm g)]) := Lib.hid ((Blk.new _ _ _).below hb)
  have HB : Hid (Below w.heap.size w w1) := Lib.hid (bl1 hb)
  have H1 := Lib.hid (H10.out.below HB.out (Nat.le_refl _))
  clear hb H10
  have g0 := HG.out.at0.1
  have g1 := HG.out.at0.2
  go_wp2_with fail
  clear g0 g1
  refine (HLi.out _ _ H1.out).mono ?_
  rintro e w2 ⟨la, lc, rfl, hm1, hb⟩
  have HBn : Hid (Below w1.heap.size w1 w2) := Lib.hid (hb)
  have HG_n := Lib.hid (HG.out.below HBn.out)
  have H1_n := Lib.hid (H1.out.below HBn.out (Nat.le_refl _))
  have HB_n := Lib.hid (HB.out.trans (HBn.out.mono HB.out.size))
  clear HG H1 HB
  have HG := HG_n
  have H1 := H1_n
  have HB := HB_n
  clear HG_n H1_n HB_n HBn hb
  have HM1 := Lib.hid hm1
  clear hm1
  have g0 := HG.out.at0.1
  have g1 := HG.out.at0.2
  go_wp2_with fail
  clear g0 g1
  refine (HFl.out _ _ HM1.out).mono ?_
  rintro e w3 ⟨rfl, hb⟩
  have HBn : Hid (Below w2.heap.size w2 w3) := Lib.hid (hb)
  have HG_n := Lib.hid (HG.out.below HBn.out)
  have H1_n := Lib.hid (H1.out.below HBn.out (Nat.le_refl _))
  have HM1_n := Lib.hid (HM1.out.below HBn.out (Nat.le_refl _))
  have HB_n := Lib.hid (HB.out.trans (HBn.out.mono HB.out.size))
  clear HG H1 HM1 HB
  have HG := HG_n
  have H1 := H1_n
  have HM1 := HM1_n
  have HB := HB_n
  clear HG_n H1_n HM1_n HB_n HBn hb
  have g0 := HG.out.at0.1
  have g1 := HG.out.at0.2
  go_wp2_with fail
  clear HM1
  clear g0 g1
  refine (HOf.out _).mono ?_
  rintro e w4 ⟨rfl, hb⟩
  have HBn : Hid (Below w3.heap.size w3 w4) := Lib.hid (hb)
  have HG_n := Lib.hid (HG.out.below HBn.out)
  have H1_n := Lib.hid (H1.out.below HBn.out (Nat.le_refl _))
  have HB_n := Lib.hid (HB.out.trans (HBn.out.mono HB.out.size))
  clear HG H1 HB
  have HG := HG_n
  have H1 := H1_n
  have HB := HB_n
  clear HG_n H1_n HB_n HBn hb
  have g0 := HG.out.at0.1
  have g1 := HG.out.at0.2
  go_wp2_with fail
  clear g0 g1
  refine (HLi.out _ _ H1.out).mono ?_
  rintro e w5 ⟨la, lc, rfl, hm1, hb⟩
  have HBn : Hid (Below w4.heap.size w4 w5) := Lib.hid (hb)
  have HG_n := Lib.hid (HG.out.below HBn.out)
  have H1_n := Lib.hid (H1.out.below HBn.out (Nat.le_refl _))
  have HB_n := Lib.hid (HB.out.trans (HBn.out.mono HB.out.size))
  clear HG H1 HB
  have HG := HG_n
  have H1 := H1_n
  have HB := HB_n
  clear HG_n H1_n HB_n HBn hb
  have HM1 := Lib.hid hm1
  clear hm1
  have g0 := HG.out.at0.1
  have g1 := HG.out.at0.2
  go_wp2_with fail
  clear g0 g1
  refine (HWs.out _ _ HM1.out).mono ?_
  rintro e w6 ⟨sa, sc, rfl, hsw, hb⟩
  have HBn : Hid (Below w5.heap.size w5 w6) := Lib.hid (hb)
  have HG_n := Lib.hid (HG.out.below HBn.out)
  have H1_n := Lib.hid (H1.out.below HBn.out (Nat.le_refl _))
  have HM1_n := Lib.hid (HM1.out.below HBn.out (Nat.le_refl _))
  have HB_n := Lib.hid (HB.out.trans (HBn.out.mono HB.out.size))
  clear HG H1 HM1 HB
  have HG := HG_n
  have H1 := H1_n
  have HM1 := HM1_n
  have HB := HB_n
  clear HG_n H1_n HM1_n HB_n HBn hb
  have HSW := Lib.hid hsw
  clear hsw
  have g0 := HG.out.at0.1
  have g1 := HG.out.at0.2
  go_wp2_with fail
  clear HM1
  clear g0 g1
  refine (HF.out _ _ (rows1 (Blk.new _ _ _) (H1.out.alloc _))).mono ?_
  rintro e w7 ⟨rfl, hb⟩
  have HBn : Hid (Below w6.heap.size w6 w7) := Lib.hid (bl1 hb)
  have HG_n := Lib.hid (HG.out.below HBn.out)
  have H1_n := Lib.hid (H1.out.below HBn.out (Nat.le_refl _))
  have HSW_n := Lib.hid (HSW.out.below HBn.out (Nat.le_refl _))
  have HB_n := Lib.hid (HB.out.trans (HBn.out.mono HB.out.size))
  clear HG H1 HSW HB
  have HG := HG_n
  have H1 := H1_n
  have HSW := HSW_n
  have HB := HB_n
  clear HG_n H1_n HSW_n HB_n HBn hb
  have g0 := HG.out.at0.1
  have g1 := HG.out.at0.2
  go_wp2_with fail
  clear g0 g1
  refine (HFg.out _ _ HSW.out).mono ?_
  rintro e w8 ⟨rfl, hb⟩
  have HBn : Hid (Below w7.heap.size w7 w8) := Lib.hid (hb)
  have HG_n := Lib.hid (HG.out.below HBn.out)
  have H1_n := Lib.hid (H1.out.below HBn.out (Nat.le_refl _))
  have HSW_n := Lib.hid (HSW.out.below HBn.out (Nat.le_refl _))
  have HB_n := Lib.hid (HB.out.trans (HBn.out.mono HB.out.size))
  clear HG H1 HSW HB
  have HG := HG_n
  have H1 := H1_n
  have HSW := HSW_n
  have HB := HB_n
  clear HG_n H1_n HSW_n HB_n HBn hb
  have g0 := HG.out.at0.1
  have g1 := HG.out.at0.2
  go_wp2_with fail
  obtain ⟨_, _, e, hscap, _, hsx⟩ := SlOf.open HSW.out
  simp only [Value.slice.injEq] at e
  obtain ⟨rfl, -, rfl⟩ := e
  have HSX := Lib.hid hsx
  rw [← HSL.out] at hscap
  clear hsx
  go_loop [69, 11] (fun i a => ∃ k : Nat, k ≤ sl ∧ i = .int .i64 k ∧ a = .int .i64 (laS (sp.take k) : Nat)) (fun i _ => sl - (intOf i).toNat)
  case atStart => exact ⟨0, Nat.zero_le _, rfl, rfl⟩
  case round =>
    obtain ⟨k, hk, rfl, rfl⟩ := hrel
    by_cases hl : k < sl
    · obtain ⟨l, hkl⟩ : ∃ l, sp[k]? = some l := ⟨sp[k]'(by rw [← HSL.out]; exact hl), by simp⟩
      obtain ⟨b, o, u, rfl, hck, hu⟩ := HSX.out k l hkl
      obtain ⟨ua, uc, rfl, huc, _, hux⟩ := Nats.open hu
      obtain ⟨hln9, hl4⟩ := HSw.out l (List.mem_of_getElem? hkl)
      have h16 := HL4.out k
      have HSs : Hid (laS (sp.take (k + 1)) = if l.length = 0 then laS (sp.take k) else laS (sp.take k) ||| 2 ^ (l.getD (l.length - 1) 0)) := Lib.hid (by
        rw [List.take_add_one, hkl]; exact laS_snoc _ l)
      have HUX := Lib.hid hux
      have HL49 := Lib.hid hl4
      clear hu hux hl4 hkl
      rw [hln9] at hck huc HSs HUX
      have hnI : n ≤ 12 := hl12
      by_cases h0 : n = 0
      · have HE : Hid (laS (sp.take (k + 1)) = laS (sp.take k)) := Lib.hid (by rw [HSs.out, if_pos h0])
        have h0' : ¬ (0 : Int) < (n : Int) := by omega
        clear HSs HUX h0 hln9
        generalize laS (sp.take k) = y at *
        go_wp2_with fail
        go_round
        case rel => exact ⟨k + 1, by omega, by go_num, by rw [HE.out]⟩
        case measure => simp [intOf]; omega
      · obtain ⟨b2, o2, rfl, c2⟩ := HUX.out (n - 1) (by omega)
        have hx4 : l.getD (n - 1) 0 < 4 := HL49.out _ (natD_mem (by rw [hln9]; omega))
        have HE : Hid (laS (sp.take (k + 1)) = laS (sp.take k) ||| 2 ^ l.getD (n - 1) 0) := Lib.hid (by rw [HSs.out, if_neg h0])
        have h0' : (0 : Int) < (n : Int) := by omega
        have ht2 : (n : Int) - 1 = ((n - 1 : Nat) : Int) := by omega
        clear HSs HUX hln9
        generalize laS (sp.take k) = y at *
        generalize l.getD (n - 1) 0 = z at *
        have hp16 : 2 ^ z ≤ 8 := Nat.pow_le_pow_right (n := 2) (by decide) (show z ≤ 3 by omega)
        have hor : bits .or .i64 (y : Int) ((2:Int) ^ z) = ((y ||| 2 ^ z : Nat) : Int) := by rw [← pw_cast]; exact i64_or _ _ (by omega) (by omega)
        have hd3 : IntKind.i64.wrap ((2:Int) ^ z) = (2:Int) ^ z := by have := pw_bd z (by omega); exact i64_of (by omega) (by omega)
        clear hp16
        generalize y ||| 2 ^ z = y2 at *
        generalize hn1 : n - 1 = n1 at *
        have hn1a : n1 + 1 ≤ n := by omega
        have hn1b : n ≤ n1 + 1 := by omega
        clear hn1
        go_wp2_with fail
        go_round
        case rel => exact ⟨k + 1, by omega, by go_num, by rw [HE.out]⟩
        case measure => simp [intOf]; omega
    · have hkk : k = sl := by omega
      have HLt : Hid (laS (sp.take k) = laS sp) := Lib.hid (by rw [hkk, HSL.out, List.take_length])
      rw [HLt.out]
      obtain ⟨l0, hk0⟩ : ∃ l, sp[0]? = some l := ⟨sp[0]'(by rw [← HSL.out]; exact hSp), by simp⟩
      obtain ⟨b0, o0, u0, rfl, hck0, hu0⟩ := HSX.out 0 l0 hk0
      obtain ⟨ua0, uc0, rfl, _, _, _⟩ := Nats.open hu0
      have hln0 := (HSw.out l0 (List.mem_of_getElem? hk0)).1
      rw [hln0] at hck0
      rw [Nat.add_zero] at hck0
      have HC0 : Hid (Cel ⟨b0, o0, none⟩ (.slice ua0 n uc0) _) := Lib.hid hck0
      clear hkk HLt hu0 hk0 hln0 HSX HSw HL4 hck0
      generalize laS sp = fs at *
      go_wp2_with fail
      clear HSW
      clear g0 g1
      refine (HOf.out _).mono ?_
      rintro e w9 ⟨rfl, hb⟩
      have HBn : Hid (Below w8.heap.size w8 w9) := Lib.hid (hb)
      have HG_n := Lib.hid (HG.out.below HBn.out)
      have H1_n := Lib.hid (H1.out.below HBn.out (Nat.le_refl _))
      have HC0_n := Lib.hid (HC0.out.below HBn.out)
      have HB_n := Lib.hid (HB.out.trans (HBn.out.mono HB.out.size))
      clear HG H1 HC0 HB
      have HG := HG_n
      have H1 := H1_n
      have HC0 := HC0_n
      have HB := HB_n
      clear HG_n H1_n HC0_n HB_n HBn hb
      have g0 := HG.out.at0.1
      have g1 := HG.out.at0.2
      go_wp2_with fail
      clear g0 g1
      refine (HLi.out _ _ H1.out).mono ?_
      rintro e w10 ⟨la, lc, rfl, hm1, hb⟩
      have HBn : Hid (Below w9.heap.size w9 w10) := Lib.hid (hb)
      have HG_n := Lib.hid (HG.out.below HBn.out)
      have H1_n := Lib.hid (H1.out.below HBn.out (Nat.le_refl _))
      have HC0_n := Lib.hid (HC0.out.below HBn.out)
      have HB_n := Lib.hid (HB.out.trans (HBn.out.mono HB.out.size))
      clear HG H1 HC0 HB
      have HG := HG_n
      have H1 := H1_n
      have HC0 := HC0_n
      have HB := HB_n
      clear HG_n H1_n HC0_n HB_n HBn hb
      have HM1 := Lib.hid hm1
      clear hm1
      have g0 := HG.out.at0.1
      have g1 := HG.out.at0.2
      go_wp2_with fail
      clear g0 g1
      refine (HLv.out _ _ HM1.out).mono ?_
      rintro e w11 ⟨rfl, hb⟩
      have HBn : Hid (Below w10.heap.size w10 w11) := Lib.hid (hb)
      have HG_n := Lib.hid (HG.out.below HBn.out)
      have H1_n := Lib.hid (H1.out.below HBn.out (Nat.le_refl _))
      have HC0_n := Lib.hid (HC0.out.below HBn.out)
      have HM1_n := Lib.hid (HM1.out.below HBn.out (Nat.le_refl _))
      have HB_n := Lib.hid (HB.out.trans (HBn.out.mono HB.out.size))
      clear HG H1 HC0 HM1 HB
      have HG := HG_n
      have H1 := H1_n
      have HC0 := HC0_n
      have HM1 := HM1_n
      have HB := HB_n
      clear HG_n H1_n HC0_n HM1_n HB_n HBn hb
      have g0 := HG.out.at0.1
      have g1 := HG.out.at0.2
      have hc0 : _ = some _ := HC0.out
      have hq1 : ((l1.length : Int) == (n : Int)) = true := beq_iff_eq.2 (by have := HLn9.out; omega)

      go_wp2_with fail
      clear hc0
      clear HM1 HC0
      clear g0 g1
      refine (HAw.out _).mono ?_
      rintro e w12 ⟨rfl, hb⟩
      have HBn : Hid (Below w11.heap.size w11 w12) := Lib.hid (hb)
      have HG_n := Lib.hid (HG.out.below HBn.out)
      have H1_n := Lib.hid (H1.out.below HBn.out (Nat.le_refl _))
      have HB_n := Lib.hid (HB.out.trans (HBn.out.mono HB.out.size))
      clear HG H1 HB
      have HG := HG_n
      have H1 := H1_n
      have HB := HB_n
      clear HG_n H1_n HB_n HBn hb
      have g0 := HG.out.at0.1
      have g1 := HG.out.at0.2
      go_wp2_with fail
      go_ret
      exact ⟨rfl, HB.out⟩

set_option maxRecDepth 100000 in
set_option maxHeartbeats 4000000 in
theorem leaves_d (g : Nat) (hg : g < 17) (v1 : Value) (l1 : List Int) (s : Nat) (w : World) (h1 : Ints w v1 l1) (hw1 : wordB g l1 = true) (hln : ln g (folI g l1) = l1.length) (hs : kM g ≤ s) (hs4 : s < 4) :
    Calls Try.prog 14 #[gV (kd g) (nm g), v1, .int .i64 s] w fun e w' => e = .returned (.bool true) ∧ Below w.heap.size w w' := by
  have q1 : l1.length ≤ 30 := by simp [wordB] at hw1; omega
  have hk4 := (tg hg).2.2.2.1
  have HOf := Lib.hid (fun W => Of_any (kd g) (nm g) W)
  have HLi := Lib.hid (fun v W h => listOk q1 v W h)
  have HF := Lib.hid (fun v W h => fine_any g hg v [l1] W h (by simp))
  rw [show [l1].all (wordB g) = true by simp [hw1]] at HF
  have HAw := Lib.hid (fun W => awake_any W)
  have hE := tE hg
  have hX := folI_lt hg hw1
  have hl12 := (tx hg hX).2.1
  have HFl := Lib.hid (fun v W h => Falls_ok g hg v l1 W h hw1)
  have HWs := Lib.hid (fun v W h => Words_ok g hg v l1 W h hw1)
  have HSm := Lib.hid (fun a => shP_mem hg (ln g (folI g l1)) (folI g l1) hX (Nat.le_refl _) a)
  have hSl := shP_len hg hX
  have hSp := shP_pos hg hX
  have HLa := Lib.hid (lv_last hg hX)
  have HFg : Hid (∀ v W, NatRows W v (shP g (ln g (folI g l1)) (folI g l1)) → Calls Try.prog 24 #[gV (kd g) (nm g), v] W fun e w' => e = .returned (.bool true) ∧ Below W.heap.size W w') := Lib.hid (fun v W h => by
    have h9 := fineL_any g hg v _ W h.ints (by simpa using hSl)
    rwa [show ((shP g (ln g (folI g l1)) (folI g l1)).map nats).all (wordB g) = true by
      rw [List.all_eq_true]
      intro z hz
      obtain ⟨y, hy, rfl⟩ := List.mem_map.1 hz
      have h8 := (shP_mem hg _ _ hX (Nat.le_refl _) y).1 hy
      exact word_nats h8.1 (by rw [h8.2.1]; omega)] at h9)
  have HLv := Lib.hid (fun v W h => Leave_arg g hg v l1 (s : Nat) W h hw1 (.inr (by simp [mirB]; omega)))
  have hfb : flS g (folI g l1) (kM g) < 65536 := Nat.lt_of_lt_of_le (flS_lt g _ _) (Nat.le_trans (Nat.pow_le_pow_right (n := 2) (by decide) hk4) (by decide))
  have hbit : bits .and .i64 (((flS g (folI g l1) (kM g) : Nat) : Int) / 2 ^ s) 1 = 0 := by rw [bit_and1 _ _ hfb, flS_top hs]; rfl
  clear hfb
  have hfs : flS g (folI g l1) (kM g) < 16 := Nat.lt_of_lt_of_le (flS_lt g _ _) (Nat.pow_le_pow_right (n := 2) (by decide) hk4)
  rw [← HLa.out] at hfs HFl hbit
  have HL4 : Hid (∀ i, laS ((shP g (ln g (folI g l1)) (folI g l1)).take i) < 16) := Lib.hid (fun i => laS_lt _ _ rfl fun y hy z hz => by
    have h8 := (shP_mem hg _ _ hX (Nat.le_refl _) y).1 (List.mem_of_mem_take hy)
    have := h8.1 z hz
    omega)
  have HSw : Hid (∀ y ∈ shP g (ln g (folI g l1)) (folI g l1), y.length = ln g (folI g l1) ∧ ∀ z ∈ y, z < 4) := Lib.hid (fun y hy => by
    have h8 := (shP_mem hg _ _ hX (Nat.le_refl _) y).1 hy
    exact ⟨h8.2.1, fun z hz => by have := h8.1 z hz; omega⟩)
  clear HSm HLa
  generalize shP g (ln g (folI g l1)) (folI g l1) = sp at *
  obtain ⟨sl, hsl⟩ : ∃ sl, sl = sp.length := ⟨_, rfl⟩
  rw [← hsl] at HWs hSl hSp
  have HSL := Lib.hid hsl
  obtain ⟨n, hn⟩ : ∃ n, n = ln g (folI g l1) := ⟨_, rfl⟩
  rw [← hn] at HSw hl12 hln
  have HN := Lib.hid hn
  clear hsl hn
  have HLn9 := Lib.hid hln
  have HBt := Lib.hid hbit
  clear hbit
  clear hln
  generalize hXX : folI g l1 = X at *
  clear hXX
  obtain ⟨va1, vc1, rfl, _, _, _⟩ := h1.open
  have H10 := Lib.hid h1
  clear h1 hw1
  go_enter Try.func14, Try.ntmps14
  go_wp2_with fail
  refine (HOf.out _).mono ?_
  rintro e w1 ⟨rfl, hb⟩
  have HG : Hid (Blk 23 w1 w.heap.size #[.int .u8 (kd g), .int .i64 (nm g)]) := Lib.hid ((Blk.new _ _ _).below hb)
  have HB : Hid (Below w.heap.size w w1) := Lib.hid (bl1 hb)
  have H1 := Lib.hid (H10.out.below HB.out (Nat.le_refl _))
  clear hb H10
  have g0 := HG.out.at0.1
  have g1 := HG.out.at0.2
  go_wp2_with fail
  clear g0 g1
  refine (HLi.out _ _ H1.out).mono ?_
  rintro e w2 ⟨la, lc, rfl, hm1, hb⟩
  have HBn : Hid (Below w1.heap.size w1 w2) := Lib.hid (hb)
  have HG_n := Lib.hid (HG.out.below HBn.out)
  have H1_n := Lib.hid (H1.out.below HBn.out (Nat.le_refl _))
  have HB_n := Lib.hid (HB.out.trans (HBn.out.mono HB.out.size))
  clear HG H1 HB
  have HG := HG_n
  have H1 := H1_n
  have HB := HB_n
  clear HG_n H1_n HB_n HBn hb
  have HM1 := Lib.hid hm1
  clear hm1
  have g0 := HG.out.at0.1
  have g1 := HG.out.at0.2
  go_wp2_with fail
  clear g0 g1
  refine (HFl.out _ _ HM1.out).mono ?_
  rintro e w3 ⟨rfl, hb⟩
  have HBn : Hid (Below w2.heap.size w2 w3) := Lib.hid (hb)
  have HG_n := Lib.hid (HG.out.below HBn.out)
  have H1_n := Lib.hid (H1.out.below HBn.out (Nat.le_refl _))
  have HM1_n := Lib.hid (HM1.out.below HBn.out (Nat.le_refl _))
  have HB_n := Lib.hid (HB.out.trans (HBn.out.mono HB.out.size))
  clear HG H1 HM1 HB
  have HG := HG_n
  have H1 := H1_n
  have HM1 := HM1_n
  have HB := HB_n
  clear HG_n H1_n HM1_n HB_n HBn hb
  have g0 := HG.out.at0.1
  have g1 := HG.out.at0.2
  go_wp2_with fail
  clear HM1
  clear g0 g1
  refine (HOf.out _).mono ?_
  rintro e w4 ⟨rfl, hb⟩
  have HBn : Hid (Below w3.heap.size w3 w4) := Lib.hid (hb)
  have HG_n := Lib.hid (HG.out.below HBn.out)
  have H1_n := Lib.hid (H1.out.below HBn.out (Nat.le_refl _))
  have HB_n := Lib.hid (HB.out.trans (HBn.out.mono HB.out.size))
  clear HG H1 HB
  have HG := HG_n
  have H1 := H1_n
  have HB := HB_n
  clear HG_n H1_n HB_n HBn hb
  have g0 := HG.out.at0.1
  have g1 := HG.out.at0.2
  go_wp2_with fail
  clear g0 g1
  refine (HLi.out _ _ H1.out).mono ?_
  rintro e w5 ⟨la, lc, rfl, hm1, hb⟩
  have HBn : Hid (Below w4.heap.size w4 w5) := Lib.hid (hb)
  have HG_n := Lib.hid (HG.out.below HBn.out)
  have H1_n := Lib.hid (H1.out.below HBn.out (Nat.le_refl _))
  have HB_n := Lib.hid (HB.out.trans (HBn.out.mono HB.out.size))
  clear HG H1 HB
  have HG := HG_n
  have H1 := H1_n
  have HB := HB_n
  clear HG_n H1_n HB_n HBn hb
  have HM1 := Lib.hid hm1
  clear hm1
  have g0 := HG.out.at0.1
  have g1 := HG.out.at0.2
  go_wp2_with fail
  clear g0 g1
  refine (HWs.out _ _ HM1.out).mono ?_
  rintro e w6 ⟨sa, sc, rfl, hsw, hb⟩
  have HBn : Hid (Below w5.heap.size w5 w6) := Lib.hid (hb)
  have HG_n := Lib.hid (HG.out.below HBn.out)
  have H1_n := Lib.hid (H1.out.below HBn.out (Nat.le_refl _))
  have HM1_n := Lib.hid (HM1.out.below HBn.out (Nat.le_refl _))
  have HB_n := Lib.hid (HB.out.trans (HBn.out.mono HB.out.size))
  clear HG H1 HM1 HB
  have HG := HG_n
  have H1 := H1_n
  have HM1 := HM1_n
  have HB := HB_n
  clear HG_n H1_n HM1_n HB_n HBn hb
  have HSW := Lib.hid hsw
  clear hsw
  have g0 := HG.out.at0.1
  have g1 := HG.out.at0.2
  go_wp2_with fail
  clear HM1
  clear g0 g1
  refine (HF.out _ _ (rows1 (Blk.new _ _ _) (H1.out.alloc _))).mono ?_
  rintro e w7 ⟨rfl, hb⟩
  have HBn : Hid (Below w6.heap.size w6 w7) := Lib.hid (bl1 hb)
  have HG_n := Lib.hid (HG.out.below HBn.out)
  have H1_n := Lib.hid (H1.out.below HBn.out (Nat.le_refl _))
  have HSW_n := Lib.hid (HSW.out.below HBn.out (Nat.le_refl _))
  have HB_n := Lib.hid (HB.out.trans (HBn.out.mono HB.out.size))
  clear HG H1 HSW HB
  have HG := HG_n
  have H1 := H1_n
  have HSW := HSW_n
  have HB := HB_n
  clear HG_n H1_n HSW_n HB_n HBn hb
  have g0 := HG.out.at0.1
  have g1 := HG.out.at0.2
  go_wp2_with fail
  clear g0 g1
  refine (HFg.out _ _ HSW.out).mono ?_
  rintro e w8 ⟨rfl, hb⟩
  have HBn : Hid (Below w7.heap.size w7 w8) := Lib.hid (hb)
  have HG_n := Lib.hid (HG.out.below HBn.out)
  have H1_n := Lib.hid (H1.out.below HBn.out (Nat.le_refl _))
  have HSW_n := Lib.hid (HSW.out.below HBn.out (Nat.le_refl _))
  have HB_n := Lib.hid (HB.out.trans (HBn.out.mono HB.out.size))
  clear HG H1 HSW HB
  have HG := HG_n
  have H1 := H1_n
  have HSW := HSW_n
  have HB := HB_n
  clear HG_n H1_n HSW_n HB_n HBn hb
  have g0 := HG.out.at0.1
  have g1 := HG.out.at0.2
  go_wp2_with fail
  obtain ⟨_, _, e, hscap, _, hsx⟩ := SlOf.open HSW.out
  simp only [Value.slice.injEq] at e
  obtain ⟨rfl, -, rfl⟩ := e
  have HSX := Lib.hid hsx
  rw [← HSL.out] at hscap
  clear hsx
  go_loop [69, 11] (fun i a => ∃ k : Nat, k ≤ sl ∧ i = .int .i64 k ∧ a = .int .i64 (laS (sp.take k) : Nat)) (fun i _ => sl - (intOf i).toNat)
  case atStart => exact ⟨0, Nat.zero_le _, rfl, rfl⟩
  case round =>
    obtain ⟨k, hk, rfl, rfl⟩ := hrel
    by_cases hl : k < sl
    · obtain ⟨l, hkl⟩ : ∃ l, sp[k]? = some l := ⟨sp[k]'(by rw [← HSL.out]; exact hl), by simp⟩
      obtain ⟨b, o, u, rfl, hck, hu⟩ := HSX.out k l hkl
      obtain ⟨ua, uc, rfl, huc, _, hux⟩ := Nats.open hu
      obtain ⟨hln9, hl4⟩ := HSw.out l (List.mem_of_getElem? hkl)
      have h16 := HL4.out k
      have HSs : Hid (laS (sp.take (k + 1)) = if l.length = 0 then laS (sp.take k) else laS (sp.take k) ||| 2 ^ (l.getD (l.length - 1) 0)) := Lib.hid (by
        rw [List.take_add_one, hkl]; exact laS_snoc _ l)
      have HUX := Lib.hid hux
      have HL49 := Lib.hid hl4
      clear hu hux hl4 hkl
      rw [hln9] at hck huc HSs HUX
      have hnI : n ≤ 12 := hl12
      by_cases h0 : n = 0
      · have HE : Hid (laS (sp.take (k + 1)) = laS (sp.take k)) := Lib.hid (by rw [HSs.out, if_pos h0])
        have h0' : ¬ (0 : Int) < (n : Int) := by omega
        clear HSs HUX h0 hln9
        generalize laS (sp.take k) = y at *
        go_wp2_with fail
        go_round
        case rel => exact ⟨k + 1, by omega, by go_num, by rw [HE.out]⟩
        case measure => simp [intOf]; omega
      · obtain ⟨b2, o2, rfl, c2⟩ := HUX.out (n - 1) (by omega)
        have hx4 : l.getD (n - 1) 0 < 4 := HL49.out _ (natD_mem (by rw [hln9]; omega))
        have HE : Hid (laS (sp.take (k + 1)) = laS (sp.take k) ||| 2 ^ l.getD (n - 1) 0) := Lib.hid (by rw [HSs.out, if_neg h0])
        have h0' : (0 : Int) < (n : Int) := by omega
        have ht2 : (n : Int) - 1 = ((n - 1 : Nat) : Int) := by omega
        clear HSs HUX hln9
        generalize laS (sp.take k) = y at *
        generalize l.getD (n - 1) 0 = z at *
        have hp16 : 2 ^ z ≤ 8 := Nat.pow_le_pow_right (n := 2) (by decide) (show z ≤ 3 by omega)
        have hor : bits .or .i64 (y : Int) ((2:Int) ^ z) = ((y ||| 2 ^ z : Nat) : Int) := by rw [← pw_cast]; exact i64_or _ _ (by omega) (by omega)
        have hd3 : IntKind.i64.wrap ((2:Int) ^ z) = (2:Int) ^ z := by have := pw_bd z (by omega); exact i64_of (by omega) (by omega)
        clear hp16
        generalize y ||| 2 ^ z = y2 at *
        generalize hn1 : n - 1 = n1 at *
        have hn1a : n1 + 1 ≤ n := by omega
        have hn1b : n ≤ n1 + 1 := by omega
        clear hn1
        go_wp2_with fail
        go_round
        case rel => exact ⟨k + 1, by omega, by go_num, by rw [HE.out]⟩
        case measure => simp [intOf]; omega
    · have hkk : k = sl := by omega
      have HLt : Hid (laS (sp.take k) = laS sp) := Lib.hid (by rw [hkk, HSL.out, List.take_length])
      rw [HLt.out]
      obtain ⟨l0, hk0⟩ : ∃ l, sp[0]? = some l := ⟨sp[0]'(by rw [← HSL.out]; exact hSp), by simp⟩
      obtain ⟨b0, o0, u0, rfl, hck0, hu0⟩ := HSX.out 0 l0 hk0
      obtain ⟨ua0, uc0, rfl, _, _, _⟩ := Nats.open hu0
      have hln0 := (HSw.out l0 (List.mem_of_getElem? hk0)).1
      rw [hln0] at hck0
      rw [Nat.add_zero] at hck0
      have HC0 : Hid (Cel ⟨b0, o0, none⟩ (.slice ua0 n uc0) _) := Lib.hid hck0
      clear hkk HLt hu0 hk0 hln0 HSX HSw HL4 hck0
      generalize laS sp = fs at *
      go_wp2_with fail
      clear HSW
      clear g0 g1
      refine (HOf.out _).mono ?_
      rintro e w9 ⟨rfl, hb⟩
      have HBn : Hid (Below w8.heap.size w8 w9) := Lib.hid (hb)
      have HG_n := Lib.hid (HG.out.below HBn.out)
      have H1_n := Lib.hid (H1.out.below HBn.out (Nat.le_refl _))
      have HC0_n := Lib.hid (HC0.out.below HBn.out)
      have HB_n := Lib.hid (HB.out.trans (HBn.out.mono HB.out.size))
      clear HG H1 HC0 HB
      have HG := HG_n
      have H1 := H1_n
      have HC0 := HC0_n
      have HB := HB_n
      clear HG_n H1_n HC0_n HB_n HBn hb
      have g0 := HG.out.at0.1
      have g1 := HG.out.at0.2
      go_wp2_with fail
      clear g0 g1
      refine (HLi.out _ _ H1.out).mono ?_
      rintro e w10 ⟨la, lc, rfl, hm1, hb⟩
      have HBn : Hid (Below w9.heap.size w9 w10) := Lib.hid (hb)
      have HG_n := Lib.hid (HG.out.below HBn.out)
      have H1_n := Lib.hid (H1.out.below HBn.out (Nat.le_refl _))
      have HC0_n := Lib.hid (HC0.out.below HBn.out)
      have HB_n := Lib.hid (HB.out.trans (HBn.out.mono HB.out.size))
      clear HG H1 HC0 HB
      have HG := HG_n
      have H1 := H1_n
      have HC0 := HC0_n
      have HB := HB_n
      clear HG_n H1_n HC0_n HB_n HBn hb
      have HM1 := Lib.hid hm1
      clear hm1
      have g0 := HG.out.at0.1
      have g1 := HG.out.at0.2
      go_wp2_with fail
      clear g0 g1
      refine (HLv.out _ _ HM1.out).mono ?_
      rintro e w11 ⟨rfl, hb⟩
      have HBn : Hid (Below w10.heap.size w10 w11) := Lib.hid (hb)
      have HG_n := Lib.hid (HG.out.below HBn.out)
      have H1_n := Lib.hid (H1.out.below HBn.out (Nat.le_refl _))
      have HC0_n := Lib.hid (HC0.out.below HBn.out)
      have HM1_n := Lib.hid (HM1.out.below HBn.out (Nat.le_refl _))
      have HB_n := Lib.hid (HB.out.trans (HBn.out.mono HB.out.size))
      clear HG H1 HC0 HM1 HB
      have HG := HG_n
      have H1 := H1_n
      have HC0 := HC0_n
      have HM1 := HM1_n
      have HB := HB_n
      clear HG_n H1_n HC0_n HM1_n HB_n HBn hb
      have g0 := HG.out.at0.1
      have g1 := HG.out.at0.2
      have hc0 : _ = some _ := HC0.out
      have hq1 : ((l1.length : Int) == (n : Int)) = true := beq_iff_eq.2 (by have := HLn9.out; omega)
      have hbt := HBt.out
      have hsa : ¬ (s : Int) < 0 := by omega
      have hsb : (s : Int) < 4 := by omega

      go_wp2_with fail
      clear hc0
      clear HM1 HC0
      clear g0 g1
      refine (HAw.out _).mono ?_
      rintro e w12 ⟨rfl, hb⟩
      have HBn : Hid (Below w11.heap.size w11 w12) := Lib.hid (hb)
      have HG_n := Lib.hid (HG.out.below HBn.out)
      have H1_n := Lib.hid (H1.out.below HBn.out (Nat.le_refl _))
      have HB_n := Lib.hid (HB.out.trans (HBn.out.mono HB.out.size))
      clear HG H1 HB
      have HG := HG_n
      have H1 := H1_n
      have HB := HB_n
      clear HG_n H1_n HB_n HBn hb
      have g0 := HG.out.at0.1
      have g1 := HG.out.at0.2
      go_wp2_with fail
      go_ret
      exact ⟨rfl, HB.out⟩

set_option maxRecDepth 100000 in
set_option maxHeartbeats 4000000 in
theorem leaves_e (g : Nat) (hg : g < 17) (v1 : Value) (l1 : List Int) (s : Nat) (w : World) (h1 : Ints w v1 l1) (hw1 : wordB g l1 = true) (hln : ln g (folI g l1) = l1.length) (hs : s < kM g) (hf : ¬ ln g (rt g (folI g l1) s) < ln g (folI g l1)) :
    Calls Try.prog 14 #[gV (kd g) (nm g), v1, .int .i64 s] w fun e w' => e = .returned (.bool true) ∧ Below w.heap.size w w' := by
  have q1 : l1.length ≤ 30 := by simp [wordB] at hw1; omega
  have hk4 := (tg hg).2.2.2.1
  have HOf := Lib.hid (fun W => Of_any (kd g) (nm g) W)
  have HLi := Lib.hid (fun v W h => listOk q1 v W h)
  have HF := Lib.hid (fun v W h => fine_any g hg v [l1] W h (by simp))
  rw [show [l1].all (wordB g) = true by simp [hw1]] at HF
  have HAw := Lib.hid (fun W => awake_any W)
  have hE := tE hg
  have hX := folI_lt hg hw1
  have hl12 := (tx hg hX).2.1
  have HFl := Lib.hid (fun v W h => Falls_ok g hg v l1 W h hw1)
  have HWs := Lib.hid (fun v W h => Words_ok g hg v l1 W h hw1)
  have HSm := Lib.hid (fun a => shP_mem hg (ln g (folI g l1)) (folI g l1) hX (Nat.le_refl _) a)
  have hSl := shP_len hg hX
  have hSp := shP_pos hg hX
  have HLa := Lib.hid (lv_last hg hX)
  have HFg : Hid (∀ v W, NatRows W v (shP g (ln g (folI g l1)) (folI g l1)) → Calls Try.prog 24 #[gV (kd g) (nm g), v] W fun e w' => e = .returned (.bool true) ∧ Below W.heap.size W w') := Lib.hid (fun v W h => by
    have h9 := fineL_any g hg v _ W h.ints (by simpa using hSl)
    rwa [show ((shP g (ln g (folI g l1)) (folI g l1)).map nats).all (wordB g) = true by
      rw [List.all_eq_true]
      intro z hz
      obtain ⟨y, hy, rfl⟩ := List.mem_map.1 hz
      have h8 := (shP_mem hg _ _ hX (Nat.le_refl _) y).1 hy
      exact word_nats h8.1 (by rw [h8.2.1]; omega)] at h9)
  have HLv : Hid (∀ v W, Ints W v l1 → Calls Try.prog 42 #[gV (kd g) (nm g), v, .int .i64 (s : Nat)] W fun e w' => e = .returned (.tuple #[.int .i64 0, .int .i64 4]) ∧ Below W.heap.size W w') := Lib.hid (fun v W h => by
    have h9 := Leave_ok g hg v l1 s W h hw1 hln hs
    rw [lvO_up hg hs hw1 hln hf] at h9
    exact h9)
  have hfb : flS g (folI g l1) (kM g) < 65536 := Nat.lt_of_lt_of_le (flS_lt g _ _) (Nat.le_trans (Nat.pow_le_pow_right (n := 2) (by decide) hk4) (by decide))
  have hs4 : s < 4 := by omega
  have hbit : bits .and .i64 (((flS g (folI g l1) (kM g) : Nat) : Int) / 2 ^ s) 1 = 0 := by rw [bit_and1 _ _ hfb, flS_no hf]; rfl
  clear hfb hf
  have hfs : flS g (folI g l1) (kM g) < 16 := Nat.lt_of_lt_of_le (flS_lt g _ _) (Nat.pow_le_pow_right (n := 2) (by decide) hk4)
  rw [← HLa.out] at hfs HFl hbit
  have HL4 : Hid (∀ i, laS ((shP g (ln g (folI g l1)) (folI g l1)).take i) < 16) := Lib.hid (fun i => laS_lt _ _ rfl fun y hy z hz => by
    have h8 := (shP_mem hg _ _ hX (Nat.le_refl _) y).1 (List.mem_of_mem_take hy)
    have := h8.1 z hz
    omega)
  have HSw : Hid (∀ y ∈ shP g (ln g (folI g l1)) (folI g l1), y.length = ln g (folI g l1) ∧ ∀ z ∈ y, z < 4) := Lib.hid (fun y hy => by
    have h8 := (shP_mem hg _ _ hX (Nat.le_refl _) y).1 hy
    exact ⟨h8.2.1, fun z hz => by have := h8.1 z hz; omega⟩)
  clear HSm HLa
  generalize shP g (ln g (folI g l1)) (folI g l1) = sp at *
  obtain ⟨sl, hsl⟩ : ∃ sl, sl = sp.length := ⟨_, rfl⟩
  rw [← hsl] at HWs hSl hSp
  have HSL := Lib.hid hsl
  obtain ⟨n, hn⟩ : ∃ n, n = ln g (folI g l1) := ⟨_, rfl⟩
  rw [← hn] at HSw hl12 hln
  have HN := Lib.hid hn
  clear hsl hn
  have HLn9 := Lib.hid hln
  have HBt := Lib.hid hbit
  clear hbit
  clear hln
  generalize hXX : folI g l1 = X at *
  clear hXX
  obtain ⟨va1, vc1, rfl, _, _, _⟩ := h1.open
  have H10 := Lib.hid h1
  clear h1 hw1
  go_enter Try.func14, Try.ntmps14
  go_wp2_with fail
  refine (HOf.out _).mono ?_
  rintro e w1 ⟨rfl, hb⟩
  have HG : Hid (Blk 23 w1 w.heap.size #[.int .u8 (kd g), .int .i64 (nm g)]) := Lib.hid ((Blk.new _ _ _).below hb)
  have HB : Hid (Below w.heap.size w w1) := Lib.hid (bl1 hb)
  have H1 := Lib.hid (H10.out.below HB.out (Nat.le_refl _))
  clear hb H10
  have g0 := HG.out.at0.1
  have g1 := HG.out.at0.2
  go_wp2_with fail
  clear g0 g1
  refine (HLi.out _ _ H1.out).mono ?_
  rintro e w2 ⟨la, lc, rfl, hm1, hb⟩
  have HBn : Hid (Below w1.heap.size w1 w2) := Lib.hid (hb)
  have HG_n := Lib.hid (HG.out.below HBn.out)
  have H1_n := Lib.hid (H1.out.below HBn.out (Nat.le_refl _))
  have HB_n := Lib.hid (HB.out.trans (HBn.out.mono HB.out.size))
  clear HG H1 HB
  have HG := HG_n
  have H1 := H1_n
  have HB := HB_n
  clear HG_n H1_n HB_n HBn hb
  have HM1 := Lib.hid hm1
  clear hm1
  have g0 := HG.out.at0.1
  have g1 := HG.out.at0.2
  go_wp2_with fail
  clear g0 g1
  refine (HFl.out _ _ HM1.out).mono ?_
  rintro e w3 ⟨rfl, hb⟩
  have HBn : Hid (Below w2.heap.size w2 w3) := Lib.hid (hb)
  have HG_n := Lib.hid (HG.out.below HBn.out)
  have H1_n := Lib.hid (H1.out.below HBn.out (Nat.le_refl _))
  have HM1_n := Lib.hid (HM1.out.below HBn.out (Nat.le_refl _))
  have HB_n := Lib.hid (HB.out.trans (HBn.out.mono HB.out.size))
  clear HG H1 HM1 HB
  have HG := HG_n
  have H1 := H1_n
  have HM1 := HM1_n
  have HB := HB_n
  clear HG_n H1_n HM1_n HB_n HBn hb
  have g0 := HG.out.at0.1
  have g1 := HG.out.at0.2
  go_wp2_with fail
  clear HM1
  clear g0 g1
  refine (HOf.out _).mono ?_
  rintro e w4 ⟨rfl, hb⟩
  have HBn : Hid (Below w3.heap.size w3 w4) := Lib.hid (hb)
  have HG_n := Lib.hid (HG.out.below HBn.out)
  have H1_n := Lib.hid (H1.out.below HBn.out (Nat.le_refl _))
  have HB_n := Lib.hid (HB.out.trans (HBn.out.mono HB.out.size))
  clear HG H1 HB
  have HG := HG_n
  have H1 := H1_n
  have HB := HB_n
  clear HG_n H1_n HB_n HBn hb
  have g0 := HG.out.at0.1
  have g1 := HG.out.at0.2
  go_wp2_with fail
  clear g0 g1
  refine (HLi.out _ _ H1.out).mono ?_
  rintro e w5 ⟨la, lc, rfl, hm1, hb⟩
  have HBn : Hid (Below w4.heap.size w4 w5) := Lib.hid (hb)
  have HG_n := Lib.hid (HG.out.below HBn.out)
  have H1_n := Lib.hid (H1.out.below HBn.out (Nat.le_refl _))
  have HB_n := Lib.hid (HB.out.trans (HBn.out.mono HB.out.size))
  clear HG H1 HB
  have HG := HG_n
  have H1 := H1_n
  have HB := HB_n
  clear HG_n H1_n HB_n HBn hb
  have HM1 := Lib.hid hm1
  clear hm1
  have g0 := HG.out.at0.1
  have g1 := HG.out.at0.2
  go_wp2_with fail
  clear g0 g1
  refine (HWs.out _ _ HM1.out).mono ?_
  rintro e w6 ⟨sa, sc, rfl, hsw, hb⟩
  have HBn : Hid (Below w5.heap.size w5 w6) := Lib.hid (hb)
  have HG_n := Lib.hid (HG.out.below HBn.out)
  have H1_n := Lib.hid (H1.out.below HBn.out (Nat.le_refl _))
  have HM1_n := Lib.hid (HM1.out.below HBn.out (Nat.le_refl _))
  have HB_n := Lib.hid (HB.out.trans (HBn.out.mono HB.out.size))
  clear HG H1 HM1 HB
  have HG := HG_n
  have H1 := H1_n
  have HM1 := HM1_n
  have HB := HB_n
  clear HG_n H1_n HM1_n HB_n HBn hb
  have HSW := Lib.hid hsw
  clear hsw
  have g0 := HG.out.at0.1
  have g1 := HG.out.at0.2
  go_wp2_with fail
  clear HM1
  clear g0 g1
  refine (HF.out _ _ (rows1 (Blk.new _ _ _) (H1.out.alloc _))).mono ?_
  rintro e w7 ⟨rfl, hb⟩
  have HBn : Hid (Below w6.heap.size w6 w7) := Lib.hid (bl1 hb)
  have HG_n := Lib.hid (HG.out.below HBn.out)
  have H1_n := Lib.hid (H1.out.below HBn.out (Nat.le_refl _))
  have HSW_n := Lib.hid (HSW.out.below HBn.out (Nat.le_refl _))
  have HB_n := Lib.hid (HB.out.trans (HBn.out.mono HB.out.size))
  clear HG H1 HSW HB
  have HG := HG_n
  have H1 := H1_n
  have HSW := HSW_n
  have HB := HB_n
  clear HG_n H1_n HSW_n HB_n HBn hb
  have g0 := HG.out.at0.1
  have g1 := HG.out.at0.2
  go_wp2_with fail
  clear g0 g1
  refine (HFg.out _ _ HSW.out).mono ?_
  rintro e w8 ⟨rfl, hb⟩
  have HBn : Hid (Below w7.heap.size w7 w8) := Lib.hid (hb)
  have HG_n := Lib.hid (HG.out.below HBn.out)
  have H1_n := Lib.hid (H1.out.below HBn.out (Nat.le_refl _))
  have HSW_n := Lib.hid (HSW.out.below HBn.out (Nat.le_refl _))
  have HB_n := Lib.hid (HB.out.trans (HBn.out.mono HB.out.size))
  clear HG H1 HSW HB
  have HG := HG_n
  have H1 := H1_n
  have HSW := HSW_n
  have HB := HB_n
  clear HG_n H1_n HSW_n HB_n HBn hb
  have g0 := HG.out.at0.1
  have g1 := HG.out.at0.2
  go_wp2_with fail
  obtain ⟨_, _, e, hscap, _, hsx⟩ := SlOf.open HSW.out
  simp only [Value.slice.injEq] at e
  obtain ⟨rfl, -, rfl⟩ := e
  have HSX := Lib.hid hsx
  rw [← HSL.out] at hscap
  clear hsx
  go_loop [69, 11] (fun i a => ∃ k : Nat, k ≤ sl ∧ i = .int .i64 k ∧ a = .int .i64 (laS (sp.take k) : Nat)) (fun i _ => sl - (intOf i).toNat)
  case atStart => exact ⟨0, Nat.zero_le _, rfl, rfl⟩
  case round =>
    obtain ⟨k, hk, rfl, rfl⟩ := hrel
    by_cases hl : k < sl
    · obtain ⟨l, hkl⟩ : ∃ l, sp[k]? = some l := ⟨sp[k]'(by rw [← HSL.out]; exact hl), by simp⟩
      obtain ⟨b, o, u, rfl, hck, hu⟩ := HSX.out k l hkl
      obtain ⟨ua, uc, rfl, huc, _, hux⟩ := Nats.open hu
      obtain ⟨hln9, hl4⟩ := HSw.out l (List.mem_of_getElem? hkl)
      have h16 := HL4.out k
      have HSs : Hid (laS (sp.take (k + 1)) = if l.length = 0 then laS (sp.take k) else laS (sp.take k) ||| 2 ^ (l.getD (l.length - 1) 0)) := Lib.hid (by
        rw [List.take_add_one, hkl]; exact laS_snoc _ l)
      have HUX := Lib.hid hux
      have HL49 := Lib.hid hl4
      clear hu hux hl4 hkl
      rw [hln9] at hck huc HSs HUX
      have hnI : n ≤ 12 := hl12
      by_cases h0 : n = 0
      · have HE : Hid (laS (sp.take (k + 1)) = laS (sp.take k)) := Lib.hid (by rw [HSs.out, if_pos h0])
        have h0' : ¬ (0 : Int) < (n : Int) := by omega
        clear HSs HUX h0 hln9
        generalize laS (sp.take k) = y at *
        go_wp2_with fail
        go_round
        case rel => exact ⟨k + 1, by omega, by go_num, by rw [HE.out]⟩
        case measure => simp [intOf]; omega
      · obtain ⟨b2, o2, rfl, c2⟩ := HUX.out (n - 1) (by omega)
        have hx4 : l.getD (n - 1) 0 < 4 := HL49.out _ (natD_mem (by rw [hln9]; omega))
        have HE : Hid (laS (sp.take (k + 1)) = laS (sp.take k) ||| 2 ^ l.getD (n - 1) 0) := Lib.hid (by rw [HSs.out, if_neg h0])
        have h0' : (0 : Int) < (n : Int) := by omega
        have ht2 : (n : Int) - 1 = ((n - 1 : Nat) : Int) := by omega
        clear HSs HUX hln9
        generalize laS (sp.take k) = y at *
        generalize l.getD (n - 1) 0 = z at *
        have hp16 : 2 ^ z ≤ 8 := Nat.pow_le_pow_right (n := 2) (by decide) (show z ≤ 3 by omega)
        have hor : bits .or .i64 (y : Int) ((2:Int) ^ z) = ((y ||| 2 ^ z : Nat) : Int) := by rw [← pw_cast]; exact i64_or _ _ (by omega) (by omega)
        have hd3 : IntKind.i64.wrap ((2:Int) ^ z) = (2:Int) ^ z := by have := pw_bd z (by omega); exact i64_of (by omega) (by omega)
        clear hp16
        generalize y ||| 2 ^ z = y2 at *
        generalize hn1 : n - 1 = n1 at *
        have hn1a : n1 + 1 ≤ n := by omega
        have hn1b : n ≤ n1 + 1 := by omega
        clear hn1
        go_wp2_with fail
        go_round
        case rel => exact ⟨k + 1, by omega, by go_num, by rw [HE.out]⟩
        case measure => simp [intOf]; omega
    · have hkk : k = sl := by omega
      have HLt : Hid (laS (sp.take k) = laS sp) := Lib.hid (by rw [hkk, HSL.out, List.take_length])
      rw [HLt.out]
      obtain ⟨l0, hk0⟩ : ∃ l, sp[0]? = some l := ⟨sp[0]'(by rw [← HSL.out]; exact hSp), by simp⟩
      obtain ⟨b0, o0, u0, rfl, hck0, hu0⟩ := HSX.out 0 l0 hk0
      obtain ⟨ua0, uc0, rfl, _, _, _⟩ := Nats.open hu0
      have hln0 := (HSw.out l0 (List.mem_of_getElem? hk0)).1
      rw [hln0] at hck0
      rw [Nat.add_zero] at hck0
      have HC0 : Hid (Cel ⟨b0, o0, none⟩ (.slice ua0 n uc0) _) := Lib.hid hck0
      clear hkk HLt hu0 hk0 hln0 HSX HSw HL4 hck0
      generalize laS sp = fs at *
      go_wp2_with fail
      clear HSW
      clear g0 g1
      refine (HOf.out _).mono ?_
      rintro e w9 ⟨rfl, hb⟩
      have HBn : Hid (Below w8.heap.size w8 w9) := Lib.hid (hb)
      have HG_n := Lib.hid (HG.out.below HBn.out)
      have H1_n := Lib.hid (H1.out.below HBn.out (Nat.le_refl _))
      have HC0_n := Lib.hid (HC0.out.below HBn.out)
      have HB_n := Lib.hid (HB.out.trans (HBn.out.mono HB.out.size))
      clear HG H1 HC0 HB
      have HG := HG_n
      have H1 := H1_n
      have HC0 := HC0_n
      have HB := HB_n
      clear HG_n H1_n HC0_n HB_n HBn hb
      have g0 := HG.out.at0.1
      have g1 := HG.out.at0.2
      go_wp2_with fail
      clear g0 g1
      refine (HLi.out _ _ H1.out).mono ?_
      rintro e w10 ⟨la, lc, rfl, hm1, hb⟩
      have HBn : Hid (Below w9.heap.size w9 w10) := Lib.hid (hb)
      have HG_n := Lib.hid (HG.out.below HBn.out)
      have H1_n := Lib.hid (H1.out.below HBn.out (Nat.le_refl _))
      have HC0_n := Lib.hid (HC0.out.below HBn.out)
      have HB_n := Lib.hid (HB.out.trans (HBn.out.mono HB.out.size))
      clear HG H1 HC0 HB
      have HG := HG_n
      have H1 := H1_n
      have HC0 := HC0_n
      have HB := HB_n
      clear HG_n H1_n HC0_n HB_n HBn hb
      have HM1 := Lib.hid hm1
      clear hm1
      have g0 := HG.out.at0.1
      have g1 := HG.out.at0.2
      go_wp2_with fail
      clear g0 g1
      refine (HLv.out _ _ HM1.out).mono ?_
      rintro e w11 ⟨rfl, hb⟩
      have HBn : Hid (Below w10.heap.size w10 w11) := Lib.hid (hb)
      have HG_n := Lib.hid (HG.out.below HBn.out)
      have H1_n := Lib.hid (H1.out.below HBn.out (Nat.le_refl _))
      have HC0_n := Lib.hid (HC0.out.below HBn.out)
      have HM1_n := Lib.hid (HM1.out.below HBn.out (Nat.le_refl _))
      have HB_n := Lib.hid (HB.out.trans (HBn.out.mono HB.out.size))
      clear HG H1 HC0 HM1 HB
      have HG := HG_n
      have H1 := H1_n
      have HC0 := HC0_n
      have HM1 := HM1_n
      have HB := HB_n
      clear HG_n H1_n HC0_n HM1_n HB_n HBn hb
      have g0 := HG.out.at0.1
      have g1 := HG.out.at0.2
      have hc0 : _ = some _ := HC0.out
      have hq1 : ((l1.length : Int) == (n : Int)) = true := beq_iff_eq.2 (by have := HLn9.out; omega)
      have hbt := HBt.out
      have hsa : ¬ (s : Int) < 0 := by omega
      have hsb : (s : Int) < 4 := by omega

      go_wp2_with fail
      clear hc0
      clear HM1 HC0
      clear g0 g1
      refine (HAw.out _).mono ?_
      rintro e w12 ⟨rfl, hb⟩
      have HBn : Hid (Below w11.heap.size w11 w12) := Lib.hid (hb)
      have HG_n := Lib.hid (HG.out.below HBn.out)
      have H1_n := Lib.hid (H1.out.below HBn.out (Nat.le_refl _))
      have HB_n := Lib.hid (HB.out.trans (HBn.out.mono HB.out.size))
      clear HG H1 HB
      have HG := HG_n
      have H1 := H1_n
      have HB := HB_n
      clear HG_n H1_n HB_n HBn hb
      have g0 := HG.out.at0.1
      have g1 := HG.out.at0.2
      go_wp2_with fail
      go_ret
      exact ⟨rfl, HB.out⟩

set_option maxRecDepth 100000 in
set_option maxHeartbeats 4000000 in
theorem leaves_f (g : Nat) (hg : g < 17) (v1 : Value) (l1 : List Int) (s : Nat) (w : World) (h1 : Ints w v1 l1) (hw1 : wordB g l1 = true) (hln : ln g (folI g l1) = l1.length) (hs : s < kM g) (hf : ln g (rt g (folI g l1) s) < ln g (folI g l1)) :
    Calls Try.prog 14 #[gV (kd g) (nm g), v1, .int .i64 s] w fun e w' => e = .returned (.bool true) ∧ Below w.heap.size w w' := by
  have q1 : l1.length ≤ 30 := by simp [wordB] at hw1; omega
  have hk4 := (tg hg).2.2.2.1
  have HOf := Lib.hid (fun W => Of_any (kd g) (nm g) W)
  have HLi := Lib.hid (fun v W h => listOk q1 v W h)
  have HF := Lib.hid (fun v W h => fine_any g hg v [l1] W h (by simp))
  rw [show [l1].all (wordB g) = true by simp [hw1]] at HF
  have HAw := Lib.hid (fun W => awake_any W)
  have hE := tE hg
  have hX := folI_lt hg hw1
  have hl12 := (tx hg hX).2.1
  have HFl := Lib.hid (fun v W h => Falls_ok g hg v l1 W h hw1)
  have HWs := Lib.hid (fun v W h => Words_ok g hg v l1 W h hw1)
  have HSm := Lib.hid (fun a => shP_mem hg (ln g (folI g l1)) (folI g l1) hX (Nat.le_refl _) a)
  have hSl := shP_len hg hX
  have hSp := shP_pos hg hX
  have HLa := Lib.hid (lv_last hg hX)
  have HFg : Hid (∀ v W, NatRows W v (shP g (ln g (folI g l1)) (folI g l1)) → Calls Try.prog 24 #[gV (kd g) (nm g), v] W fun e w' => e = .returned (.bool true) ∧ Below W.heap.size W w') := Lib.hid (fun v W h => by
    have h9 := fineL_any g hg v _ W h.ints (by simpa using hSl)
    rwa [show ((shP g (ln g (folI g l1)) (folI g l1)).map nats).all (wordB g) = true by
      rw [List.all_eq_true]
      intro z hz
      obtain ⟨y, hy, rfl⟩ := List.mem_map.1 hz
      have h8 := (shP_mem hg _ _ hX (Nat.le_refl _) y).1 hy
      exact word_nats h8.1 (by rw [h8.2.1]; omega)] at h9)
  have hr2 := (tb hg hX hs).2.1
  obtain ⟨kk, hk1, hk2, hk3⟩ := lv_one hg hX hs (shw_word hw1 hln) hf
  have HLv : Hid (∀ v W, Ints W v l1 → Calls Try.prog 42 #[gV (kd g) (nm g), v, .int .i64 (s : Nat)] W fun e w' => e = .returned (.tuple #[.int .i64 (kk : Nat), .int .i64 0]) ∧ Below W.heap.size W w') := Lib.hid (fun v W h => by
    have h9 := Leave_ok g hg v l1 s W h hw1 hln hs
    rw [hk1] at h9
    exact h9)
  have hws : wordB g [(s : Int)] = true := by simp [wordB, letB, mirB]; omega
  have HTi : Hid (∀ v v' W, Ints W v l1 → Ints W v' [(s : Int)] → Calls Try.prog 32 #[gV (kd g) (nm g), v, v'] W fun e w' => ∃ a c, e = .returned (.tuple #[.slice a (ln g (rt g (folI g l1) s)) c, .int .i64 0]) ∧ Wn w' (.slice a (ln g (rt g (folI g l1) s)) c) g (rt g (folI g l1) s) ∧ Below W.heap.size W w') := Lib.hid (fun v v' W h h' => Times_ok g hg v v' l1 [(s : Int)] W h h' hw1 hws)
  have HNo : Hid (∀ i v W, i < l1.length → Ints W v (l1.take i ++ l1.drop (i + 1)) → Calls Try.prog 19 #[gV (kd g) (nm g), v] W fun e w' => ∃ a c d, e = .returned (.tuple #[.slice a d c, .int .i64 0]) ∧ Nats w' (.slice a d c) (wd g (fol g 0 (wo_ (toN l1) i))) ∧ Below W.heap.size W w') := Lib.hid (fun i v W hi h => by
    have e1 : toN (l1.take i ++ l1.drop (i + 1)) = wo_ (toN l1) i := by simp [toN, wo_]
    have hwi : wordB g (l1.take i ++ l1.drop (i + 1)) = true := by
      have h0 := word_let hw1
      unfold wordB letB at *
      rw [Bool.and_eq_true, decide_eq_true_eq]
      refine ⟨by simp; omega, ?_⟩
      rw [List.all_eq_true] at h0 ⊢
      intro z hz
      rcases List.mem_append.1 hz with hz | hz
      · exact h0 z (List.mem_of_mem_take hz)
      · exact h0 z (List.mem_of_mem_drop hz)
    refine (Normal_ok g hg v _ W h hwi).mono fun e w' hh => ?_
    obtain ⟨a, c, rfl, h1, h2⟩ := hh
    unfold folI at h1 ⊢
    rw [e1] at h1 ⊢
    exact ⟨a, c, _, rfl, h1, h2⟩)
  have HU : Hid (∀ i, i < l1.length → (wd g (fol g 0 (wo_ (toN l1) i)) = wd g (rt g (folI g l1) s) ↔ i = kk)) := Lib.hid (fun i hi => by
    have hti : i < (toN l1).length := by simpa [toN] using hi
    rw [← hk3 i hti]
    have h8 := fol_lt hg (wo_ (toN l1) i) 0 hE.1 fun u hu => toN_lt (word_let hw1) u (wo_mem hu)
    constructor
    · intro e; have := congrArg (fol g 0) e; rwa [wd_fol hg h8, wd_fol hg hr2] at this
    · intro e; rw [e])
  have HLo := Lib.hid (fun v zs W h hl => list_own v zs W h hl)
  have hd9 := (len_one hg hX hs).2.1
  have HE9 := Lib.hid (fun v v' l l' W h h' => equal_any v v' l l' W h h')
  have HI64 := Lib.hid h1.2
  obtain ⟨i0, hi0, hz0, hz1, hz2⟩ := info_parts Try.info3
  clear hws hk1 hk3
  have hfb : flS g (folI g l1) (kM g) < 65536 := Nat.lt_of_lt_of_le (flS_lt g _ _) (Nat.le_trans (Nat.pow_le_pow_right (n := 2) (by decide) hk4) (by decide))
  have hs4 : s < 4 := by omega
  have hbit : bits .and .i64 (((flS g (folI g l1) (kM g) : Nat) : Int) / 2 ^ s) 1 = 1 := by rw [bit_and1 _ _ hfb, flS_yes hs hf]; rfl
  have hkk : kk < l1.length := by simpa [toN] using hk2
  generalize hrr : rt g (folI g l1) s = r at *
  clear hrr
  obtain ⟨lr, hlr⟩ : ∃ lr, lr = ln g r := ⟨_, rfl⟩
  rw [← hlr] at HTi hd9 hf
  have hlr9 : lr + 1 = ln g (folI g l1) := by omega
  have HLR : Hid (lr + 1 = ln g (folI g l1)) := Lib.hid hlr9
  clear hfb hf hk2 hlr hd9 hlr9
  have hfs : flS g (folI g l1) (kM g) < 16 := Nat.lt_of_lt_of_le (flS_lt g _ _) (Nat.pow_le_pow_right (n := 2) (by decide) hk4)
  rw [← HLa.out] at hfs HFl hbit
  have HL4 : Hid (∀ i, laS ((shP g (ln g (folI g l1)) (folI g l1)).take i) < 16) := Lib.hid (fun i => laS_lt _ _ rfl fun y hy z hz => by
    have h8 := (shP_mem hg _ _ hX (Nat.le_refl _) y).1 (List.mem_of_mem_take hy)
    have := h8.1 z hz
    omega)
  have HSw : Hid (∀ y ∈ shP g (ln g (folI g l1)) (folI g l1), y.length = ln g (folI g l1) ∧ ∀ z ∈ y, z < 4) := Lib.hid (fun y hy => by
    have h8 := (shP_mem hg _ _ hX (Nat.le_refl _) y).1 hy
    exact ⟨h8.2.1, fun z hz => by have := h8.1 z hz; omega⟩)
  clear HSm HLa
  generalize shP g (ln g (folI g l1)) (folI g l1) = sp at *
  obtain ⟨sl, hsl⟩ : ∃ sl, sl = sp.length := ⟨_, rfl⟩
  rw [← hsl] at HWs hSl hSp
  have HSL := Lib.hid hsl
  obtain ⟨n, hn⟩ : ∃ n, n = ln g (folI g l1) := ⟨_, rfl⟩
  rw [← hn] at HSw hl12 hln
  have HN := Lib.hid hn
  clear hsl hn
  have HLn9 := Lib.hid hln
  have HBt := Lib.hid hbit
  clear hbit
  clear hln
  generalize hXX : folI g l1 = X at *
  clear hXX
  obtain ⟨va1, vc1, rfl, _, _, _⟩ := h1.open
  have H10 := Lib.hid h1
  clear h1 hw1
  go_enter Try.func14, Try.ntmps14
  go_wp2_with fail
  refine (HOf.out _).mono ?_
  rintro e w1 ⟨rfl, hb⟩
  have HG : Hid (Blk 23 w1 w.heap.size #[.int .u8 (kd g), .int .i64 (nm g)]) := Lib.hid ((Blk.new _ _ _).below hb)
  have HB : Hid (Below w.heap.size w w1) := Lib.hid (bl1 hb)
  have H1 := Lib.hid (H10.out.below HB.out (Nat.le_refl _))
  clear hb H10
  have g0 := HG.out.at0.1
  have g1 := HG.out.at0.2
  go_wp2_with fail
  clear g0 g1
  refine (HLi.out _ _ H1.out).mono ?_
  rintro e w2 ⟨la, lc, rfl, hm1, hb⟩
  have HBn : Hid (Below w1.heap.size w1 w2) := Lib.hid (hb)
  have HG_n := Lib.hid (HG.out.below HBn.out)
  have H1_n := Lib.hid (H1.out.below HBn.out (Nat.le_refl _))
  have HB_n := Lib.hid (HB.out.trans (HBn.out.mono HB.out.size))
  clear HG H1 HB
  have HG := HG_n
  have H1 := H1_n
  have HB := HB_n
  clear HG_n H1_n HB_n HBn hb
  have HM1 := Lib.hid hm1
  clear hm1
  have g0 := HG.out.at0.1
  have g1 := HG.out.at0.2
  go_wp2_with fail
  clear g0 g1
  refine (HFl.out _ _ HM1.out).mono ?_
  rintro e w3 ⟨rfl, hb⟩
  have HBn : Hid (Below w2.heap.size w2 w3) := Lib.hid (hb)
  have HG_n := Lib.hid (HG.out.below HBn.out)
  have H1_n := Lib.hid (H1.out.below HBn.out (Nat.le_refl _))
  have HM1_n := Lib.hid (HM1.out.below HBn.out (Nat.le_refl _))
  have HB_n := Lib.hid (HB.out.trans (HBn.out.mono HB.out.size))
  clear HG H1 HM1 HB
  have HG := HG_n
  have H1 := H1_n
  have HM1 := HM1_n
  have HB := HB_n
  clear HG_n H1_n HM1_n HB_n HBn hb
  have g0 := HG.out.at0.1
  have g1 := HG.out.at0.2
  go_wp2_with fail
  clear HM1
  clear g0 g1
  refine (HOf.out _).mono ?_
  rintro e w4 ⟨rfl, hb⟩
  have HBn : Hid (Below w3.heap.size w3 w4) := Lib.hid (hb)
  have HG_n := Lib.hid (HG.out.below HBn.out)
  have H1_n := Lib.hid (H1.out.below HBn.out (Nat.le_refl _))
  have HB_n := Lib.hid (HB.out.trans (HBn.out.mono HB.out.size))
  clear HG H1 HB
  have HG := HG_n
  have H1 := H1_n
  have HB := HB_n
  clear HG_n H1_n HB_n HBn hb
  have g0 := HG.out.at0.1
  have g1 := HG.out.at0.2
  go_wp2_with fail
  clear g0 g1
  refine (HLi.out _ _ H1.out).mono ?_
  rintro e w5 ⟨la, lc, rfl, hm1, hb⟩
  have HBn : Hid (Below w4.heap.size w4 w5) := Lib.hid (hb)
  have HG_n := Lib.hid (HG.out.below HBn.out)
  have H1_n := Lib.hid (H1.out.below HBn.out (Nat.le_refl _))
  have HB_n := Lib.hid (HB.out.trans (HBn.out.mono HB.out.size))
  clear HG H1 HB
  have HG := HG_n
  have H1 := H1_n
  have HB := HB_n
  clear HG_n H1_n HB_n HBn hb
  have HM1 := Lib.hid hm1
  clear hm1
  have g0 := HG.out.at0.1
  have g1 := HG.out.at0.2
  go_wp2_with fail
  clear g0 g1
  refine (HWs.out _ _ HM1.out).mono ?_
  rintro e w6 ⟨sa, sc, rfl, hsw, hb⟩
  have HBn : Hid (Below w5.heap.size w5 w6) := Lib.hid (hb)
  have HG_n := Lib.hid (HG.out.below HBn.out)
  have H1_n := Lib.hid (H1.out.below HBn.out (Nat.le_refl _))
  have HM1_n := Lib.hid (HM1.out.below HBn.out (Nat.le_refl _))
  have HB_n := Lib.hid (HB.out.trans (HBn.out.mono HB.out.size))
  clear HG H1 HM1 HB
  have HG := HG_n
  have H1 := H1_n
  have HM1 := HM1_n
  have HB := HB_n
  clear HG_n H1_n HM1_n HB_n HBn hb
  have HSW := Lib.hid hsw
  clear hsw
  have g0 := HG.out.at0.1
  have g1 := HG.out.at0.2
  go_wp2_with fail
  clear HM1
  clear g0 g1
  refine (HF.out _ _ (rows1 (Blk.new _ _ _) (H1.out.alloc _))).mono ?_
  rintro e w7 ⟨rfl, hb⟩
  have HBn : Hid (Below w6.heap.size w6 w7) := Lib.hid (bl1 hb)
  have HG_n := Lib.hid (HG.out.below HBn.out)
  have H1_n := Lib.hid (H1.out.below HBn.out (Nat.le_refl _))
  have HSW_n := Lib.hid (HSW.out.below HBn.out (Nat.le_refl _))
  have HB_n := Lib.hid (HB.out.trans (HBn.out.mono HB.out.size))
  clear HG H1 HSW HB
  have HG := HG_n
  have H1 := H1_n
  have HSW := HSW_n
  have HB := HB_n
  clear HG_n H1_n HSW_n HB_n HBn hb
  have g0 := HG.out.at0.1
  have g1 := HG.out.at0.2
  go_wp2_with fail
  clear g0 g1
  refine (HFg.out _ _ HSW.out).mono ?_
  rintro e w8 ⟨rfl, hb⟩
  have HBn : Hid (Below w7.heap.size w7 w8) := Lib.hid (hb)
  have HG_n := Lib.hid (HG.out.below HBn.out)
  have H1_n := Lib.hid (H1.out.below HBn.out (Nat.le_refl _))
  have HSW_n := Lib.hid (HSW.out.below HBn.out (Nat.le_refl _))
  have HB_n := Lib.hid (HB.out.trans (HBn.out.mono HB.out.size))
  clear HG H1 HSW HB
  have HG := HG_n
  have H1 := H1_n
  have HSW := HSW_n
  have HB := HB_n
  clear HG_n H1_n HSW_n HB_n HBn hb
  have g0 := HG.out.at0.1
  have g1 := HG.out.at0.2
  go_wp2_with fail
  obtain ⟨_, _, e, hscap, _, hsx⟩ := SlOf.open HSW.out
  simp only [Value.slice.injEq] at e
  obtain ⟨rfl, -, rfl⟩ := e
  have HSX := Lib.hid hsx
  rw [← HSL.out] at hscap
  clear hsx
  go_loop [69, 11] (fun i a => ∃ k : Nat, k ≤ sl ∧ i = .int .i64 k ∧ a = .int .i64 (laS (sp.take k) : Nat)) (fun i _ => sl - (intOf i).toNat)
  case atStart => exact ⟨0, Nat.zero_le _, rfl, rfl⟩
  case round =>
    obtain ⟨k, hk, rfl, rfl⟩ := hrel
    by_cases hl : k < sl
    · obtain ⟨l, hkl⟩ : ∃ l, sp[k]? = some l := ⟨sp[k]'(by rw [← HSL.out]; exact hl), by simp⟩
      obtain ⟨b, o, u, rfl, hck, hu⟩ := HSX.out k l hkl
      obtain ⟨ua, uc, rfl, huc, _, hux⟩ := Nats.open hu
      obtain ⟨hln9, hl4⟩ := HSw.out l (List.mem_of_getElem? hkl)
      have h16 := HL4.out k
      have HSs : Hid (laS (sp.take (k + 1)) = if l.length = 0 then laS (sp.take k) else laS (sp.take k) ||| 2 ^ (l.getD (l.length - 1) 0)) := Lib.hid (by
        rw [List.take_add_one, hkl]; exact laS_snoc _ l)
      have HUX := Lib.hid hux
      have HL49 := Lib.hid hl4
      clear hu hux hl4 hkl
      rw [hln9] at hck huc HSs HUX
      have hnI : n ≤ 12 := hl12
      by_cases h0 : n = 0
      · have HE : Hid (laS (sp.take (k + 1)) = laS (sp.take k)) := Lib.hid (by rw [HSs.out, if_pos h0])
        have h0' : ¬ (0 : Int) < (n : Int) := by omega
        clear HSs HUX h0 hln9
        generalize laS (sp.take k) = y at *
        go_wp2_with fail
        go_round
        case rel => exact ⟨k + 1, by omega, by go_num, by rw [HE.out]⟩
        case measure => simp [intOf]; omega
      · obtain ⟨b2, o2, rfl, c2⟩ := HUX.out (n - 1) (by omega)
        have hx4 : l.getD (n - 1) 0 < 4 := HL49.out _ (natD_mem (by rw [hln9]; omega))
        have HE : Hid (laS (sp.take (k + 1)) = laS (sp.take k) ||| 2 ^ l.getD (n - 1) 0) := Lib.hid (by rw [HSs.out, if_neg h0])
        have h0' : (0 : Int) < (n : Int) := by omega
        have ht2 : (n : Int) - 1 = ((n - 1 : Nat) : Int) := by omega
        clear HSs HUX hln9
        generalize laS (sp.take k) = y at *
        generalize l.getD (n - 1) 0 = z at *
        have hp16 : 2 ^ z ≤ 8 := Nat.pow_le_pow_right (n := 2) (by decide) (show z ≤ 3 by omega)
        have hor : bits .or .i64 (y : Int) ((2:Int) ^ z) = ((y ||| 2 ^ z : Nat) : Int) := by rw [← pw_cast]; exact i64_or _ _ (by omega) (by omega)
        have hd3 : IntKind.i64.wrap ((2:Int) ^ z) = (2:Int) ^ z := by have := pw_bd z (by omega); exact i64_of (by omega) (by omega)
        clear hp16
        generalize y ||| 2 ^ z = y2 at *
        generalize hn1 : n - 1 = n1 at *
        have hn1a : n1 + 1 ≤ n := by omega
        have hn1b : n ≤ n1 + 1 := by omega
        clear hn1
        go_wp2_with fail
        go_round
        case rel => exact ⟨k + 1, by omega, by go_num, by rw [HE.out]⟩
        case measure => simp [intOf]; omega
    · have hkk : k = sl := by omega
      have HLt : Hid (laS (sp.take k) = laS sp) := Lib.hid (by rw [hkk, HSL.out, List.take_length])
      rw [HLt.out]
      obtain ⟨l0, hk0⟩ : ∃ l, sp[0]? = some l := ⟨sp[0]'(by rw [← HSL.out]; exact hSp), by simp⟩
      obtain ⟨b0, o0, u0, rfl, hck0, hu0⟩ := HSX.out 0 l0 hk0
      obtain ⟨ua0, uc0, rfl, _, _, _⟩ := Nats.open hu0
      have hln0 := (HSw.out l0 (List.mem_of_getElem? hk0)).1
      rw [hln0] at hck0
      rw [Nat.add_zero] at hck0
      have HC0 : Hid (Cel ⟨b0, o0, none⟩ (.slice ua0 n uc0) _) := Lib.hid hck0
      clear hkk HLt hu0 hk0 hln0 HSX HSw HL4 hck0
      generalize laS sp = fs at *
      go_wp2_with fail
      clear HSW
      clear g0 g1
      refine (HOf.out _).mono ?_
      rintro e w9 ⟨rfl, hb⟩
      have HBn : Hid (Below w8.heap.size w8 w9) := Lib.hid (hb)
      have HG_n := Lib.hid (HG.out.below HBn.out)
      have H1_n := Lib.hid (H1.out.below HBn.out (Nat.le_refl _))
      have HC0_n := Lib.hid (HC0.out.below HBn.out)
      have HB_n := Lib.hid (HB.out.trans (HBn.out.mono HB.out.size))
      clear HG H1 HC0 HB
      have HG := HG_n
      have H1 := H1_n
      have HC0 := HC0_n
      have HB := HB_n
      clear HG_n H1_n HC0_n HB_n HBn hb
      have g0 := HG.out.at0.1
      have g1 := HG.out.at0.2
      go_wp2_with fail
      clear g0 g1
      refine (HLi.out _ _ H1.out).mono ?_
      rintro e w10 ⟨la, lc, rfl, hm1, hb⟩
      have HBn : Hid (Below w9.heap.size w9 w10) := Lib.hid (hb)
      have HG_n := Lib.hid (HG.out.below HBn.out)
      have H1_n := Lib.hid (H1.out.below HBn.out (Nat.le_refl _))
      have HC0_n := Lib.hid (HC0.out.below HBn.out)
      have HB_n := Lib.hid (HB.out.trans (HBn.out.mono HB.out.size))
      clear HG H1 HC0 HB
      have HG := HG_n
      have H1 := H1_n
      have HC0 := HC0_n
      have HB := HB_n
      clear HG_n H1_n HC0_n HB_n HBn hb
      have HM1 := Lib.hid hm1
      clear hm1
      have g0 := HG.out.at0.1
      have g1 := HG.out.at0.2
      go_wp2_with fail
      clear g0 g1
      refine (HLv.out _ _ HM1.out).mono ?_
      rintro e w11 ⟨rfl, hb⟩
      have HBn : Hid (Below w10.heap.size w10 w11) := Lib.hid (hb)
      have HG_n := Lib.hid (HG.out.below HBn.out)
      have H1_n := Lib.hid (H1.out.below HBn.out (Nat.le_refl _))
      have HC0_n := Lib.hid (HC0.out.below HBn.out)
      have HM1_n := Lib.hid (HM1.out.below HBn.out (Nat.le_refl _))
      have HB_n := Lib.hid (HB.out.trans (HBn.out.mono HB.out.size))
      clear HG H1 HC0 HM1 HB
      have HG := HG_n
      have H1 := H1_n
      have HC0 := HC0_n
      have HM1 := HM1_n
      have HB := HB_n
      clear HG_n H1_n HC0_n HM1_n HB_n HBn hb
      have g0 := HG.out.at0.1
      have g1 := HG.out.at0.2
      have hc0 : _ = some _ := HC0.out
      have hq1 : ((l1.length : Int) == (n : Int)) = true := beq_iff_eq.2 (by have := HLn9.out; omega)
      have hbt := HBt.out
      have hsa : ¬ (s : Int) < 0 := by omega
      have hsb : (s : Int) < 4 := by omega

      go_wp2_with fail
      clear hc0
      clear HM1 HC0
      clear g0 g1
      refine (HOf.out _).mono ?_
      rintro e w12 ⟨rfl, hb⟩
      have HBn : Hid (Below w11.heap.size w11 w12) := Lib.hid (hb)
      have HG_n := Lib.hid (HG.out.below HBn.out)
      have H1_n := Lib.hid (H1.out.below HBn.out (Nat.le_refl _))
      have HB_n := Lib.hid (HB.out.trans (HBn.out.mono HB.out.size))
      clear HG H1 HB
      have HG := HG_n
      have H1 := H1_n
      have HB := HB_n
      clear HG_n H1_n HB_n HBn hb
      have g0 := HG.out.at0.1
      have g1 := HG.out.at0.2
      go_wp2_with fail
      clear g0 g1
      refine (HLi.out _ _ H1.out).mono ?_
      rintro e w13 ⟨la, lc, rfl, hm1, hb⟩
      have HBn : Hid (Below w12.heap.size w12 w13) := Lib.hid (hb)
      have HG_n := Lib.hid (HG.out.below HBn.out)
      have H1_n := Lib.hid (H1.out.below HBn.out (Nat.le_refl _))
      have HB_n := Lib.hid (HB.out.trans (HBn.out.mono HB.out.size))
      clear HG H1 HB
      have HG := HG_n
      have H1 := H1_n
      have HB := HB_n
      clear HG_n H1_n HB_n HBn hb
      have HM1 := Lib.hid hm1
      clear hm1
      have g0 := HG.out.at0.1
      have g1 := HG.out.at0.2
      go_wp2_with fail
      clear g0 g1
      refine (HTi.out _ _ _ (HM1.out.alloc _) (one_ints _ _ _ (Blk.new _ _ _) (by unfold I64; omega))).mono ?_
      rintro e w14 ⟨ta, tc, rfl, htw, hb⟩
      have HBn : Hid (Below w13.heap.size w13 w14) := Lib.hid (bl1 hb)
      have HG_n := Lib.hid (HG.out.below HBn.out)
      have H1_n := Lib.hid (H1.out.below HBn.out (Nat.le_refl _))
      have HM1_n := Lib.hid (HM1.out.below HBn.out (Nat.le_refl _))
      have HB_n := Lib.hid (HB.out.trans (HBn.out.mono HB.out.size))
      clear HG H1 HM1 HB
      have HG := HG_n
      have H1 := H1_n
      have HM1 := HM1_n
      have HB := HB_n
      clear HG_n H1_n HM1_n HB_n HBn hb
      have HTW := Lib.hid htw
      clear htw
      have g0 := HG.out.at0.1
      have g1 := HG.out.at0.2
      have hl1a : l1.length ≤ n := by have := HLn9.out; omega
      have hl1b : n ≤ l1.length := by have := HLn9.out; omega
      have hne9 : ((lr : Int) != (l1.length : Int) - 1) = false := by rw [bne_eq_false_iff_eq]; have h8 := HLR.out; have h9 := HN.out; omega
      go_wp2_with fail
      clear HM1
      clear g0 g1 hbt
      go_loopw [158] (fun i wr => ∃ j : Nat, j ≤ l1.length ∧ i = .int .i64 j ∧ Below w14.heap.size w14 wr) (fun i _ => l1.length - (intOf i).toNat)
      case atStart => exact ⟨0, Nat.zero_le _, rfl, Below.refl _ _⟩
      case round =>
        obtain ⟨j, hj, rfl, hbr⟩ := hrel
        have HBr := Lib.hid hbr
        have HGr := Lib.hid (HG.out.below hbr)
        have H1r := Lib.hid (H1.out.below hbr (Nat.le_refl _))
        have HTr := Lib.hid (HTW.out.below hbr (Nat.le_refl _))
        have HBw := Lib.hid (HB.out.trans (hbr.mono HB.out.size))
        clear hbr
        by_cases hjl : j < l1.length
        · have hne : va1 ≠ none := fun e => by
            obtain ⟨_, _, e2, _, _, hx⟩ := H1r.out.open
            obtain ⟨b, o, e3, _⟩ := hx j hjl
            cases e2; rw [e] at e3; cases e3
          obtain ⟨⟨ab, ao, ap⟩, rfl⟩ := Option.ne_none_iff_exists'.1 hne
          clear hne
          have hap : ap = none := by
            obtain ⟨_, _, e, _, _, hx⟩ := H1r.out.open
            obtain ⟨b, o, e2, _⟩ := hx j hjl
            cases e; cases e2; rfl
          subst hap
          have hcap : l1.length ≤ vc1 := by
            obtain ⟨_, _, e, h9, _, _⟩ := H1r.out.open
            cases e; exact h9
          have g0 := HGr.out.at0.1
          have g1 := HGr.out.at0.2
          have hs1 : (0:Int) ≤ (j:Int) := by omega
          have hs2 : (j:Int) ≤ (vc1:Int) := by omega
          have hs3 : ((j:Int) + 1) ≤ (l1.length:Int) := by omega
          have hs4 : (l1.length:Int) ≤ (vc1:Int) := by omega
          have hs5 : (0:Int) ≤ (j:Int) + 1 := by omega
          have hs6 : IntKind.i64.wrap ((j:Int) + 1) = (j:Int) + 1 := i64_of (by omega) (by omega)
          obtain ⟨xa, hxa⟩ : ∃ xa : Addr, (if vc1 = j + 1 then some (⟨ab, ao, none⟩ : Addr) else (some (⟨ab, ao, none⟩ : Addr)).map (·.add (j + 1))) = some xa := by
            by_cases e : vc1 = j + 1
            · exact ⟨_, if_pos e⟩
            · exact ⟨_, by rw [if_neg e]; rfl⟩
          have HTk := Lib.hid (Ints.take H1r.out (k := j) (by omega))
          have HDc : Hid (∀ q u, (ints (l1.drop (j + 1)))[q]? = some u → wr.cell? (xa.add q) = some u) := Lib.hid (fun q u hq => by
            have hlt := (List.getElem?_eq_some_iff.1 hq).1
            rw [ints_length, List.length_drop] at hlt
            obtain ⟨_, _, e, _, _, hx⟩ := H1r.out.open
            cases e
            obtain ⟨b, o, e2, hc⟩ := hx (j + 1 + q) (by omega)
            cases e2
            rw [if_neg (by omega)] at hxa
            simp only [Option.map_some, Addr.add_lit, Option.some.injEq] at hxa
            subst hxa
            rw [Addr.add_lit, Nat.add_assoc, hc, ← hq]
            simp [ints, show j + 1 + q < l1.length by omega])
          simp only [Option.map_some, Addr.add_lit] at hxa
          have HKS : Hid (∀ W, Below wr.heap.size wr W → (W.cell? ⟨w.heap.size, 0, none⟩ = some (.int .u8 (kd g)) ∧ W.cell? ⟨w.heap.size, 1, none⟩ = some (.int .i64 (nm g)))) := Lib.hid (fun W hb => ⟨ck g0 hb, ck g1 hb⟩)
          have HUj := Lib.hid (HU.out j hjl)
          have HNj := Lib.hid (fun v W h => HNo.out j v W hjl h)
          go_wp2_with fail
          refine wp_region_held_drew (S := fun W => W.cell? ⟨w.heap.size, 0, none⟩ = some (.int .u8 (kd g)) ∧ W.cell? ⟨w.heap.size, 1, none⟩ = some (.int .i64 (nm g))) (by kernel_rfl) (HKS.out _ (below_drew (Below.refl _ _))) (fun hS0 => ?_)
          have hBd : Below wr.heap.size wr wr.drew := below_drew (Below.refl _ _)
          refine tk0 (v := (gV (kd g) (nm g))) (by kernel_rfl) (by kernel_rfl) (by kernel_rfl) (fun _ _ _ h => h) (Or.inl ⟨by kernel_rfl, fun w' hSw => by have h0 := hSw.1; have h1 := hSw.2; go_simp⟩) hS0 ?_
          try simp only [Act.put, List.setIfInBounds_toArray, List.set_cons_zero, List.set_cons_succ]
          refine tk2 (v := (.slice (some ⟨ab, ao, none⟩) l1.length vc1)) (by kernel_rfl) (by kernel_rfl) (by kernel_rfl) (fun _ _ _ h => h) (Or.inl ⟨by kernel_rfl, fun w' hSw => by go_simp⟩) hS0 ?_
          try simp only [Act.put, List.setIfInBounds_toArray, List.set_cons_zero, List.set_cons_succ]
          refine tk3 (v := (.int .i64 j)) (by kernel_rfl) (by kernel_rfl) (by kernel_rfl) (fun _ _ _ h => h) (Or.inl ⟨by kernel_rfl, fun w' hSw => by go_simp⟩) hS0 ?_
          try simp only [Act.put, List.setIfInBounds_toArray, List.set_cons_zero, List.set_cons_succ]
          refine tk4 (v := (.slice (some ⟨ab, ao, none⟩) j vc1)) (by kernel_rfl) (by kernel_rfl) (by kernel_rfl) (fun _ _ _ h => h) (Or.inl ⟨by kernel_rfl, fun w' hSw => by go_simp⟩) hS0 ?_
          try simp only [Act.put, List.setIfInBounds_toArray, List.set_cons_zero, List.set_cons_succ]
          refine tk6 (v := (.slice (some ⟨ab, ao, none⟩) l1.length vc1)) (by kernel_rfl) (by kernel_rfl) (by kernel_rfl) (fun _ _ _ h => h) (Or.inl ⟨by kernel_rfl, fun w' hSw => by go_simp⟩) hS0 ?_
          try simp only [Act.put, List.setIfInBounds_toArray, List.set_cons_zero, List.set_cons_succ]
          refine tk7 (v := (.int .i64 j)) (by kernel_rfl) (by kernel_rfl) (by kernel_rfl) (fun _ _ _ h => h) (Or.inl ⟨by kernel_rfl, fun w' hSw => by go_simp⟩) hS0 ?_
          try simp only [Act.put, List.setIfInBounds_toArray, List.set_cons_zero, List.set_cons_succ]
          refine tk8 (v := (.int .i64 ((j : Int) + 1))) (by kernel_rfl) (by kernel_rfl) (by kernel_rfl) (fun _ _ _ h => h) (Or.inl ⟨by kernel_rfl, fun w' hSw => by go_simp⟩) hS0 ?_
          try simp only [Act.put, List.setIfInBounds_toArray, List.set_cons_zero, List.set_cons_succ]
          refine tk9 (v := (.slice (some xa) (l1.length - (j + 1)) (vc1 - (j + 1)))) (by kernel_rfl) (by kernel_rfl) (by kernel_rfl) (fun _ _ _ h => h) (Or.inl ⟨by kernel_rfl, fun w' hSw => by go_simp⟩) hS0 ?_
          try simp only [Act.put, List.setIfInBounds_toArray, List.set_cons_zero, List.set_cons_succ]
          refine wpAnyH_ready (rs := [1]) (by kernel_rfl) (by simp) (AllReadyH.cons rfl (fun K hK => ?_) AllReadyH.nil)
          go_simp
          refine (HOf.out _).mono ?_
          rintro e wa ⟨rfl, hba⟩
          have hBa : Below wr.heap.size wr wa := hBd.trans (hba.mono hBd.size)
          refine hK.out _ _ (HKS.out _ hBa) fun _ => ?_
          clear hK
          refine wpAnyH_ready (rs := [5]) (by kernel_rfl) (by simp) (AllReadyH.cons rfl (fun K hK => ?_) AllReadyH.nil)
          go_simp
          have hlj : (l1.take j).length = j := by simp; omega
          have HLj := Lib.hid (HLo.out _ _ wa (HTk.out.below hBa (Nat.le_refl _)) (by rw [hlj]; omega))
          rw [hlj] at HLj
          refine HLj.out.mono ?_
          clear HLj
          rintro e wb ⟨la2, lc2, rfl, ho, hbb⟩
          have hBb : Below wr.heap.size wr wb := hBa.trans (hbb.mono hBa.size)
          refine hK.out _ _ (HKS.out _ hBb) fun _ => ?_
          clear hK
          refine wpAnyH_ready (rs := [10]) (by kernel_rfl) (by simp) (AllReadyH.cons rfl (fun K hK => ?_) AllReadyH.nil)
          rw [if_pos (by kernel_rfl)]
          have hld : (l1.drop (j + 1)).length = l1.length - (j + 1) := by simp
          refine wp_append_own _ _ _ 24 rfl wa.heap.size 3 i0 (.int .i64 0) 1 8 Try.underlying24 hi0 hz0 hz1 hz2 rfl (by decide) (.slice la2 j lc2) j (ints (l1.take j)) rfl ho xa (l1.length - (j + 1)) (vc1 - (j + 1)) (ints (l1.drop (j + 1))) rfl (by rw [ints_length, hld, Nat.mul_one]) (fun q u hq => ck (HDc.out q u hq) hBb) (ints_oneCell _) (by unfold maxLen; omega) (by omega) hbb.size ?_
          intro v9 w9 hown9 hg9 _
          have hcat : ints (l1.take j) ++ ints (l1.drop (j + 1)) = ints (l1.take j ++ l1.drop (j + 1)) := by simp [ints]
          rw [hcat] at hown9
          have HN9 : Hid (Ints w9 v9 (l1.take j ++ l1.drop (j + 1))) := Lib.hid (Ints.of_owns hown9 (by omega) (fun z hz => by
            rcases List.mem_append.1 hz with hz | hz
            · exact HI64.out z (List.mem_of_mem_take hz)
            · exact HI64.out z (List.mem_of_mem_drop hz)))
          have hB9 : Below wr.heap.size wr w9 := hBb.grown hg9 hBb.size fun q e => Nat.le_trans hBa.size (ho.lt q e).1
          obtain ⟨a9, c9, rfl⟩ := owns_form hown9
          refine hK.out _ _ (HKS.out _ hB9) fun _ => ?_
          clear hK hown9 hg9
          refine wpAnyH_ready (rs := [11]) (by kernel_rfl) (by simp) (AllReadyH.cons rfl (fun K hK => ?_) AllReadyH.nil)
          go_simp
          refine (HNj.out _ _ HN9.out).mono ?_
          rintro e w8 ⟨a8, c8, d8, rfl, hn8, hb8⟩
          have hB8 : Below wr.heap.size wr w8 := hB9.trans (hb8.mono hB9.size)
          have HN8 := Lib.hid hn8
          refine hK.out _ _ (HKS.out _ hB8) fun _ => ?_
          clear hK
          have hS8 := HKS.out _ hB8
          refine tk12 (v := (.tuple #[.slice a8 d8 c8, .int .i64 0])) (by kernel_rfl) (by kernel_rfl) (by kernel_rfl) (fun _ _ _ h => h) (Or.inl ⟨by kernel_rfl, fun w' hSw => by go_simp⟩) hS8 ?_
          try simp only [Act.put, List.setIfInBounds_toArray, List.set_cons_zero, List.set_cons_succ]
          refine tk13 (v := (.slice a8 d8 c8)) (by kernel_rfl) (by kernel_rfl) (by kernel_rfl) (fun _ _ _ h => h) (Or.inl ⟨by kernel_rfl, fun w' hSw => by go_simp⟩) hS8 ?_
          try simp only [Act.put, List.setIfInBounds_toArray, List.set_cons_zero, List.set_cons_succ]
          refine tk14 (v := (.int .i64 0)) (by kernel_rfl) (by kernel_rfl) (by kernel_rfl) (fun _ _ _ h => h) (Or.inl ⟨by kernel_rfl, fun w' hSw => by go_simp⟩) hS8 ?_
          try simp only [Act.put, List.setIfInBounds_toArray, List.set_cons_zero, List.set_cons_succ]
          refine tk15 (v := (.slice a8 d8 c8)) (by kernel_rfl) (by kernel_rfl) (by kernel_rfl) (fun _ _ _ h => h) (Or.inl ⟨by kernel_rfl, fun w' hSw => by go_simp⟩) hS8 ?_
          try simp only [Act.put, List.setIfInBounds_toArray, List.set_cons_zero, List.set_cons_succ]
          refine tk16 (v := (.int .i64 0)) (by kernel_rfl) (by kernel_rfl) (by kernel_rfl) (fun _ _ _ h => h) (Or.inl ⟨by kernel_rfl, fun w' hSw => by go_simp⟩) hS8 ?_
          try simp only [Act.put, List.setIfInBounds_toArray, List.set_cons_zero, List.set_cons_succ]
          refine wpAnyH_done (by kernel_rfl) ?_ _
          have HB8 := Lib.hid hB8
          have HBr8 := Lib.hid (HBr.out.trans (hB8.mono HBr.out.size))
          have HEj := Lib.hid (HE9.out _ _ _ _ w8 HN8.out (HTr.out.below hB8 (Nat.le_refl _)))
          rw [eqB_nats] at HEj
          clear hS0 hS8 hBd hBa hBb hB9 hB8 hba hbb hb8 hn8 ho HN9 HN8 HDc HTk HKS HNj
          by_cases hjk : j = kk
          · have hd1 : ((j : Int) == (kk : Int)) = true := beq_iff_eq.2 (by omega)
            rw [decide_eq_true (HUj.out.2 hjk)] at HEj
            clear hjk
            go_wp2_with fail
            refine HEj.out.mono ?_
            rintro e wz ⟨rfl, hbz⟩
            have HBz := Lib.hid (HBr8.out.trans (hbz.mono HBr8.out.size))
            clear hbz
            go_wp2_with fail
            go_roundw
            case rel => exact ⟨j + 1, by omega, by go_num, HBz.out⟩
            case measure => simp [intOf]; omega
          · have hd1 : ((j : Int) == (kk : Int)) = false := beq_eq_false_iff_ne.2 (by omega)
            rw [decide_eq_false (fun e => hjk (HUj.out.1 e))] at HEj
            clear hjk
            go_wp2_with fail
            refine HEj.out.mono ?_
            rintro e wz ⟨rfl, hbz⟩
            have HBz := Lib.hid (HBr8.out.trans (hbz.mono HBr8.out.size))
            clear hbz
            go_wp2_with fail
            go_roundw
            case rel => exact ⟨j + 1, by omega, by go_num, HBz.out⟩
            case measure => simp [intOf]; omega
        · have hjj : j = l1.length := by omega
          clear hjj
          go_wp2_with fail
          refine (HAw.out _).mono ?_
          rintro e wz ⟨rfl, hbz⟩
          have HBz := Lib.hid (HBw.out.trans (hbz.mono HBw.out.size))
          clear hbz
          go_wp2_with fail
          go_ret
          exact ⟨rfl, HBz.out⟩

/-- THE LAW MirrorLeaves. -/
theorem mirrorLeaves_law (k n : Int) (v1 : Value) (l1 : List Int) (s : Int) (w : World) (h1 : Ints w v1 l1) :
    Calls Try.prog 14 #[gV k n, v1, .int .i64 s] w fun e w' => e = .returned (.bool true) ∧ Below w.heap.size w w' := by
  by_cases hk : grpB k n = true
  · obtain ⟨g, hg, rfl, rfl⟩ := grp_of hk
    cases hw1 : wordB g l1 with
    | true =>
      by_cases hln : ln g (folI g l1) = l1.length
      · by_cases hs0 : s < 0
        · exact leaves_b g hg v1 l1 s w h1 hw1 hln hs0
        · by_cases hs4 : 4 ≤ s
          · exact leaves_c g hg v1 l1 s w h1 hw1 hln hs4
          · obtain ⟨t, rfl⟩ := Int.eq_ofNat_of_zero_le (show 0 ≤ s by omega)
            by_cases hk : kM g ≤ t
            · exact leaves_d g hg v1 l1 t w h1 hw1 hln hk (by omega)
            · by_cases hf : ln g (rt g (folI g l1) t) < ln g (folI g l1)
              · exact leaves_f g hg v1 l1 t w h1 hw1 hln (by omega) hf
              · exact leaves_e g hg v1 l1 t w h1 hw1 hln (by omega) hf
      · exact leaves_a g hg v1 l1 s w h1 hw1 hln
    | false => exact leaves_bad _ _ v1 l1 s w h1 (.inr ⟨g, hg, rfl, rfl, by simp [word_take, hw1]⟩)
  · exact leaves_bad k n v1 l1 s w h1 (.inl (by simpa using hk))
end Go.Proofs.Ytlnbodpdgebflaa
