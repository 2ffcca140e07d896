/- the reference's Most, Long and Greatest; CapsMost: the walk -/
import Derived.Test.YtlalfjkenkmojaaMo

namespace Go.Proofs.Ytlalfjkenkmojaa
open Go.RowKit

theorem searched_any (kind n : Nat) (g : List Nat → Bool) (hn : n ≤ 40) (hR : RightR kind n g) (Bp M : Nat) : ∀ (a : Nat) (l best : List Nat) (ao bo : Option Addr) (cap bc : Nat) (w : World), n - a < M → a ≤ n → RightD l → (∀ y ∈ l, y < a) → l.length ≤ a → best.length ≤ n → Nats w (.slice ao l.length cap) l → Box 22 w Bp (.slice bo best.length bc) → Nats w (.slice bo best.length bc) best →
      Calls Try.prog 76 #[.int .i64 kind, .int .i64 n, .int .i64 a, .slice ao l.length cap, .pointer (some ⟨Bp, 0, none⟩)] w (QPost Bp (seekR g n a l (upd best l)) w) := by
  induction M with
  | zero => intro a l best ao bo cap bc w h; exact absurd h (by omega)
  | succ M ih => intro a l best ao bo cap bc w h ha hd hla hll hbn hN hB hNb; exact searched_step kind n g hn hR Bp M ih a l best ao bo cap bc w (by omega) ha hd hla hll hbn hN hB hNb
set_option maxHeartbeats 1000000 in
theorem rMost_any (kind n a : Nat) (g : List Nat → Bool) (w : World) (hn : n ≤ 40) (ha : a ≤ n) (hR : RightR kind n g) : Calls Try.prog 36 #[.int .i64 kind, .int .i64 n, .int .i64 a] w fun e w' => ∃ v, e = .returned v ∧ Nats w' v (seekR g n a [] []) ∧ Below w.heap.size w w' := by
  have hB := Box.new 22 w (.slice none 0 0)
  have HS := Lib.hid (searched_any kind n g hn hR w.heap.size (n - a + 1) a [] [] none none 0 0 (w.alloc (.cells #[.slice none 0 0] 22)) (by omega) ha ⟨List.Pairwise.nil, by simp⟩ (by simp) (Nat.zero_le _) (Nat.zero_le _) (Ints.nil _) hB (Ints.nil _))
  rw [show upd [] [] = ([] : List Nat) from rfl] at HS
  generalize seekR g n a [] [] = T at *
  clear hB hR
  go_enter Try.func36, Try.ntmps36
  go_wp2_with fail
  refine HS.out.mono ?_
  rintro e w1 ⟨rfl, ⟨b1, c1, hB1, hN1⟩, hM1⟩
  have hc1 := hB1.cell
  have HN1 := Lib.hid hN1
  have HB1 : Hid (Below w.heap.size w w1) := Lib.hid (((Below.refl _ w).alloc (Nat.le_refl _) _).trans (hM1.below (by simp) fun k hk => by omega))
  clear hB1 hN1 hM1
  go_wp2
  go_ret
  exact ⟨_, rfl, HN1.out, HB1.out⟩
theorem most_same (n : Nat) : seekR (sumsB n) n 0 [] [] = mostN n := by unfold seekR mostN longL; rw [Nat.sub_zero]
theorem wide_same (n : Nat) : seekR (apartB n) n 0 [] [] = wideN n := by unfold seekR wideN longL; rw [Nat.sub_zero]
theorem stepsR_pre (l : List Nat) (x : Nat) (h : stepsR (l ++ [x]) = true) : stepsR l = true := by
  rw [stepsR_iff] at h ⊢
  intro i j hi hj hc
  refine h i j (by simp; omega) hj ?_
  rw [snoc_at hi, snoc_at (by omega)]
  exact List.mem_append_left _ hc
theorem long_same (n : Nat) : (seekR stepsR (n + 1) 1 [] []).length = longN n := by
  have e : seekR stepsR (n + 1) 1 [] [] = longL (ruleOf stepsR) (List.range' 1 n) := by unfold seekR longL; rw [Nat.add_sub_cancel]
  rw [e]
  unfold longN
  have h1 := long_keeps (ruleOf stepsR) (List.range' 1 n)
  have h2 := long_keeps endsB (List.range' 1 n)
  have u1 := sub_up h1.2 (up_range' 1 n)
  have u2 := sub_up h2.2 (up_range' 1 n)
  have k1 := fun l => keepsL_rule stepsR rfl stepsR_pre l
  have m1 := long_most h1.2 (show keepsL endsB _ = true from (keeps_steps _ u1).trans ((k1 _).symm.trans h1.1))
  have m2 := long_most h2.2 (show keepsL (ruleOf stepsR) _ = true from (k1 _).trans ((keeps_steps _ u2).symm.trans h2.1))
  omega
set_option maxHeartbeats 1000000 in
theorem rLong_any (n : Nat) (w : World) (hn : n ≤ 24) : Calls Try.prog 35 #[.int .i64 n] w fun e w' => e = .returned (.int .i64 (longN n : Nat)) ∧ Below w.heap.size w w' := by
  have hm := rMost_any 2 (n + 1) 1 stepsR w (by omega) (by omega) (right2 _)
  rw [show ((n + 1 : Nat) : Int) = (n:Int) + 1 by omega] at hm
  have HM := Lib.hid hm
  have HL := Lib.hid (long_same n)
  clear hm
  generalize seekR stepsR (n + 1) 1 [] [] = T at *
  go_enter Try.func35, Try.ntmps35
  go_wp2_with fail
  refine HM.out.mono ?_
  rintro e w1 ⟨v1, rfl, hn1, hb1⟩
  obtain ⟨a1, c1, rfl⟩ := nats_len_form hn1
  have HB1 := Lib.hid hb1
  clear hn1 hb1
  go_wp2
  go_ret
  exact ⟨by rw [← HL.out]; rfl, HB1.out⟩
theorem idx4 (d : Nat) (hd : d < 4) (w : World) : (Instr.index 59 (.agg #[.int .i64 0, .int .i64 2, .int .i64 4, .int .i64 9]) (.int .i64 d)).run Try.prog w = .ok (.int .i64 (capM d : Nat)) w := by
  have h0 : (Instr.index 59 (.agg #[.int .i64 0, .int .i64 2, .int .i64 4, .int .i64 9]) (.int .i64 0)).run Try.prog w = .ok (.int .i64 0) w := by kernel_rfl
  have h1 : (Instr.index 59 (.agg #[.int .i64 0, .int .i64 2, .int .i64 4, .int .i64 9]) (.int .i64 1)).run Try.prog w = .ok (.int .i64 2) w := by kernel_rfl
  have h2 : (Instr.index 59 (.agg #[.int .i64 0, .int .i64 2, .int .i64 4, .int .i64 9]) (.int .i64 2)).run Try.prog w = .ok (.int .i64 4) w := by kernel_rfl
  have h3 : (Instr.index 59 (.agg #[.int .i64 0, .int .i64 2, .int .i64 4, .int .i64 9]) (.int .i64 3)).run Try.prog w = .ok (.int .i64 9) w := by kernel_rfl
  match d, hd with
  | 0, _ => exact h0
  | 1, _ => exact h1
  | 2, _ => exact h2
  | 3, _ => exact h3
set_option maxHeartbeats 1000000 in
theorem rGreatest_any (d : Nat) (w : World) (h1 : 1 ≤ d) (h3 : d ≤ 3) : Calls Try.prog 34 #[.int .i64 d] w fun e w' => ∃ v, e = .returned v ∧ Nats w' v (greatN d) ∧ Below w.heap.size w w' := by
  have hM : 1 ≤ capM d ∧ capM d ≤ 20 := by rcases (show d = 1 ∨ d = 2 ∨ d = 3 by omega) with rfl | rfl | rfl <;> decide
  have hg := grown_any d (capM d) (3 ^ d) h1 (by omega) rfl hM.1 hM.2 (capM d) 0 [] none 0 w (by simp) (Nat.zero_le _) (by simp) (Ints.nil _)
  rw [show groR d (capM d) (3 ^ d) [] 0 = some (greatN d) from gro_great h1 h3] at hg
  have HG := Lib.hid hg
  have hIx := fun w => idx4 d (by omega) w
  clear hg hM
  generalize greatN d = T at *
  generalize capM d = M at *
  go_enter Try.func34, Try.ntmps34
  go_wp2_with fail
  refine HG.out.mono ?_
  rintro e w1 ⟨hb1, b1, o1, n1, c1, rfl, hn1⟩
  have HB1 := Lib.hid hb1
  have HN1 := Lib.hid hn1
  clear hn1 hb1
  go_wp2
  go_ret
  exact ⟨_, rfl, HN1.out, HB1.out⟩
set_option maxHeartbeats 1000000 in
theorem MostX_bad (n : Int) (w : World) (h : n < 2 ∨ 25 < n) : Calls Try.prog 31 #[.int .i64 n] w fun e w' => e = .returned (.tuple #[.slice none 0 0, .int .i64 2]) ∧ Below w.heap.size w w' := by
  have HM := Lib.hid (isModulus_any n w)
  by_cases h4 : isModulusB n = true
  · rw [h4] at HM
    have h5 := of_decide_eq_true h4
    have h6 : 25 < n := by omega
    clear h4 h h5
    go_enter Try.func31, Try.ntmps31
    go_wp2_with fail
    refine HM.out.mono ?_
    rintro e w' ⟨rfl, rfl⟩
    go_wp2
    go_ret2
    exact ⟨rfl, Below.refl _ _⟩
  · have h4 : isModulusB n = false := by simpa using h4
    rw [h4] at HM
    clear h4 h
    go_enter Try.func31, Try.ntmps31
    go_wp2_with fail
    refine HM.out.mono ?_
    rintro e w' ⟨rfl, rfl⟩
    go_wp2
    go_ret2
    exact ⟨rfl, Below.refl _ _⟩
set_option maxHeartbeats 1000000 in
theorem WideX_bad (n : Int) (w : World) (h : n < 2 ∨ 25 < n) : Calls Try.prog 32 #[.int .i64 n] w fun e w' => e = .returned (.tuple #[.slice none 0 0, .int .i64 2]) ∧ Below w.heap.size w w' := by
  have HM := Lib.hid (isModulus_any n w)
  by_cases h4 : isModulusB n = true
  · rw [h4] at HM
    have h5 := of_decide_eq_true h4
    have h6 : 25 < n := by omega
    clear h4 h h5
    go_enter Try.func32, Try.ntmps32
    go_wp2_with fail
    refine HM.out.mono ?_
    rintro e w' ⟨rfl, rfl⟩
    go_wp2
    go_ret2
    exact ⟨rfl, Below.refl _ _⟩
  · have h4 : isModulusB n = false := by simpa using h4
    rw [h4] at HM
    clear h4 h
    go_enter Try.func32, Try.ntmps32
    go_wp2_with fail
    refine HM.out.mono ?_
    rintro e w' ⟨rfl, rfl⟩
    go_wp2
    go_ret2
    exact ⟨rfl, Below.refl _ _⟩

set_option maxHeartbeats 2000000 in
set_option maxRecDepth 100000 in
theorem most_a (n : Int) (w : World) (h : n < 1) : Calls Try.prog 5 #[.int .i64 n] w fun e w' => e = .returned (.bool true) ∧ Below w.heap.size w w' := by
  have HAw := Lib.hid (fun w => awake_any w)
  have HGr := Lib.hid (fun w => Greatest_bad n w (by omega))
  have HMo := Lib.hid (fun w => MostX_bad n w (by omega))
  have HWi := Lib.hid (fun w => WideX_bad n w (by omega))
  have HLo := Lib.hid (fun w => Long_bad n w (by omega))
  have HB0 := Lib.hid (Below.refl w.heap.size w)
  go_enter Try.func5, Try.ntmps5
  go_wp2_with fail
  refine (HGr.out w).mono ?_
  rintro e w1 ⟨rfl, hb1⟩
  have HB1 := Lib.hid (HB0.out.trans (hb1.mono HB0.out.size))
  clear hb1
  go_wp2_with fail
  refine (HMo.out w1).mono ?_
  rintro e w2 ⟨rfl, hb2⟩
  have HB2 := Lib.hid (HB1.out.trans (hb2.mono HB1.out.size))
  clear hb2
  go_wp2_with fail
  refine (HWi.out w2).mono ?_
  rintro e w3 ⟨rfl, hb3⟩
  have HB3 := Lib.hid (HB2.out.trans (hb3.mono HB2.out.size))
  clear hb3
  go_wp2_with fail
  refine (HLo.out w3).mono ?_
  rintro e w4 ⟨rfl, hb4⟩
  have HB4 := Lib.hid (HB3.out.trans (hb4.mono HB3.out.size))
  clear hb4
  go_wp2_with fail
  refine (HAw.out w4).mono ?_
  rintro e w5 ⟨rfl, hb5⟩
  have HB5 := Lib.hid (HB4.out.trans (hb5.mono HB4.out.size))
  clear hb5
  go_wp2
  go_ret
  exact ⟨rfl, HB5.out⟩

set_option maxHeartbeats 2000000 in
set_option maxRecDepth 100000 in
theorem most_b (n : Nat) (w : World) (h : 1 ≤ n) (h3 : n ≤ 1) : Calls Try.prog 5 #[.int .i64 n] w fun e w' => e = .returned (.bool true) ∧ Below w.heap.size w w' := by
  have HAw := Lib.hid (fun w => awake_any w)
  have HGr := Lib.hid (fun w => Greatest_any n w (by omega) (by omega))
  have HRG := Lib.hid (fun w => rGreatest_any n w (by omega) (by omega))
  have HE1 := Lib.hid (fun v v' w h h' => equal_self v v' (greatN n) w h h')
  generalize greatN n = gs at *
  have HMo := Lib.hid (fun w => MostX_bad n w (by omega))
  have HWi := Lib.hid (fun w => WideX_bad n w (by omega))
  have HLo := Lib.hid (fun w => Long_any n w (by omega) (by omega))
  have HRL := Lib.hid (fun w => rLong_any n w (by omega))
  generalize longN n = p at *
  have HB0 := Lib.hid (Below.refl w.heap.size w)
  go_enter Try.func5, Try.ntmps5
  go_wp2_with fail
  refine (HGr.out w).mono ?_
  rintro e w1 ⟨v1, rfl, hv1, hb1⟩
  have HB1 := Lib.hid (HB0.out.trans (hb1.mono HB0.out.size))
  have G_1 := Lib.hid (hv1)
  clear hb1 hv1
  go_wp2_with fail
  refine (HMo.out w1).mono ?_
  rintro e w2 ⟨rfl, hb2⟩
  have HB2 := Lib.hid (HB1.out.trans (hb2.mono HB1.out.size))
  have G_2 := Lib.hid (G_1.out.below hb2 (Nat.le_refl _))
  clear hb2
  go_wp2_with fail
  refine (HWi.out w2).mono ?_
  rintro e w3 ⟨rfl, hb3⟩
  have HB3 := Lib.hid (HB2.out.trans (hb3.mono HB2.out.size))
  have G_3 := Lib.hid (G_2.out.below hb3 (Nat.le_refl _))
  clear hb3
  go_wp2_with fail
  refine (HLo.out w3).mono ?_
  rintro e w4 ⟨rfl, hb4⟩
  have HB4 := Lib.hid (HB3.out.trans (hb4.mono HB3.out.size))
  have G_4 := Lib.hid (G_3.out.below hb4 (Nat.le_refl _))
  clear hb4
  go_wp2_with fail
  refine (HRG.out w4).mono ?_
  rintro e w5 ⟨v5, rfl, hv5, hb5⟩
  have HB5 := Lib.hid (HB4.out.trans (hb5.mono HB4.out.size))
  have G_5 := Lib.hid (G_4.out.below hb5 (Nat.le_refl _))
  have H_5 := Lib.hid (hv5)
  clear hb5 hv5
  go_wp2_with fail
  refine (HE1.out v1 v5 w5 G_5.out H_5.out).mono ?_
  rintro e w6 ⟨rfl, hb6⟩
  have HB6 := Lib.hid (HB5.out.trans (hb6.mono HB5.out.size))
  have G_6 := Lib.hid (G_5.out.below hb6 (Nat.le_refl _))
  have H_6 := Lib.hid (H_5.out.below hb6 (Nat.le_refl _))
  clear hb6
  clear G_6
  clear H_6
  go_wp2_with fail
  refine (HRL.out w6).mono ?_
  rintro e w7 ⟨rfl, hb7⟩
  have HB7 := Lib.hid (HB6.out.trans (hb7.mono HB6.out.size))
  clear hb7
  go_wp2_with fail
  refine (HAw.out w7).mono ?_
  rintro e w8 ⟨rfl, hb8⟩
  have HB8 := Lib.hid (HB7.out.trans (hb8.mono HB7.out.size))
  clear hb8
  go_wp2
  go_ret
  exact ⟨rfl, HB8.out⟩

set_option maxHeartbeats 2000000 in
set_option maxRecDepth 100000 in
theorem most_c (n : Nat) (w : World) (h : 2 ≤ n) (h3 : n ≤ 3) : Calls Try.prog 5 #[.int .i64 n] w fun e w' => e = .returned (.bool true) ∧ Below w.heap.size w w' := by
  have HAw := Lib.hid (fun w => awake_any w)
  have HGr := Lib.hid (fun w => Greatest_any n w (by omega) (by omega))
  have HRG := Lib.hid (fun w => rGreatest_any n w (by omega) (by omega))
  have HE1 := Lib.hid (fun v v' w h h' => equal_self v v' (greatN n) w h h')
  generalize greatN n = gs at *
  have HMo := Lib.hid (fun w => Most_any n w (by omega) (by omega))
  have HWi := Lib.hid (fun w => Wide_any n w (by omega) (by omega))
  have hr0 := fun w => rMost_any 0 n 0 (sumsB n) w (by omega) (Nat.zero_le _) (right0 n (by omega) (by omega))
  have hr1 := fun w => rMost_any 1 n 0 (apartB n) w (by omega) (Nat.zero_le _) (right1 n (by omega) (by omega))
  rw [most_same] at hr0
  rw [wide_same] at hr1
  have HR0 := Lib.hid hr0
  have HR1 := Lib.hid hr1
  have HE2 := Lib.hid (fun v v' w h h' => equal_self v v' (mostN n) w h h')
  have HE3 := Lib.hid (fun v v' w h h' => equal_self v v' (wideN n) w h h')
  clear hr0 hr1
  generalize mostN n = ms at *
  generalize wideN n = ws at *
  have HLo := Lib.hid (fun w => Long_any n w (by omega) (by omega))
  have HRL := Lib.hid (fun w => rLong_any n w (by omega))
  generalize longN n = p at *
  have HB0 := Lib.hid (Below.refl w.heap.size w)
  go_enter Try.func5, Try.ntmps5
  go_wp2_with fail
  refine (HGr.out w).mono ?_
  rintro e w1 ⟨v1, rfl, hv1, hb1⟩
  have HB1 := Lib.hid (HB0.out.trans (hb1.mono HB0.out.size))
  have G_1 := Lib.hid (hv1)
  clear hb1 hv1
  go_wp2_with fail
  refine (HMo.out w1).mono ?_
  rintro e w2 ⟨v2, rfl, hv2, hb2⟩
  have HB2 := Lib.hid (HB1.out.trans (hb2.mono HB1.out.size))
  have G_2 := Lib.hid (G_1.out.below hb2 (Nat.le_refl _))
  have M_2 := Lib.hid (hv2)
  clear hb2 hv2
  go_wp2_with fail
  refine (HWi.out w2).mono ?_
  rintro e w3 ⟨v3, rfl, hv3, hb3⟩
  have HB3 := Lib.hid (HB2.out.trans (hb3.mono HB2.out.size))
  have G_3 := Lib.hid (G_2.out.below hb3 (Nat.le_refl _))
  have M_3 := Lib.hid (M_2.out.below hb3 (Nat.le_refl _))
  have D_3 := Lib.hid (hv3)
  clear hb3 hv3
  go_wp2_with fail
  refine (HLo.out w3).mono ?_
  rintro e w4 ⟨rfl, hb4⟩
  have HB4 := Lib.hid (HB3.out.trans (hb4.mono HB3.out.size))
  have G_4 := Lib.hid (G_3.out.below hb4 (Nat.le_refl _))
  have M_4 := Lib.hid (M_3.out.below hb4 (Nat.le_refl _))
  have D_4 := Lib.hid (D_3.out.below hb4 (Nat.le_refl _))
  clear hb4
  go_wp2_with fail
  refine (HRG.out w4).mono ?_
  rintro e w5 ⟨v5, rfl, hv5, hb5⟩
  have HB5 := Lib.hid (HB4.out.trans (hb5.mono HB4.out.size))
  have G_5 := Lib.hid (G_4.out.below hb5 (Nat.le_refl _))
  have M_5 := Lib.hid (M_4.out.below hb5 (Nat.le_refl _))
  have D_5 := Lib.hid (D_4.out.below hb5 (Nat.le_refl _))
  have H_5 := Lib.hid (hv5)
  clear hb5 hv5
  go_wp2_with fail
  refine (HE1.out v1 v5 w5 G_5.out H_5.out).mono ?_
  rintro e w6 ⟨rfl, hb6⟩
  have HB6 := Lib.hid (HB5.out.trans (hb6.mono HB5.out.size))
  have G_6 := Lib.hid (G_5.out.below hb6 (Nat.le_refl _))
  have M_6 := Lib.hid (M_5.out.below hb6 (Nat.le_refl _))
  have D_6 := Lib.hid (D_5.out.below hb6 (Nat.le_refl _))
  have H_6 := Lib.hid (H_5.out.below hb6 (Nat.le_refl _))
  clear hb6
  clear G_6
  clear H_6
  go_wp2_with fail
  refine (HRL.out w6).mono ?_
  rintro e w7 ⟨rfl, hb7⟩
  have HB7 := Lib.hid (HB6.out.trans (hb7.mono HB6.out.size))
  have M_7 := Lib.hid (M_6.out.below hb7 (Nat.le_refl _))
  have D_7 := Lib.hid (D_6.out.below hb7 (Nat.le_refl _))
  clear hb7
  go_wp2_with fail
  refine (HR0.out w7).mono ?_
  rintro e w8 ⟨v8, rfl, hv8, hb8⟩
  have HB8 := Lib.hid (HB7.out.trans (hb8.mono HB7.out.size))
  have M_8 := Lib.hid (M_7.out.below hb8 (Nat.le_refl _))
  have D_8 := Lib.hid (D_7.out.below hb8 (Nat.le_refl _))
  have X_8 := Lib.hid (hv8)
  clear hb8 hv8
  go_wp2_with fail
  refine (HE2.out v2 v8 w8 M_8.out X_8.out).mono ?_
  rintro e w9 ⟨rfl, hb9⟩
  have HB9 := Lib.hid (HB8.out.trans (hb9.mono HB8.out.size))
  have M_9 := Lib.hid (M_8.out.below hb9 (Nat.le_refl _))
  have D_9 := Lib.hid (D_8.out.below hb9 (Nat.le_refl _))
  have X_9 := Lib.hid (X_8.out.below hb9 (Nat.le_refl _))
  clear hb9
  clear M_9
  clear X_9
  go_wp2_with fail
  refine (HR1.out w9).mono ?_
  rintro e w10 ⟨v10, rfl, hv10, hb10⟩
  have HB10 := Lib.hid (HB9.out.trans (hb10.mono HB9.out.size))
  have D_10 := Lib.hid (D_9.out.below hb10 (Nat.le_refl _))
  have Y_10 := Lib.hid (hv10)
  clear hb10 hv10
  go_wp2_with fail
  refine (HE3.out v3 v10 w10 D_10.out Y_10.out).mono ?_
  rintro e w11 ⟨rfl, hb11⟩
  have HB11 := Lib.hid (HB10.out.trans (hb11.mono HB10.out.size))
  have D_11 := Lib.hid (D_10.out.below hb11 (Nat.le_refl _))
  have Y_11 := Lib.hid (Y_10.out.below hb11 (Nat.le_refl _))
  clear hb11
  clear D_11
  clear Y_11
  go_wp2_with fail
  refine (HAw.out w11).mono ?_
  rintro e w12 ⟨rfl, hb12⟩
  have HB12 := Lib.hid (HB11.out.trans (hb12.mono HB11.out.size))
  clear hb12
  go_wp2
  go_ret
  exact ⟨rfl, HB12.out⟩

set_option maxHeartbeats 2000000 in
set_option maxRecDepth 100000 in
theorem most_d (n : Nat) (w : World) (h : 4 ≤ n) (h3 : n ≤ 24) : Calls Try.prog 5 #[.int .i64 n] w fun e w' => e = .returned (.bool true) ∧ Below w.heap.size w w' := by
  have HAw := Lib.hid (fun w => awake_any w)
  have HGr := Lib.hid (fun w => Greatest_bad n w (by omega))
  have HMo := Lib.hid (fun w => Most_any n w (by omega) (by omega))
  have HWi := Lib.hid (fun w => Wide_any n w (by omega) (by omega))
  have hr0 := fun w => rMost_any 0 n 0 (sumsB n) w (by omega) (Nat.zero_le _) (right0 n (by omega) (by omega))
  have hr1 := fun w => rMost_any 1 n 0 (apartB n) w (by omega) (Nat.zero_le _) (right1 n (by omega) (by omega))
  rw [most_same] at hr0
  rw [wide_same] at hr1
  have HR0 := Lib.hid hr0
  have HR1 := Lib.hid hr1
  have HE2 := Lib.hid (fun v v' w h h' => equal_self v v' (mostN n) w h h')
  have HE3 := Lib.hid (fun v v' w h h' => equal_self v v' (wideN n) w h h')
  clear hr0 hr1
  generalize mostN n = ms at *
  generalize wideN n = ws at *
  have HLo := Lib.hid (fun w => Long_any n w (by omega) (by omega))
  have HRL := Lib.hid (fun w => rLong_any n w (by omega))
  generalize longN n = p at *
  have HB0 := Lib.hid (Below.refl w.heap.size w)
  go_enter Try.func5, Try.ntmps5
  go_wp2_with fail
  refine (HGr.out w).mono ?_
  rintro e w1 ⟨rfl, hb1⟩
  have HB1 := Lib.hid (HB0.out.trans (hb1.mono HB0.out.size))
  clear hb1
  go_wp2_with fail
  refine (HMo.out w1).mono ?_
  rintro e w2 ⟨v2, rfl, hv2, hb2⟩
  have HB2 := Lib.hid (HB1.out.trans (hb2.mono HB1.out.size))
  have M_2 := Lib.hid (hv2)
  clear hb2 hv2
  go_wp2_with fail
  refine (HWi.out w2).mono ?_
  rintro e w3 ⟨v3, rfl, hv3, hb3⟩
  have HB3 := Lib.hid (HB2.out.trans (hb3.mono HB2.out.size))
  have M_3 := Lib.hid (M_2.out.below hb3 (Nat.le_refl _))
  have D_3 := Lib.hid (hv3)
  clear hb3 hv3
  go_wp2_with fail
  refine (HLo.out w3).mono ?_
  rintro e w4 ⟨rfl, hb4⟩
  have HB4 := Lib.hid (HB3.out.trans (hb4.mono HB3.out.size))
  have M_4 := Lib.hid (M_3.out.below hb4 (Nat.le_refl _))
  have D_4 := Lib.hid (D_3.out.below hb4 (Nat.le_refl _))
  clear hb4
  go_wp2_with fail
  refine (HRL.out w4).mono ?_
  rintro e w5 ⟨rfl, hb5⟩
  have HB5 := Lib.hid (HB4.out.trans (hb5.mono HB4.out.size))
  have M_5 := Lib.hid (M_4.out.below hb5 (Nat.le_refl _))
  have D_5 := Lib.hid (D_4.out.below hb5 (Nat.le_refl _))
  clear hb5
  go_wp2_with fail
  refine (HR0.out w5).mono ?_
  rintro e w6 ⟨v6, rfl, hv6, hb6⟩
  have HB6 := Lib.hid (HB5.out.trans (hb6.mono HB5.out.size))
  have M_6 := Lib.hid (M_5.out.below hb6 (Nat.le_refl _))
  have D_6 := Lib.hid (D_5.out.below hb6 (Nat.le_refl _))
  have X_6 := Lib.hid (hv6)
  clear hb6 hv6
  go_wp2_with fail
  refine (HE2.out v2 v6 w6 M_6.out X_6.out).mono ?_
  rintro e w7 ⟨rfl, hb7⟩
  have HB7 := Lib.hid (HB6.out.trans (hb7.mono HB6.out.size))
  have M_7 := Lib.hid (M_6.out.below hb7 (Nat.le_refl _))
  have D_7 := Lib.hid (D_6.out.below hb7 (Nat.le_refl _))
  have X_7 := Lib.hid (X_6.out.below hb7 (Nat.le_refl _))
  clear hb7
  clear M_7
  clear X_7
  go_wp2_with fail
  refine (HR1.out w7).mono ?_
  rintro e w8 ⟨v8, rfl, hv8, hb8⟩
  have HB8 := Lib.hid (HB7.out.trans (hb8.mono HB7.out.size))
  have D_8 := Lib.hid (D_7.out.below hb8 (Nat.le_refl _))
  have Y_8 := Lib.hid (hv8)
  clear hb8 hv8
  go_wp2_with fail
  refine (HE3.out v3 v8 w8 D_8.out Y_8.out).mono ?_
  rintro e w9 ⟨rfl, hb9⟩
  have HB9 := Lib.hid (HB8.out.trans (hb9.mono HB8.out.size))
  have D_9 := Lib.hid (D_8.out.below hb9 (Nat.le_refl _))
  have Y_9 := Lib.hid (Y_8.out.below hb9 (Nat.le_refl _))
  clear hb9
  clear D_9
  clear Y_9
  go_wp2_with fail
  refine (HAw.out w9).mono ?_
  rintro e w10 ⟨rfl, hb10⟩
  have HB10 := Lib.hid (HB9.out.trans (hb10.mono HB9.out.size))
  clear hb10
  go_wp2
  go_ret
  exact ⟨rfl, HB10.out⟩

set_option maxHeartbeats 2000000 in
set_option maxRecDepth 100000 in
theorem most_e (n : Nat) (w : World) (h : 25 ≤ n) (h3 : n ≤ 25) : Calls Try.prog 5 #[.int .i64 n] w fun e w' => e = .returned (.bool true) ∧ Below w.heap.size w w' := by
  have HAw := Lib.hid (fun w => awake_any w)
  have HGr := Lib.hid (fun w => Greatest_bad n w (by omega))
  have HMo := Lib.hid (fun w => Most_any n w (by omega) (by omega))
  have HWi := Lib.hid (fun w => Wide_any n w (by omega) (by omega))
  have hr0 := fun w => rMost_any 0 n 0 (sumsB n) w (by omega) (Nat.zero_le _) (right0 n (by omega) (by omega))
  have hr1 := fun w => rMost_any 1 n 0 (apartB n) w (by omega) (Nat.zero_le _) (right1 n (by omega) (by omega))
  rw [most_same] at hr0
  rw [wide_same] at hr1
  have HR0 := Lib.hid hr0
  have HR1 := Lib.hid hr1
  have HE2 := Lib.hid (fun v v' w h h' => equal_self v v' (mostN n) w h h')
  have HE3 := Lib.hid (fun v v' w h h' => equal_self v v' (wideN n) w h h')
  clear hr0 hr1
  generalize mostN n = ms at *
  generalize wideN n = ws at *
  have HLo := Lib.hid (fun w => Long_bad n w (by omega))
  have HB0 := Lib.hid (Below.refl w.heap.size w)
  go_enter Try.func5, Try.ntmps5
  go_wp2_with fail
  refine (HGr.out w).mono ?_
  rintro e w1 ⟨rfl, hb1⟩
  have HB1 := Lib.hid (HB0.out.trans (hb1.mono HB0.out.size))
  clear hb1
  go_wp2_with fail
  refine (HMo.out w1).mono ?_
  rintro e w2 ⟨v2, rfl, hv2, hb2⟩
  have HB2 := Lib.hid (HB1.out.trans (hb2.mono HB1.out.size))
  have M_2 := Lib.hid (hv2)
  clear hb2 hv2
  go_wp2_with fail
  refine (HWi.out w2).mono ?_
  rintro e w3 ⟨v3, rfl, hv3, hb3⟩
  have HB3 := Lib.hid (HB2.out.trans (hb3.mono HB2.out.size))
  have M_3 := Lib.hid (M_2.out.below hb3 (Nat.le_refl _))
  have D_3 := Lib.hid (hv3)
  clear hb3 hv3
  go_wp2_with fail
  refine (HLo.out w3).mono ?_
  rintro e w4 ⟨rfl, hb4⟩
  have HB4 := Lib.hid (HB3.out.trans (hb4.mono HB3.out.size))
  have M_4 := Lib.hid (M_3.out.below hb4 (Nat.le_refl _))
  have D_4 := Lib.hid (D_3.out.below hb4 (Nat.le_refl _))
  clear hb4
  go_wp2_with fail
  refine (HR0.out w4).mono ?_
  rintro e w5 ⟨v5, rfl, hv5, hb5⟩
  have HB5 := Lib.hid (HB4.out.trans (hb5.mono HB4.out.size))
  have M_5 := Lib.hid (M_4.out.below hb5 (Nat.le_refl _))
  have D_5 := Lib.hid (D_4.out.below hb5 (Nat.le_refl _))
  have X_5 := Lib.hid (hv5)
  clear hb5 hv5
  go_wp2_with fail
  refine (HE2.out v2 v5 w5 M_5.out X_5.out).mono ?_
  rintro e w6 ⟨rfl, hb6⟩
  have HB6 := Lib.hid (HB5.out.trans (hb6.mono HB5.out.size))
  have M_6 := Lib.hid (M_5.out.below hb6 (Nat.le_refl _))
  have D_6 := Lib.hid (D_5.out.below hb6 (Nat.le_refl _))
  have X_6 := Lib.hid (X_5.out.below hb6 (Nat.le_refl _))
  clear hb6
  clear M_6
  clear X_6
  go_wp2_with fail
  refine (HR1.out w6).mono ?_
  rintro e w7 ⟨v7, rfl, hv7, hb7⟩
  have HB7 := Lib.hid (HB6.out.trans (hb7.mono HB6.out.size))
  have D_7 := Lib.hid (D_6.out.below hb7 (Nat.le_refl _))
  have Y_7 := Lib.hid (hv7)
  clear hb7 hv7
  go_wp2_with fail
  refine (HE3.out v3 v7 w7 D_7.out Y_7.out).mono ?_
  rintro e w8 ⟨rfl, hb8⟩
  have HB8 := Lib.hid (HB7.out.trans (hb8.mono HB7.out.size))
  have D_8 := Lib.hid (D_7.out.below hb8 (Nat.le_refl _))
  have Y_8 := Lib.hid (Y_7.out.below hb8 (Nat.le_refl _))
  clear hb8
  clear D_8
  clear Y_8
  go_wp2_with fail
  refine (HAw.out w8).mono ?_
  rintro e w9 ⟨rfl, hb9⟩
  have HB9 := Lib.hid (HB8.out.trans (hb9.mono HB8.out.size))
  clear hb9
  go_wp2
  go_ret
  exact ⟨rfl, HB9.out⟩

set_option maxHeartbeats 2000000 in
set_option maxRecDepth 100000 in
theorem most_f (n : Int) (w : World) (h : 25 < n) : Calls Try.prog 5 #[.int .i64 n] w fun e w' => e = .returned (.bool true) ∧ Below w.heap.size w w' := by
  have HAw := Lib.hid (fun w => awake_any w)
  have HGr := Lib.hid (fun w => Greatest_bad n w (by omega))
  have HMo := Lib.hid (fun w => MostX_bad n w (by omega))
  have HWi := Lib.hid (fun w => WideX_bad n w (by omega))
  have HLo := Lib.hid (fun w => Long_bad n w (by omega))
  have HB0 := Lib.hid (Below.refl w.heap.size w)
  go_enter Try.func5, Try.ntmps5
  go_wp2_with fail
  refine (HGr.out w).mono ?_
  rintro e w1 ⟨rfl, hb1⟩
  have HB1 := Lib.hid (HB0.out.trans (hb1.mono HB0.out.size))
  clear hb1
  go_wp2_with fail
  refine (HMo.out w1).mono ?_
  rintro e w2 ⟨rfl, hb2⟩
  have HB2 := Lib.hid (HB1.out.trans (hb2.mono HB1.out.size))
  clear hb2
  go_wp2_with fail
  refine (HWi.out w2).mono ?_
  rintro e w3 ⟨rfl, hb3⟩
  have HB3 := Lib.hid (HB2.out.trans (hb3.mono HB2.out.size))
  clear hb3
  go_wp2_with fail
  refine (HLo.out w3).mono ?_
  rintro e w4 ⟨rfl, hb4⟩
  have HB4 := Lib.hid (HB3.out.trans (hb4.mono HB3.out.size))
  clear hb4
  go_wp2_with fail
  refine (HAw.out w4).mono ?_
  rintro e w5 ⟨rfl, hb5⟩
  have HB5 := Lib.hid (HB4.out.trans (hb5.mono HB4.out.size))
  clear hb5
  go_wp2
  go_ret
  exact ⟨rfl, HB5.out⟩

theorem capsMost_law (n : Int) (w : World) : Calls Try.prog 5 #[.int .i64 n] w fun e w' => e = .returned (.bool true) ∧ Below w.heap.size w w' := by
  by_cases c1 : n < 1
  · exact most_a n w c1
  by_cases c2 : 25 < n
  · exact most_f n w c2
  obtain ⟨n, rfl⟩ := Int.eq_ofNat_of_zero_le (show 0 ≤ n by omega)
  rcases (show n = 1 ∨ (2 ≤ n ∧ n ≤ 3) ∨ (4 ≤ n ∧ n ≤ 24) ∨ n = 25 by omega) with h | h | h | h
  · exact most_b n w (by omega) (by omega)
  · exact most_c n w h.1 h.2
  · exact most_d n w h.1 h.2
  · exact most_e n w (by omega) (by omega)
end Go.Proofs.Ytlalfjkenkmojaa
