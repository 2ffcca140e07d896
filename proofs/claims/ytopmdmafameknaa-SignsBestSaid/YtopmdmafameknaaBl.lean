/- SignsBest: the walk -/
import Derived.Test.YtopmdmafameknaaBs
import Derived.Test.YtopmdmafameknaaTu
import Derived.Test.YtopmdmafameknaaBw
namespace Go.Proofs.Ytopmdmafameknaa
open Go.RowKit

theorem nats_mat_le {n : Nat} {hs : List Nat} (hm : Mat n hs) : (nats hs).length = n := by rw [nats_length, hm.len]

set_option maxHeartbeats 4000000 in
set_option maxRecDepth 100000 in
theorem signsBest_law (v : Value) (xs : List Int) (r c : Int) (w : World) (h : Ints w v xs) :
    Calls Try.prog 12 #[v, .int .i64 r, .int .i64 c] w fun e w' => e = .returned (.bool true) ∧ Below w.heap.size w w' := by
  have HL := Lib.hid (fun w' (hb : Below w.heap.size w w') => list_any v xs w' (h.below hb (Nat.le_refl _)))
  have HSu := Lib.hid (fun v' w' (h' : Ints w' v' (xs.take 20)) => Sum_any v' (xs.take 20) w' h')
  have HBe := Lib.hid (fun v' w' (h' : Ints w' v' (xs.take 20)) => Best_any v' (xs.take 20) w' h')
  have HBa := Lib.hid (fun v' w' (h' : Ints w' v' (xs.take 20)) => Balanced_any v' (xs.take 20) w' h')
  cases hs : matB 12 xs with
  | false =>
    have HQ : Hid (∀ w w' e, BestPost w (xs.take 20) e w' → e = .returned (.tuple #[.int .i64 0, .int .i64 2]) ∧ w = w') := fun w w' e hq => by
      unfold BestPost at hq; rw [matB_take 12 xs (by decide), hs] at hq; exact hq
    have HP : Hid (∀ w w' e, SumPost w (xs.take 20) e w' → ∃ a b : Int, e = .returned (.tuple #[.int .i64 a, .int .i64 b]) ∧ w = w') := fun w w' e hq => by
      unfold SumPost at hq
      split at hq
      · exact ⟨_, _, hq⟩
      · exact ⟨_, _, hq⟩
    have HR : Hid (∀ w w' e, BalPost w (xs.take 20) e w' → ∃ (a : Bool) (b : Int), e = .returned (.tuple #[.bool a, .int .i64 b]) ∧ w = w') := fun w w' e hq => by
      unfold BalPost at hq
      split at hq
      · exact ⟨_, _, hq⟩
      · exact ⟨_, _, hq⟩
    clear hs h
    have HB0 := Lib.hid (Below.refl w.heap.size w)
    go_enter Try.func12, Try.ntmps12
    go_wp2_with fail
    refine (HL.out w HB0.out).mono ?_
    rintro e w1 ⟨v1, rfl, hv1, hb1⟩
    have HB1 := Lib.hid (HB0.out.trans (hb1.mono HB0.out.size))
    have A_1 := Lib.hid (hv1)
    clear hb1 hv1
    go_wp2_with fail
    refine (HBe.out v1 w1 A_1.out).mono ?_
    intro e w2 hq
    obtain ⟨rfl, rfl⟩ := HQ.out _ _ _ hq
    clear hq
    clear A_1
    go_wp2_with fail
    refine (HL.out w1 HB1.out).mono ?_
    rintro e w2 ⟨v2, rfl, hv2, hb2⟩
    have HB2 := Lib.hid (HB1.out.trans (hb2.mono HB1.out.size))
    have A_2 := Lib.hid (hv2)
    clear hb2 hv2
    go_wp2_with fail
    refine (HSu.out v2 w2 A_2.out).mono ?_
    intro e w3 hq
    obtain ⟨a1, b1, rfl, rfl⟩ := HP.out _ _ _ hq
    clear hq
    clear A_2
    go_wp2_with fail
    refine (HL.out w2 HB2.out).mono ?_
    rintro e w3 ⟨v3, rfl, hv3, hb3⟩
    have HB3 := Lib.hid (HB2.out.trans (hb3.mono HB2.out.size))
    have A_3 := Lib.hid (hv3)
    clear hb3 hv3
    go_wp2_with fail
    refine (HBa.out v3 w3 A_3.out).mono ?_
    intro e w4 hq
    obtain ⟨a2, b2, rfl, rfl⟩ := HR.out _ _ _ hq
    clear hq
    clear A_3
    go_wp2_with fail
    refine (awake_any w3).mono ?_
    rintro e w4 ⟨rfl, hb4⟩
    have HB4 := Lib.hid (HB3.out.trans (hb4.mono HB3.out.size))
    clear hb4
    go_wp2
    go_ret
    exact ⟨rfl, HB4.out⟩
  | true =>
    obtain ⟨hh, n, rfl, hm, hl, hln⟩ := matB_of' (by decide) hs
    have ht : (nats hh).take 20 = nats hh := List.take_of_length_le (by omega)
    have h16 : matB 16 (nats hh) = true := matB_mk hm (by omega)
    have hl16 : n ≤ 16 := by omega
    rw [ht] at HL HSu HBe HBa
    have HM := Lib.hid (fun w' (hb : Below w.heap.size w w') => matrix_any v (nats hh) 12 w' (by decide) (h.below hb (Nat.le_refl _)))
    rw [hs] at HM
    have HTu := Lib.hid (fun w' (hb : Below w.heap.size w w') => turned_any v n hh r c w' (h.below hb (Nat.le_refl _)) hm)
    have hcl := lowN_lt n c
    have hmt := turnL_mat hm r (lowN n c) hcl
    obtain ⟨ht2, hht⟩ : ∃ t, t = turnL n hh r (lowN n c) := ⟨_, rfl⟩
    have hb1 := best_le_sq n hh
    have hb2 := tot_le_best n hh
    have hb3 := tot_le_best n ht2
    have hb4 : bestP n ht2 (2 ^ n) = bestP n hh (2 ^ n) := by rw [hht]; exact bestP_turn n hh r _ hl16 hcl
    have hb5 := best_bal n hh hl16
    have hb6 := best_mod n hh hl16
    have hb7 := bestP_bd n (2 ^ n) hh hl16
    rw [← hht] at hmt HTu
    have HSu2 := Lib.hid (fun v' w' (h' : Ints w' v' (nats ht2)) => Sum_any v' (nats ht2) w' h')
    have HBe2 := Lib.hid (fun v' w' (h' : Ints w' v' (nats ht2)) => Best_any v' (nats ht2) w' h')
    obtain ⟨bb, hbb⟩ : ∃ bb, bb = bestP n hh (2 ^ n) := ⟨_, rfl⟩
    obtain ⟨s, hsm⟩ : ∃ s, s = totS n hh := ⟨_, rfl⟩
    obtain ⟨t, htm⟩ : ∃ t, t = totS n ht2 := ⟨_, rfl⟩
    obtain ⟨ok, hok⟩ : ∃ ok, ok = balB n hh := ⟨_, rfl⟩
    have h5 : ok = true → bb * bb ≤ n * n * n := fun h => by rw [hbb]; exact hb5 (of_decide_eq_true (by rw [← h, hok]; rfl))
    rw [hb4] at hb3
    rw [← hbb] at hb1 hb2 hb3 hb4 hb6 hb7
    rw [← hsm] at hb2 hb6
    rw [← htm] at hb3
    have hlt : (nats ht2).length = n := nats_mat_le hmt
    have HQ : Hid (∀ w w' e, BestPost w (nats hh) e w' → e = .returned (.tuple #[.int .i64 bb, .int .i64 0]) ∧ w = w') := fun w w' e hq => by
      unfold BestPost at hq; rw [hs, hln, nats_toNat, ← hbb] at hq; exact hq
    have HP : Hid (∀ w w' e, SumPost w (nats hh) e w' → e = .returned (.tuple #[.int .i64 s, .int .i64 0]) ∧ w = w') := fun w w' e hq => by
      unfold SumPost at hq; rw [h16, hln, nats_toNat, ← hsm] at hq; exact hq
    have HR : Hid (∀ w w' e, BalPost w (nats hh) e w' → e = .returned (.tuple #[.bool ok, .int .i64 0]) ∧ w = w') := fun w w' e hq => by
      unfold BalPost at hq; rw [h16, hln, nats_toNat, ← hok] at hq; exact hq
    have HQ2 : Hid (∀ w w' e, BestPost w (nats ht2) e w' → e = .returned (.tuple #[.int .i64 bb, .int .i64 0]) ∧ w = w') := fun w w' e hq => by
      unfold BestPost at hq; rw [matB_mk hmt (by omega), hlt, nats_toNat, hb4] at hq; exact hq
    have HP2 : Hid (∀ w w' e, SumPost w (nats ht2) e w' → e = .returned (.tuple #[.int .i64 t, .int .i64 0]) ∧ w = w') := fun w w' e hq => by
      unfold SumPost at hq; rw [matB_mk hmt (by omega), hlt, nats_toNat, ← htm] at hq; exact hq
    have hbq : (bb == bb) = true := by simp
    have hnn : (n : Int) * n ≤ 256 ∧ 0 ≤ (n : Int) * n := by
      have := Nat.mul_le_mul hl16 hl16
      exact ⟨by have : ((n * n : Nat) : Int) ≤ 256 := by omega
                rwa [Int.natCast_mul] at this, Int.mul_nonneg (by omega) (by omega)⟩
    have hnnn : (n : Int) * n * n ≤ 4096 ∧ 0 ≤ (n : Int) * n * n := by
      have := Int.mul_le_mul hnn.1 (show (n:Int) ≤ 16 by omega) (by omega) (by omega)
      exact ⟨by omega, Int.mul_nonneg hnn.2 (by omega)⟩
    have hbsq : 0 ≤ bb * bb ∧ bb * bb ≤ 65536 := by
      have := Int.mul_le_mul hb7.2 hb7.2 hb7.1 (by omega)
      exact ⟨Int.mul_nonneg hb7.1 hb7.1, by omega⟩
    have hd1 : decide (bb ≤ (n:Int) * n) = true := by simpa using hb1
    have hd2 : decide (s ≤ bb) = true := by simpa using hb2
    have hd3 : decide (t ≤ bb) = true := by simpa using hb3
    have hts := totS_bd n n hh hl16 hl16
    have hsb : -256 ≤ s ∧ s ≤ 256 := by rw [hsm]; exact hts
    have hmod : (bb - s).tmod 2 = 0 := by rw [Int.tmod_eq_emod_of_nonneg (by omega)]; exact hb6
    obtain ⟨ao, cap, rfl, _, _⟩ := hm.open h
    clear hs h hm ht hbb hsm htm hok hln h16 hcl hmt hht hb4 hb5 hb6 hlt hts
    cases ok with
    | true =>
      have hd4 : decide (bb * bb ≤ (n:Int) * n * n) = true := by simpa using h5 rfl
      clear h5
      have HB0 := Lib.hid (Below.refl w.heap.size w)
      go_enter Try.func12, Try.ntmps12
      go_wp2_with fail
      refine (HL.out w HB0.out).mono ?_
      rintro e w1 ⟨v1, rfl, hv1, hb1⟩
      have HB1 := Lib.hid (HB0.out.trans (hb1.mono HB0.out.size))
      have A_1 := Lib.hid (hv1)
      clear hb1 hv1
      go_wp2_with fail
      refine (HBe.out v1 w1 A_1.out).mono ?_
      intro e w2 hq
      obtain ⟨rfl, rfl⟩ := HQ.out _ _ _ hq
      clear hq
      clear A_1
      go_wp2_with fail
      refine (HL.out w1 HB1.out).mono ?_
      rintro e w2 ⟨v2, rfl, hv2, hb2⟩
      have HB2 := Lib.hid (HB1.out.trans (hb2.mono HB1.out.size))
      have A_2 := Lib.hid (hv2)
      clear hb2 hv2
      go_wp2_with fail
      refine (HSu.out v2 w2 A_2.out).mono ?_
      intro e w3 hq
      obtain ⟨rfl, rfl⟩ := HP.out _ _ _ hq
      clear hq
      clear A_2
      go_wp2_with fail
      refine (HL.out w2 HB2.out).mono ?_
      rintro e w3 ⟨v3, rfl, hv3, hb3⟩
      have HB3 := Lib.hid (HB2.out.trans (hb3.mono HB2.out.size))
      have A_3 := Lib.hid (hv3)
      clear hb3 hv3
      go_wp2_with fail
      refine (HBa.out v3 w3 A_3.out).mono ?_
      intro e w4 hq
      obtain ⟨rfl, rfl⟩ := HR.out _ _ _ hq
      clear hq
      clear A_3
      go_wp2_with fail
      refine (HM.out w3 HB3.out).mono ?_
      rintro e w' ⟨rfl, rfl⟩
      go_wp2_with fail
      refine (HTu.out w3 HB3.out).mono ?_
      rintro e w4 ⟨v4, rfl, hv4, hb4⟩
      have HB4 := Lib.hid (HB3.out.trans (hb4.mono HB3.out.size))
      have T_4 := Lib.hid (hv4)
      clear hb4 hv4
      go_wp2_with fail
      refine (HBe2.out v4 w4 T_4.out).mono ?_
      intro e w5 hq
      obtain ⟨rfl, rfl⟩ := HQ2.out _ _ _ hq
      clear hq
      clear T_4
      go_wp2_with fail
      refine (HTu.out w4 HB4.out).mono ?_
      rintro e w5 ⟨v5, rfl, hv5, hb5⟩
      have HB5 := Lib.hid (HB4.out.trans (hb5.mono HB4.out.size))
      have T_5 := Lib.hid (hv5)
      clear hb5 hv5
      go_wp2_with fail
      refine (HSu2.out v5 w5 T_5.out).mono ?_
      intro e w6 hq
      obtain ⟨rfl, rfl⟩ := HP2.out _ _ _ hq
      clear hq
      clear T_5
      go_wp2_with fail
      refine (awake_any w5).mono ?_
      rintro e w6 ⟨rfl, hb6⟩
      have HB6 := Lib.hid (HB5.out.trans (hb6.mono HB5.out.size))
      clear hb6
      go_wp2
      go_ret
      exact ⟨rfl, HB6.out⟩
    | false =>
      clear h5
      have HB0 := Lib.hid (Below.refl w.heap.size w)
      go_enter Try.func12, Try.ntmps12
      go_wp2_with fail
      refine (HL.out w HB0.out).mono ?_
      rintro e w1 ⟨v1, rfl, hv1, hb1⟩
      have HB1 := Lib.hid (HB0.out.trans (hb1.mono HB0.out.size))
      have A_1 := Lib.hid (hv1)
      clear hb1 hv1
      go_wp2_with fail
      refine (HBe.out v1 w1 A_1.out).mono ?_
      intro e w2 hq
      obtain ⟨rfl, rfl⟩ := HQ.out _ _ _ hq
      clear hq
      clear A_1
      go_wp2_with fail
      refine (HL.out w1 HB1.out).mono ?_
      rintro e w2 ⟨v2, rfl, hv2, hb2⟩
      have HB2 := Lib.hid (HB1.out.trans (hb2.mono HB1.out.size))
      have A_2 := Lib.hid (hv2)
      clear hb2 hv2
      go_wp2_with fail
      refine (HSu.out v2 w2 A_2.out).mono ?_
      intro e w3 hq
      obtain ⟨rfl, rfl⟩ := HP.out _ _ _ hq
      clear hq
      clear A_2
      go_wp2_with fail
      refine (HL.out w2 HB2.out).mono ?_
      rintro e w3 ⟨v3, rfl, hv3, hb3⟩
      have HB3 := Lib.hid (HB2.out.trans (hb3.mono HB2.out.size))
      have A_3 := Lib.hid (hv3)
      clear hb3 hv3
      go_wp2_with fail
      refine (HBa.out v3 w3 A_3.out).mono ?_
      intro e w4 hq
      obtain ⟨rfl, rfl⟩ := HR.out _ _ _ hq
      clear hq
      clear A_3
      go_wp2_with fail
      refine (HM.out w3 HB3.out).mono ?_
      rintro e w' ⟨rfl, rfl⟩
      go_wp2_with fail
      refine (HTu.out w3 HB3.out).mono ?_
      rintro e w4 ⟨v4, rfl, hv4, hb4⟩
      have HB4 := Lib.hid (HB3.out.trans (hb4.mono HB3.out.size))
      have T_4 := Lib.hid (hv4)
      clear hb4 hv4
      go_wp2_with fail
      refine (HBe2.out v4 w4 T_4.out).mono ?_
      intro e w5 hq
      obtain ⟨rfl, rfl⟩ := HQ2.out _ _ _ hq
      clear hq
      clear T_4
      go_wp2_with fail
      refine (HTu.out w4 HB4.out).mono ?_
      rintro e w5 ⟨v5, rfl, hv5, hb5⟩
      have HB5 := Lib.hid (HB4.out.trans (hb5.mono HB4.out.size))
      have T_5 := Lib.hid (hv5)
      clear hb5 hv5
      go_wp2_with fail
      refine (HSu2.out v5 w5 T_5.out).mono ?_
      intro e w6 hq
      obtain ⟨rfl, rfl⟩ := HP2.out _ _ _ hq
      clear hq
      clear T_5
      go_wp2_with fail
      refine (awake_any w5).mono ?_
      rintro e w6 ⟨rfl, hb6⟩
      have HB6 := Lib.hid (HB5.out.trans (hb6.mono HB5.out.size))
      clear hb6
      go_wp2
      go_ret
      exact ⟨rfl, HB6.out⟩
end Go.Proofs.Ytopmdmafameknaa
