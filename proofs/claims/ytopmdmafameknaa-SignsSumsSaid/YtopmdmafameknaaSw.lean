/- SignsSums: the walk -/
import Derived.Test.YtopmdmafameknaaBs
import Derived.Test.YtopmdmafameknaaBm
import Derived.Test.YtopmdmafameknaaBw
namespace Go.Proofs.Ytopmdmafameknaa
open Go.RowKit

set_option maxHeartbeats 4000000 in
set_option maxRecDepth 100000 in
theorem signsSums_law (v : Value) (xs : List Int) (w : World) (h : Ints w v xs) :
    Calls Try.prog 5 #[v] w fun e w' => e = .returned (.bool true) ∧ Below w.heap.size w w' := by
  have HL := Lib.hid (fun w' (hb : Below w.heap.size w w') => list_any v xs w' (h.below hb (Nat.le_refl _)))
  have HM := Lib.hid (fun w' (hb : Below w.heap.size w w') => matrix_any v xs 16 w' (Nat.le_refl _) (h.below hb (Nat.le_refl _)))
  have HSu := Lib.hid (fun v' w' (h' : Ints w' v' (xs.take 20)) => Sum_any v' (xs.take 20) w' h')
  have HBe := Lib.hid (fun v' w' (h' : Ints w' v' (xs.take 20)) => Best_any v' (xs.take 20) w' h')
  cases hs : matB 16 xs with
  | false =>
    have HP : Hid (∀ w w' e, SumPost w (xs.take 20) e w' → e = .returned (.tuple #[.int .i64 0, .int .i64 2]) ∧ w = w') := fun w w' e hq => by
      unfold SumPost at hq; rw [matB_take 16 xs (Nat.le_refl _), hs] at hq; exact hq
    have HQ : Hid (∀ w w' e, BestPost w (xs.take 20) e w' → e = .returned (.tuple #[.int .i64 0, .int .i64 2]) ∧ w = w') := fun w w' e hq => by
      unfold BestPost at hq; rw [matB_take 12 xs (by decide), matB_12f hs] at hq; exact hq
    rw [hs] at HM
    clear hs h
    have HB0 := Lib.hid (Below.refl w.heap.size w)
    go_enter Try.func5, Try.ntmps5
    go_wp2_with fail
    refine (HL.out w HB0.out).mono ?_
    rintro e w1 ⟨v1, rfl, hv1, hb1⟩
    have HB1 := Lib.hid (HB0.out.trans (hb1.mono HB0.out.size))
    have A_1 := Lib.hid (hv1)
    clear hb1 hv1
    go_wp2_with fail
    refine (HSu.out v1 w1 A_1.out).mono ?_
    intro e w2 hq
    obtain ⟨rfl, rfl⟩ := HP.out _ _ _ hq
    clear hq
    clear A_1
    go_wp2_with fail
    refine (HL.out w1 HB1.out).mono ?_
    rintro e w2 ⟨v2, rfl, hv2, hb2⟩
    have HB2 := Lib.hid (HB1.out.trans (hb2.mono HB1.out.size))
    have A_2 := Lib.hid (hv2)
    clear hb2 hv2
    go_wp2_with fail
    refine (HBe.out v2 w2 A_2.out).mono ?_
    intro e w3 hq
    obtain ⟨rfl, rfl⟩ := HQ.out _ _ _ hq
    clear hq
    clear A_2
    go_wp2_with fail
    refine (HM.out w2 HB2.out).mono ?_
    rintro e w' ⟨rfl, rfl⟩
    go_wp2_with fail
    refine (awake_any w2).mono ?_
    rintro e w3 ⟨rfl, hb3⟩
    have HB3 := Lib.hid (HB2.out.trans (hb3.mono HB2.out.size))
    clear hb3
    go_wp2
    go_ret
    exact ⟨rfl, HB3.out⟩
  | true =>
    obtain ⟨hh, n, rfl, hm, hl, hln⟩ := matB_of' (Nat.le_refl _) hs
    have ht : (nats hh).take 20 = nats hh := List.take_of_length_le (by omega)
    rw [ht] at HL HSu HBe
    have HRS := Lib.hid (fun w' (hb : Below w.heap.size w w') => rSum_any v n hh w' (h.below hb (Nat.le_refl _)) hm)
    have HRB := Lib.hid (fun w' (hb : Below w.heap.size w w') => rBest_any v n hh w' (h.below hb (Nat.le_refl _)) hm)
    obtain ⟨s, hsm⟩ : ∃ s, s = totS n hh := ⟨_, rfl⟩
    have HP : Hid (∀ w w' e, SumPost w (nats hh) e w' → e = .returned (.tuple #[.int .i64 s, .int .i64 0]) ∧ w = w') := fun w w' e hq => by
      unfold SumPost at hq; rw [hs, hln, nats_toNat, ← hsm] at hq; exact hq
    rw [← hsm] at HRS
    rw [hs] at HM
    have hsq : (s != s) = false := by simp
    obtain ⟨ao, cap, rfl, _, _⟩ := hm.open h
    clear hsm
    by_cases h12 : n ≤ 12
    · obtain ⟨bb, hbb⟩ : ∃ bb, bb = bestP n hh (2 ^ n) := ⟨_, rfl⟩
      have HQ : Hid (∀ w w' e, BestPost w (nats hh) e w' → e = .returned (.tuple #[.int .i64 bb, .int .i64 0]) ∧ w = w') := fun w w' e hq => by
        unfold BestPost at hq; rw [matB_12 hs (by omega), hln, nats_toNat, ← hbb] at hq; exact hq
      rw [← best_same n hh hl, ← hbb] at HRB
      have hbq : (bb == bb) = true := by simp
      clear hs h hm ht hbb hln
      have HB0 := Lib.hid (Below.refl w.heap.size w)
      go_enter Try.func5, Try.ntmps5
      go_wp2_with fail
      refine (HL.out w HB0.out).mono ?_
      rintro e w1 ⟨v1, rfl, hv1, hb1⟩
      have HB1 := Lib.hid (HB0.out.trans (hb1.mono HB0.out.size))
      have A_1 := Lib.hid (hv1)
      clear hb1 hv1
      go_wp2_with fail
      refine (HSu.out v1 w1 A_1.out).mono ?_
      intro e w2 hq
      obtain ⟨rfl, rfl⟩ := HP.out _ _ _ hq
      clear hq
      clear A_1
      go_wp2_with fail
      refine (HL.out w1 HB1.out).mono ?_
      rintro e w2 ⟨v2, rfl, hv2, hb2⟩
      have HB2 := Lib.hid (HB1.out.trans (hb2.mono HB1.out.size))
      have A_2 := Lib.hid (hv2)
      clear hb2 hv2
      go_wp2_with fail
      refine (HBe.out v2 w2 A_2.out).mono ?_
      intro e w3 hq
      obtain ⟨rfl, rfl⟩ := HQ.out _ _ _ hq
      clear hq
      clear A_2
      go_wp2_with fail
      refine (HM.out w2 HB2.out).mono ?_
      rintro e w' ⟨rfl, rfl⟩
      go_wp2_with fail
      refine (HRS.out w2 HB2.out).mono ?_
      rintro e w' ⟨rfl, rfl⟩
      go_wp2_with fail
      refine (awake_any w2).mono ?_
      rintro e w3 ⟨rfl, hb3⟩
      have HB3 := Lib.hid (HB2.out.trans (hb3.mono HB2.out.size))
      clear hb3
      go_wp2_with fail
      refine (HRB.out w3 HB3.out).mono ?_
      rintro e w4 ⟨rfl, hb4⟩
      have HB4 := Lib.hid (HB3.out.trans (hb4.mono HB3.out.size))
      clear hb4
      go_wp2
      go_ret
      exact ⟨rfl, HB4.out⟩
    · have HQ : Hid (∀ w w' e, BestPost w (nats hh) e w' → e = .returned (.tuple #[.int .i64 0, .int .i64 2]) ∧ w = w') := fun w w' e hq => by
        unfold BestPost at hq; rw [matB_len (.inr (by omega))] at hq; exact hq
      clear hs h hm ht hln
      have HB0 := Lib.hid (Below.refl w.heap.size w)
      go_enter Try.func5, Try.ntmps5
      go_wp2_with fail
      refine (HL.out w HB0.out).mono ?_
      rintro e w1 ⟨v1, rfl, hv1, hb1⟩
      have HB1 := Lib.hid (HB0.out.trans (hb1.mono HB0.out.size))
      have A_1 := Lib.hid (hv1)
      clear hb1 hv1
      go_wp2_with fail
      refine (HSu.out v1 w1 A_1.out).mono ?_
      intro e w2 hq
      obtain ⟨rfl, rfl⟩ := HP.out _ _ _ hq
      clear hq
      clear A_1
      go_wp2_with fail
      refine (HL.out w1 HB1.out).mono ?_
      rintro e w2 ⟨v2, rfl, hv2, hb2⟩
      have HB2 := Lib.hid (HB1.out.trans (hb2.mono HB1.out.size))
      have A_2 := Lib.hid (hv2)
      clear hb2 hv2
      go_wp2_with fail
      refine (HBe.out v2 w2 A_2.out).mono ?_
      intro e w3 hq
      obtain ⟨rfl, rfl⟩ := HQ.out _ _ _ hq
      clear hq
      clear A_2
      go_wp2_with fail
      refine (HM.out w2 HB2.out).mono ?_
      rintro e w' ⟨rfl, rfl⟩
      go_wp2_with fail
      refine (HRS.out w2 HB2.out).mono ?_
      rintro e w' ⟨rfl, rfl⟩
      go_wp2_with fail
      refine (awake_any w2).mono ?_
      rintro e w3 ⟨rfl, hb3⟩
      have HB3 := Lib.hid (HB2.out.trans (hb3.mono HB2.out.size))
      clear hb3
      go_wp2
      go_ret
      exact ⟨rfl, HB3.out⟩
end Go.Proofs.Ytopmdmafameknaa
