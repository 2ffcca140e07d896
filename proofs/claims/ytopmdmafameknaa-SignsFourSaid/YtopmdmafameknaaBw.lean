/- SignsBalanced: the walk -/
import Derived.Test.YtopmdmafameknaaNr
namespace Go.Proofs.Ytopmdmafameknaa
open Go.RowKit

theorem matB_take (m : Nat) (xs : List Int) (hm : m ≤ 16) : matB m (xs.take 20) = matB m xs := by
  by_cases hl : xs.length ≤ 20
  · rw [List.take_of_length_le hl]
  · rw [matB_len (.inr (by rw [List.length_take]; omega)), matB_len (.inr (by omega))]
theorem mat_take {m : Nat} {xs : List Int} (hm : m ≤ 16) (h : matB m xs = true) : xs.take 20 = xs := by
  obtain ⟨_, h2, _⟩ := of_decide_eq_true h
  exact List.take_of_length_le (by omega)

set_option maxHeartbeats 4000000 in
set_option maxRecDepth 100000 in
theorem signsBalanced_law (v : Value) (xs : List Int) (w : World) (h : Ints w v xs) :
    Calls Try.prog 3 #[v] w fun e w' => e = .returned (.bool true) ∧ Below w.heap.size w w' := by
  have HL := Lib.hid (fun w' (hb : Below w.heap.size w w') => list_any v xs w' (h.below hb (Nat.le_refl _)))
  have HM := Lib.hid (fun w' (hb : Below w.heap.size w w') => matrix_any v xs 16 w' (Nat.le_refl _) (h.below hb (Nat.le_refl _)))
  have HBa := Lib.hid (fun v' w' (h' : Ints w' v' (xs.take 20)) => Balanced_any v' (xs.take 20) w' h')
  have HNo := Lib.hid (fun v' w' (h' : Ints w' v' (xs.take 20)) => Normal_any v' (xs.take 20) w' h')
  cases hs : matB 16 xs with
  | false =>
    have HP : Hid (∀ w w' e, BalPost w (xs.take 20) e w' → e = .returned (.tuple #[.bool false, .int .i64 2]) ∧ w = w') := fun w w' e hq => by
      unfold BalPost at hq; rw [matB_take 16 xs (Nat.le_refl _), hs] at hq; exact hq
    have HQ : Hid (∀ w w' e, NormPost w (xs.take 20) e w' → e = .returned (.tuple #[.slice none 0 0, .int .i64 2]) ∧ Below w.heap.size w w') := fun w w' e hq => by
      unfold NormPost at hq; rw [matB_take 16 xs (Nat.le_refl _), hs] at hq; exact hq
    rw [hs] at HM
    clear hs h
    go_enter Try.func3, Try.ntmps3
    go_wp2_with fail
    refine (HL.out w (Below.refl _ _)).mono ?_
    rintro e w1 ⟨v1, rfl, hv1, hb1⟩
    have HB1 := Lib.hid hb1
    have HC := Lib.hid (HBa.out v1 w1 hv1)
    clear hv1 hb1
    go_wp2_with fail
    refine HC.out.mono ?_
    intro e w2 hq
    obtain ⟨rfl, rfl⟩ := HP.out _ _ _ hq
    clear hq
    go_wp2_with fail
    refine (HL.out w1 HB1.out).mono ?_
    rintro e w3 ⟨v3, rfl, hv3, hb3⟩
    have HB3 := Lib.hid (HB1.out.trans (hb3.mono HB1.out.size))
    have HC3 := Lib.hid (HNo.out v3 w3 hv3)
    clear hv3 hb3
    go_wp2_with fail
    refine HC3.out.mono ?_
    intro e w4 hq
    obtain ⟨rfl, hb4⟩ := HQ.out _ _ _ hq
    have HB4 := Lib.hid (HB3.out.trans (hb4.mono HB3.out.size))
    clear hq hb4
    go_wp2_with fail
    refine (HM.out w4 HB4.out).mono ?_
    rintro e w5 ⟨rfl, rfl⟩
    go_wp2_with fail
    refine (awake_any w4).mono ?_
    rintro e w6 ⟨rfl, hb6⟩
    have HB6 := Lib.hid (HB4.out.trans (hb6.mono HB4.out.size))
    clear hb6
    go_wp2
    go_ret
    exact ⟨rfl, HB6.out⟩
  | true =>
    obtain ⟨hh, hx, hm, hl⟩ := matB_of (Nat.le_refl _) hs
    have HRB := Lib.hid (fun w' (hb : Below w.heap.size w w') => rBalanced_any v _ hh w' (by have := h.below hb (Nat.le_refl _); rw [hx] at this; exact this) hm)
    have HRN := Lib.hid (fun w' (hb : Below w.heap.size w w') => rNormal_any v _ hh w' (by have := h.below hb (Nat.le_refl _); rw [hx] at this; exact this) hm)
    have HE := Lib.hid (fun w' g (h : NatBlk w' g (normL xs.length hh)) => plant_nats hl h)
    have ht : (xs.take 20).length = xs.length := by rw [mat_take (Nat.le_refl _) hs]
    have ht2 : (xs.take 20).map Int.toNat = hh := by rw [mat_take (Nat.le_refl _) hs, hx]; exact nats_toNat hh
    have HP : Hid (∀ w w' e, BalPost w (xs.take 20) e w' → e = .returned (.tuple #[.bool (balB xs.length hh), .int .i64 0]) ∧ w = w') := fun w w' e hq => by
      unfold BalPost at hq; rw [matB_take 16 xs (Nat.le_refl _), hs, ht, ht2] at hq; exact hq
    have HQ : Hid (∀ w w' e, NormPost w (xs.take 20) e w' → ∃ v, e = .returned (.tuple #[v, .int .i64 0]) ∧ Nats w' v (normL xs.length hh) ∧ Below w.heap.size w w') := fun w w' e hq => by
      unfold NormPost at hq; rw [matB_take 16 xs (Nat.le_refl _), hs, ht, ht2] at hq
      obtain ⟨⟨v, he, hv⟩, hb⟩ := hq
      exact ⟨v, he, hv, hb⟩
    rw [hs] at HM
    have HEq : Hid (∀ v v' w', Nats w' v (normL xs.length hh) → Nats w' v' (normL xs.length hh) → Calls Try.prog 23 #[v, v'] w' fun e w'' => e = .returned (.bool true) ∧ Below w'.heap.size w' w'') := fun v v' w' h h' =>
      (equal_any v v' _ _ w' h h').mono fun e w'' ⟨he, hb⟩ => ⟨by rw [he, show eqB (nats (normL xs.length hh)) (nats (normL xs.length hh)) = true from decide_eq_true rfl], hb⟩
    obtain ⟨bb, hbb⟩ : ∃ bb, bb = balB xs.length hh := ⟨_, rfl⟩
    rw [← hbb] at HRB HP
    have hbq : (bb == bb) = true := by simp
    clear hs h hx hm ht ht2 hbb
    go_enter Try.func3, Try.ntmps3
    go_wp2_with fail
    refine (HL.out w (Below.refl _ _)).mono ?_
    rintro e w1 ⟨v1, rfl, hv1, hb1⟩
    have HB1 := Lib.hid hb1
    have HC := Lib.hid (HBa.out v1 w1 hv1)
    clear hv1 hb1
    go_wp2_with fail
    refine HC.out.mono ?_
    intro e w2 hq
    obtain ⟨rfl, rfl⟩ := HP.out _ _ _ hq
    clear hq
    go_wp2_with fail
    refine (HL.out w1 HB1.out).mono ?_
    rintro e w3 ⟨v3, rfl, hv3, hb3⟩
    have HB3 := Lib.hid (HB1.out.trans (hb3.mono HB1.out.size))
    have HC3 := Lib.hid (HNo.out v3 w3 hv3)
    clear hv3 hb3
    go_wp2_with fail
    refine HC3.out.mono ?_
    intro e w4 hq
    obtain ⟨v4, rfl, hv4, hb4⟩ := HQ.out _ _ _ hq
    have HV4 := Lib.hid hv4
    have HB4 := Lib.hid (HB3.out.trans (hb4.mono HB3.out.size))
    clear hq hb4 hv4
    go_wp2_with fail
    refine (HM.out w4 HB4.out).mono ?_
    rintro e w5 ⟨rfl, rfl⟩
    go_wp2_with fail
    refine (HRB.out w4 HB4.out).mono ?_
    rintro e w5 ⟨rfl, rfl⟩
    go_wp2_with fail
    refine (HRN.out w4 HB4.out).mono ?_
    rintro e w6 ⟨rfl, hB6, hb6⟩
    have HB6 := Lib.hid (HB4.out.trans (hb6.mono HB4.out.size))
    have HC6 := Lib.hid (HEq.out v4 _ w6 (HV4.out.below hb6 (Nat.le_refl _)) (HE.out _ _ hB6))
    clear hb6 hB6
    go_wp2_with fail
    refine HC6.out.mono ?_
    rintro e w7 ⟨rfl, hb7⟩
    have HB7 := Lib.hid (HB6.out.trans (hb7.mono HB6.out.size))
    clear hb7
    go_wp2_with fail
    refine (awake_any w7).mono ?_
    rintro e w8 ⟨rfl, hb8⟩
    have HB8 := Lib.hid (HB7.out.trans (hb8.mono HB7.out.size))
    clear hb8
    go_wp2
    go_ret
    exact ⟨rfl, HB8.out⟩
end Go.Proofs.Ytopmdmafameknaa
