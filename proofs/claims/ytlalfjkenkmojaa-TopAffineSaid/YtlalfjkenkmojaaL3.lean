/- CapsThirds: the walk -/
import Derived.Test.YtlalfjkenkmojaaCe
namespace Go.Proofs.Ytlalfjkenkmojaa
open Go.RowKit

theorem sizeI_dim {d : Int} {n : Nat} (h : d = n) (h1 : 1 ≤ n) (h4 : n ≤ 4) : dimB d = true ∧ sizeI d = 3 ^ n := by
  subst h
  have hdim : dimB (n:Int) = true := decide_eq_true (by omega)
  obtain ⟨m, e, _, _, hs⟩ := dimB_of hdim
  obtain rfl : n = m := by omega
  exact ⟨hdim, hs⟩
theorem two_nats {d a b : Int} (h : twoB d a b = true) : ∃ n x y : Nat, d = n ∧ a = x ∧ b = y ∧ 1 ≤ n ∧ n ≤ 4 ∧ x < 3 ^ n ∧ y < 3 ^ n ∧ x ≠ y ∧ sizeI d = 3 ^ n := by
  obtain ⟨h1, h2, h3, h4, h5, h6⟩ := (twoB_iff _ _ _).1 h
  obtain ⟨n, hn, hn1, hn4, hs⟩ := dimB_of h1
  rw [hs] at h3 h5
  exact ⟨n, a.toNat, b.toNat, hn, by omega, by omega, hn1, hn4, by omega, by omega, by omega, hs⟩
theorem two_not {d a b : Int} (h : twoB d a b = false) : a = b ∨ a < 0 ∨ b < 0 ∨ (sizeI d : Int) ≤ a ∨ (sizeI d : Int) ≤ b := by
  cases hd : dimB d with
  | false =>
    have := dimB_no hd
    rw [this]; omega
  | true =>
    have : ¬ (dimB d = true ∧ 0 ≤ a ∧ a < sizeI d ∧ 0 ≤ b ∧ b < sizeI d ∧ a ≠ b) := fun hh => by rw [(twoB_iff _ _ _).2 hh] at h; cases h
    rw [hd] at this
    simp only [true_and] at this
    omega
theorem deckB_take {d : Int} {xs : List Int} : deckB d (xs.take 90) = deckB d xs := by
  by_cases hl : xs.length ≤ 90
  · rw [List.take_of_length_le hl]
  · have h1 : deckB d xs = false := by
      cases h : deckB d xs with
      | false => rfl
      | true =>
        obtain ⟨n, l, _, _, h4, _, rfl, hk⟩ := deck_nats h
        have := hk.len h4
        rw [nats_length] at hl
        omega
    have h2 : deckB d (xs.take 90) = false := by
      cases h : deckB d (xs.take 90) with
      | false => rfl
      | true =>
        obtain ⟨n, l, _, _, h4, _, he, hk⟩ := deck_nats h
        have := hk.len h4
        have : (xs.take 90).length = (nats l).length := by rw [he]
        rw [nats_length, List.length_take] at this
        omega
    rw [h1, h2]
theorem deck_take {d : Nat} {l : List Nat} (h : Deck d l) (hd : d ≤ 4) : (nats l).take 90 = nats l := List.take_of_length_le (by rw [nats_length]; have := h.len hd; omega)

set_option maxHeartbeats 4000000 in
set_option maxRecDepth 100000 in
theorem thirds_good (d a b : Int) (v : Value) (l : List Nat) (n : Nat) (w : World) (h : Nats w v l) (ha : I64 a) (hb : I64 b) (hd : d = n) (h1 : 1 ≤ n) (h4 : n ≤ 4) (hk : Deck n l) :
    Calls Try.prog 3 #[.int .i64 d, .int .i64 a, .int .i64 b, v] w fun e w' => e = .returned (.bool true) ∧ Below w.heap.size w w' := by
  have hsz := (sizeI_dim hd h1 h4).2
  have HL := Lib.hid (fun w' (hb : Below w.heap.size w w') => list_any v _ w' (h.below hb (Nat.le_refl _)))
  rw [deck_take hk h4] at HL
  have HSz := Lib.hid (fun w => rSize_any d w)
  subst hd
  have HC := Lib.hid (fun w' (hb : Below w.heap.size w w') => rCards_any n v _ w' (h.below hb (Nat.le_refl _)))
  rw [deck_mk h1 h4 hk] at HC
  have HSe := Lib.hid (fun v' w' (h' : Nats w' v' l) => Sets_any n v' l w' h1 h4 hk h')
  have HRs := Lib.hid (fun w' (hb : Below w.heap.size w w') => rSets_any n v l w' h4 hk (h.below hb (Nat.le_refl _)))
  have HAw := Lib.hid (fun w => awake_any w)
  rw [hsz] at HSz
  have hp := p3 n h4
  clear h hk
  cases ht : twoB n a b with
  | false =>
    have HT := Lib.hid (fun w => Third_bad n a b w ha hb ht)
    have hq := two_not ht
    rw [hsz] at hq
    clear ht hsz
    generalize setsN n l = q at *
    generalize 3 ^ n = s at *
    by_cases c1 : a = b
    · subst c1
      have HB0 := Lib.hid (Below.refl w.heap.size w)
      go_enter Try.func3, Try.ntmps3
      go_wp2_with fail
      refine (HT.out w).mono ?_
      rintro e w1 ⟨rfl, hb1⟩
      have HB1 := Lib.hid (HB0.out.trans (hb1.mono HB0.out.size))
      clear hb1
      go_wp2_with fail
      refine (HL.out w1 HB1.out).mono ?_
      rintro e w2 ⟨v2, rfl, hv2, hb2⟩
      have HB2 := Lib.hid (HB1.out.trans (hb2.mono HB1.out.size))
      have A_2 := Lib.hid (hv2)
      clear hb2 hv2
      go_wp2_with fail
      refine (HSe.out v2 w2 A_2.out).mono ?_
      rintro e w3 ⟨rfl, hb3⟩
      have HB3 := Lib.hid (HB2.out.trans (hb3.mono HB2.out.size))
      have A_3 := Lib.hid (A_2.out.below hb3 (Nat.le_refl _))
      clear hb3
      clear A_3
      go_wp2_with fail
      refine (HSz.out w3).mono ?_
      rintro e w' ⟨rfl, rfl⟩
      go_wp2_with fail
      refine (HC.out w3 HB3.out).mono ?_
      rintro e w' ⟨rfl, rfl⟩
      go_wp2_with fail
      refine (HRs.out w3 HB3.out).mono ?_
      rintro e w4 ⟨rfl, hb4⟩
      have HB4 := Lib.hid (HB3.out.trans (hb4.mono HB3.out.size))
      clear hb4
      go_wp2_with fail
      refine (HAw.out w4).mono ?_
      rintro e w5 ⟨rfl, hb5⟩
      have HB5 := Lib.hid (HB4.out.trans (hb5.mono HB4.out.size))
      clear hb5
      go_wp2
      go_ret
      exact ⟨rfl, HB5.out⟩
    by_cases c2 : a < 0
    · have HB0 := Lib.hid (Below.refl w.heap.size w)
      go_enter Try.func3, Try.ntmps3
      go_wp2_with fail
      refine (HT.out w).mono ?_
      rintro e w1 ⟨rfl, hb1⟩
      have HB1 := Lib.hid (HB0.out.trans (hb1.mono HB0.out.size))
      clear hb1
      go_wp2_with fail
      refine (HL.out w1 HB1.out).mono ?_
      rintro e w2 ⟨v2, rfl, hv2, hb2⟩
      have HB2 := Lib.hid (HB1.out.trans (hb2.mono HB1.out.size))
      have A_2 := Lib.hid (hv2)
      clear hb2 hv2
      go_wp2_with fail
      refine (HSe.out v2 w2 A_2.out).mono ?_
      rintro e w3 ⟨rfl, hb3⟩
      have HB3 := Lib.hid (HB2.out.trans (hb3.mono HB2.out.size))
      have A_3 := Lib.hid (A_2.out.below hb3 (Nat.le_refl _))
      clear hb3
      clear A_3
      go_wp2_with fail
      refine (HSz.out w3).mono ?_
      rintro e w' ⟨rfl, rfl⟩
      go_wp2_with fail
      refine (HC.out w3 HB3.out).mono ?_
      rintro e w' ⟨rfl, rfl⟩
      go_wp2_with fail
      refine (HRs.out w3 HB3.out).mono ?_
      rintro e w4 ⟨rfl, hb4⟩
      have HB4 := Lib.hid (HB3.out.trans (hb4.mono HB3.out.size))
      clear hb4
      go_wp2_with fail
      refine (HAw.out w4).mono ?_
      rintro e w5 ⟨rfl, hb5⟩
      have HB5 := Lib.hid (HB4.out.trans (hb5.mono HB4.out.size))
      clear hb5
      go_wp2
      go_ret
      exact ⟨rfl, HB5.out⟩
    by_cases c3 : b < 0
    · have HB0 := Lib.hid (Below.refl w.heap.size w)
      go_enter Try.func3, Try.ntmps3
      go_wp2_with fail
      refine (HT.out w).mono ?_
      rintro e w1 ⟨rfl, hb1⟩
      have HB1 := Lib.hid (HB0.out.trans (hb1.mono HB0.out.size))
      clear hb1
      go_wp2_with fail
      refine (HL.out w1 HB1.out).mono ?_
      rintro e w2 ⟨v2, rfl, hv2, hb2⟩
      have HB2 := Lib.hid (HB1.out.trans (hb2.mono HB1.out.size))
      have A_2 := Lib.hid (hv2)
      clear hb2 hv2
      go_wp2_with fail
      refine (HSe.out v2 w2 A_2.out).mono ?_
      rintro e w3 ⟨rfl, hb3⟩
      have HB3 := Lib.hid (HB2.out.trans (hb3.mono HB2.out.size))
      have A_3 := Lib.hid (A_2.out.below hb3 (Nat.le_refl _))
      clear hb3
      clear A_3
      go_wp2_with fail
      refine (HSz.out w3).mono ?_
      rintro e w' ⟨rfl, rfl⟩
      go_wp2_with fail
      refine (HC.out w3 HB3.out).mono ?_
      rintro e w' ⟨rfl, rfl⟩
      go_wp2_with fail
      refine (HRs.out w3 HB3.out).mono ?_
      rintro e w4 ⟨rfl, hb4⟩
      have HB4 := Lib.hid (HB3.out.trans (hb4.mono HB3.out.size))
      clear hb4
      go_wp2_with fail
      refine (HAw.out w4).mono ?_
      rintro e w5 ⟨rfl, hb5⟩
      have HB5 := Lib.hid (HB4.out.trans (hb5.mono HB4.out.size))
      clear hb5
      go_wp2
      go_ret
      exact ⟨rfl, HB5.out⟩
    by_cases c4 : (s:Int) ≤ a
    · have HB0 := Lib.hid (Below.refl w.heap.size w)
      go_enter Try.func3, Try.ntmps3
      go_wp2_with fail
      refine (HT.out w).mono ?_
      rintro e w1 ⟨rfl, hb1⟩
      have HB1 := Lib.hid (HB0.out.trans (hb1.mono HB0.out.size))
      clear hb1
      go_wp2_with fail
      refine (HL.out w1 HB1.out).mono ?_
      rintro e w2 ⟨v2, rfl, hv2, hb2⟩
      have HB2 := Lib.hid (HB1.out.trans (hb2.mono HB1.out.size))
      have A_2 := Lib.hid (hv2)
      clear hb2 hv2
      go_wp2_with fail
      refine (HSe.out v2 w2 A_2.out).mono ?_
      rintro e w3 ⟨rfl, hb3⟩
      have HB3 := Lib.hid (HB2.out.trans (hb3.mono HB2.out.size))
      have A_3 := Lib.hid (A_2.out.below hb3 (Nat.le_refl _))
      clear hb3
      clear A_3
      go_wp2_with fail
      refine (HSz.out w3).mono ?_
      rintro e w' ⟨rfl, rfl⟩
      go_wp2_with fail
      refine (HC.out w3 HB3.out).mono ?_
      rintro e w' ⟨rfl, rfl⟩
      go_wp2_with fail
      refine (HRs.out w3 HB3.out).mono ?_
      rintro e w4 ⟨rfl, hb4⟩
      have HB4 := Lib.hid (HB3.out.trans (hb4.mono HB3.out.size))
      clear hb4
      go_wp2_with fail
      refine (HAw.out w4).mono ?_
      rintro e w5 ⟨rfl, hb5⟩
      have HB5 := Lib.hid (HB4.out.trans (hb5.mono HB4.out.size))
      clear hb5
      go_wp2
      go_ret
      exact ⟨rfl, HB5.out⟩
    have c5 : (s:Int) ≤ b := by omega
    have HB0 := Lib.hid (Below.refl w.heap.size w)
    go_enter Try.func3, Try.ntmps3
    go_wp2_with fail
    refine (HT.out w).mono ?_
    rintro e w1 ⟨rfl, hb1⟩
    have HB1 := Lib.hid (HB0.out.trans (hb1.mono HB0.out.size))
    clear hb1
    go_wp2_with fail
    refine (HL.out w1 HB1.out).mono ?_
    rintro e w2 ⟨v2, rfl, hv2, hb2⟩
    have HB2 := Lib.hid (HB1.out.trans (hb2.mono HB1.out.size))
    have A_2 := Lib.hid (hv2)
    clear hb2 hv2
    go_wp2_with fail
    refine (HSe.out v2 w2 A_2.out).mono ?_
    rintro e w3 ⟨rfl, hb3⟩
    have HB3 := Lib.hid (HB2.out.trans (hb3.mono HB2.out.size))
    have A_3 := Lib.hid (A_2.out.below hb3 (Nat.le_refl _))
    clear hb3
    clear A_3
    go_wp2_with fail
    refine (HSz.out w3).mono ?_
    rintro e w' ⟨rfl, rfl⟩
    go_wp2_with fail
    refine (HC.out w3 HB3.out).mono ?_
    rintro e w' ⟨rfl, rfl⟩
    go_wp2_with fail
    refine (HRs.out w3 HB3.out).mono ?_
    rintro e w4 ⟨rfl, hb4⟩
    have HB4 := Lib.hid (HB3.out.trans (hb4.mono HB3.out.size))
    clear hb4
    go_wp2_with fail
    refine (HAw.out w4).mono ?_
    rintro e w5 ⟨rfl, hb5⟩
    have HB5 := Lib.hid (HB4.out.trans (hb5.mono HB4.out.size))
    clear hb5
    go_wp2
    go_ret
    exact ⟨rfl, HB5.out⟩
  | true =>
    obtain ⟨m, x, y, hm, rfl, rfl, _, _, hx, hy, hne, _⟩ := two_nats ht
    obtain rfl : n = m := by omega
    have HT := Lib.hid (fun w => Third_any n x y w h1 h4 hx hy hne)
    have HR := Lib.hid (fun w => rThird_any n x y w h4 (by omega) (by omega))
    clear ht hsz hm
    generalize thirdN n x y = t at *
    generalize setsN n l = q at *
    generalize 3 ^ n = s at *
    have d1 : ((x:Int) == (y:Int)) = false := by simp; omega
    have d2 : decide ((x:Int) < 0) = false := by simp
    have d3 : decide ((y:Int) < 0) = false := by simp
    have d4 : decide (s ≤ x) = false := by simp; omega
    have d5 : decide (s ≤ y) = false := by simp; omega
    have HB0 := Lib.hid (Below.refl w.heap.size w)
    go_enter Try.func3, Try.ntmps3
    go_wp2_with fail
    refine (HT.out w).mono ?_
    rintro e w1 ⟨rfl, hb1⟩
    have HB1 := Lib.hid (HB0.out.trans (hb1.mono HB0.out.size))
    clear hb1
    go_wp2_with fail
    refine (HL.out w1 HB1.out).mono ?_
    rintro e w2 ⟨v2, rfl, hv2, hb2⟩
    have HB2 := Lib.hid (HB1.out.trans (hb2.mono HB1.out.size))
    have A_2 := Lib.hid (hv2)
    clear hb2 hv2
    go_wp2_with fail
    refine (HSe.out v2 w2 A_2.out).mono ?_
    rintro e w3 ⟨rfl, hb3⟩
    have HB3 := Lib.hid (HB2.out.trans (hb3.mono HB2.out.size))
    have A_3 := Lib.hid (A_2.out.below hb3 (Nat.le_refl _))
    clear hb3
    clear A_3
    go_wp2_with fail
    refine (HSz.out w3).mono ?_
    rintro e w' ⟨rfl, rfl⟩
    go_wp2_with fail
    refine (HR.out w3).mono ?_
    rintro e w4 ⟨rfl, hd4⟩
    have HB4 := Lib.hid (HB3.out.trans ((drew_below hd4).mono HB3.out.size))
    clear hd4
    go_wp2_with fail
    refine (HC.out w4 HB4.out).mono ?_
    rintro e w' ⟨rfl, rfl⟩
    go_wp2_with fail
    refine (HRs.out w4 HB4.out).mono ?_
    rintro e w5 ⟨rfl, hb5⟩
    have HB5 := Lib.hid (HB4.out.trans (hb5.mono HB4.out.size))
    clear hb5
    go_wp2_with fail
    refine (HAw.out w5).mono ?_
    rintro e w6 ⟨rfl, hb6⟩
    have HB6 := Lib.hid (HB5.out.trans (hb6.mono HB5.out.size))
    clear hb6
    go_wp2
    go_ret
    exact ⟨rfl, HB6.out⟩

set_option maxHeartbeats 4000000 in
set_option maxRecDepth 100000 in
theorem thirds_bad (d a b : Int) (v : Value) (xs : List Int) (w : World) (h : Ints w v xs) (ha : I64 a) (hb : I64 b) (hk : deckB d xs = false) :
    Calls Try.prog 3 #[.int .i64 d, .int .i64 a, .int .i64 b, v] w fun e w' => e = .returned (.bool true) ∧ Below w.heap.size w w' := by
  have HL := Lib.hid (fun w' (hb : Below w.heap.size w w') => list_any v _ w' (h.below hb (Nat.le_refl _)))
  have HSz := Lib.hid (fun w => rSize_any d w)
  have HC := Lib.hid (fun w' (hb : Below w.heap.size w w') => rCards_any d v _ w' (h.below hb (Nat.le_refl _)))
  rw [hk] at HC
  have HSe := Lib.hid (fun v' w' (h' : Ints w' v' (xs.take 90)) => Sets_bad d v' _ w' h' (by rw [deckB_take, hk]))
  have HAw := Lib.hid (fun w => awake_any w)
  clear h hk
  cases ht : twoB d a b with
  | false =>
    have HT := Lib.hid (fun w => Third_bad d a b w ha hb ht)
    have hq := two_not ht
    have hs0 : 0 ≤ (sizeI d : Int) := by omega
    clear ht
    generalize sizeI d = s at *
    by_cases c1 : a = b
    · subst c1
      have HB0 := Lib.hid (Below.refl w.heap.size w)
      go_enter Try.func3, Try.ntmps3
      go_wp2_with fail
      refine (HT.out w).mono ?_
      rintro e w1 ⟨rfl, hb1⟩
      have HB1 := Lib.hid (HB0.out.trans (hb1.mono HB0.out.size))
      clear hb1
      go_wp2_with fail
      refine (HL.out w1 HB1.out).mono ?_
      rintro e w2 ⟨v2, rfl, hv2, hb2⟩
      have HB2 := Lib.hid (HB1.out.trans (hb2.mono HB1.out.size))
      have A_2 := Lib.hid (hv2)
      clear hb2 hv2
      go_wp2_with fail
      refine (HSe.out v2 w2 A_2.out).mono ?_
      rintro e w' ⟨rfl, rfl⟩
      clear A_2
      go_wp2_with fail
      refine (HSz.out w2).mono ?_
      rintro e w' ⟨rfl, rfl⟩
      go_wp2_with fail
      refine (HC.out w2 HB2.out).mono ?_
      rintro e w' ⟨rfl, rfl⟩
      go_wp2_with fail
      refine (HAw.out w2).mono ?_
      rintro e w3 ⟨rfl, hb3⟩
      have HB3 := Lib.hid (HB2.out.trans (hb3.mono HB2.out.size))
      clear hb3
      go_wp2
      go_ret
      exact ⟨rfl, HB3.out⟩
    by_cases c2 : a < 0
    · have HB0 := Lib.hid (Below.refl w.heap.size w)
      go_enter Try.func3, Try.ntmps3
      go_wp2_with fail
      refine (HT.out w).mono ?_
      rintro e w1 ⟨rfl, hb1⟩
      have HB1 := Lib.hid (HB0.out.trans (hb1.mono HB0.out.size))
      clear hb1
      go_wp2_with fail
      refine (HL.out w1 HB1.out).mono ?_
      rintro e w2 ⟨v2, rfl, hv2, hb2⟩
      have HB2 := Lib.hid (HB1.out.trans (hb2.mono HB1.out.size))
      have A_2 := Lib.hid (hv2)
      clear hb2 hv2
      go_wp2_with fail
      refine (HSe.out v2 w2 A_2.out).mono ?_
      rintro e w' ⟨rfl, rfl⟩
      clear A_2
      go_wp2_with fail
      refine (HSz.out w2).mono ?_
      rintro e w' ⟨rfl, rfl⟩
      go_wp2_with fail
      refine (HC.out w2 HB2.out).mono ?_
      rintro e w' ⟨rfl, rfl⟩
      go_wp2_with fail
      refine (HAw.out w2).mono ?_
      rintro e w3 ⟨rfl, hb3⟩
      have HB3 := Lib.hid (HB2.out.trans (hb3.mono HB2.out.size))
      clear hb3
      go_wp2
      go_ret
      exact ⟨rfl, HB3.out⟩
    by_cases c3 : b < 0
    · have HB0 := Lib.hid (Below.refl w.heap.size w)
      go_enter Try.func3, Try.ntmps3
      go_wp2_with fail
      refine (HT.out w).mono ?_
      rintro e w1 ⟨rfl, hb1⟩
      have HB1 := Lib.hid (HB0.out.trans (hb1.mono HB0.out.size))
      clear hb1
      go_wp2_with fail
      refine (HL.out w1 HB1.out).mono ?_
      rintro e w2 ⟨v2, rfl, hv2, hb2⟩
      have HB2 := Lib.hid (HB1.out.trans (hb2.mono HB1.out.size))
      have A_2 := Lib.hid (hv2)
      clear hb2 hv2
      go_wp2_with fail
      refine (HSe.out v2 w2 A_2.out).mono ?_
      rintro e w' ⟨rfl, rfl⟩
      clear A_2
      go_wp2_with fail
      refine (HSz.out w2).mono ?_
      rintro e w' ⟨rfl, rfl⟩
      go_wp2_with fail
      refine (HC.out w2 HB2.out).mono ?_
      rintro e w' ⟨rfl, rfl⟩
      go_wp2_with fail
      refine (HAw.out w2).mono ?_
      rintro e w3 ⟨rfl, hb3⟩
      have HB3 := Lib.hid (HB2.out.trans (hb3.mono HB2.out.size))
      clear hb3
      go_wp2
      go_ret
      exact ⟨rfl, HB3.out⟩
    by_cases c4 : (s:Int) ≤ a
    · have HB0 := Lib.hid (Below.refl w.heap.size w)
      go_enter Try.func3, Try.ntmps3
      go_wp2_with fail
      refine (HT.out w).mono ?_
      rintro e w1 ⟨rfl, hb1⟩
      have HB1 := Lib.hid (HB0.out.trans (hb1.mono HB0.out.size))
      clear hb1
      go_wp2_with fail
      refine (HL.out w1 HB1.out).mono ?_
      rintro e w2 ⟨v2, rfl, hv2, hb2⟩
      have HB2 := Lib.hid (HB1.out.trans (hb2.mono HB1.out.size))
      have A_2 := Lib.hid (hv2)
      clear hb2 hv2
      go_wp2_with fail
      refine (HSe.out v2 w2 A_2.out).mono ?_
      rintro e w' ⟨rfl, rfl⟩
      clear A_2
      go_wp2_with fail
      refine (HSz.out w2).mono ?_
      rintro e w' ⟨rfl, rfl⟩
      go_wp2_with fail
      refine (HC.out w2 HB2.out).mono ?_
      rintro e w' ⟨rfl, rfl⟩
      go_wp2_with fail
      refine (HAw.out w2).mono ?_
      rintro e w3 ⟨rfl, hb3⟩
      have HB3 := Lib.hid (HB2.out.trans (hb3.mono HB2.out.size))
      clear hb3
      go_wp2
      go_ret
      exact ⟨rfl, HB3.out⟩
    have c5 : (s:Int) ≤ b := by omega
    have HB0 := Lib.hid (Below.refl w.heap.size w)
    go_enter Try.func3, Try.ntmps3
    go_wp2_with fail
    refine (HT.out w).mono ?_
    rintro e w1 ⟨rfl, hb1⟩
    have HB1 := Lib.hid (HB0.out.trans (hb1.mono HB0.out.size))
    clear hb1
    go_wp2_with fail
    refine (HL.out w1 HB1.out).mono ?_
    rintro e w2 ⟨v2, rfl, hv2, hb2⟩
    have HB2 := Lib.hid (HB1.out.trans (hb2.mono HB1.out.size))
    have A_2 := Lib.hid (hv2)
    clear hb2 hv2
    go_wp2_with fail
    refine (HSe.out v2 w2 A_2.out).mono ?_
    rintro e w' ⟨rfl, rfl⟩
    clear A_2
    go_wp2_with fail
    refine (HSz.out w2).mono ?_
    rintro e w' ⟨rfl, rfl⟩
    go_wp2_with fail
    refine (HC.out w2 HB2.out).mono ?_
    rintro e w' ⟨rfl, rfl⟩
    go_wp2_with fail
    refine (HAw.out w2).mono ?_
    rintro e w3 ⟨rfl, hb3⟩
    have HB3 := Lib.hid (HB2.out.trans (hb3.mono HB2.out.size))
    clear hb3
    go_wp2
    go_ret
    exact ⟨rfl, HB3.out⟩
  | true =>
    obtain ⟨n, x, y, rfl, rfl, rfl, h1, h4, hx, hy, hne, hsz⟩ := two_nats ht
    have HT := Lib.hid (fun w => Third_any n x y w h1 h4 hx hy hne)
    have hp := p3 n h4
    have HR := Lib.hid (fun w => rThird_any n x y w h4 (by omega) (by omega))
    rw [hsz] at HSz
    clear ht hsz
    generalize thirdN n x y = t at *
    generalize 3 ^ n = s at *
    have d1 : ((x:Int) == (y:Int)) = false := by simp; omega
    have d2 : decide ((x:Int) < 0) = false := by simp
    have d3 : decide ((y:Int) < 0) = false := by simp
    have d4 : decide (s ≤ x) = false := by simp; omega
    have d5 : decide (s ≤ y) = false := by simp; omega
    have HB0 := Lib.hid (Below.refl w.heap.size w)
    go_enter Try.func3, Try.ntmps3
    go_wp2_with fail
    refine (HT.out w).mono ?_
    rintro e w1 ⟨rfl, hb1⟩
    have HB1 := Lib.hid (HB0.out.trans (hb1.mono HB0.out.size))
    clear hb1
    go_wp2_with fail
    refine (HL.out w1 HB1.out).mono ?_
    rintro e w2 ⟨v2, rfl, hv2, hb2⟩
    have HB2 := Lib.hid (HB1.out.trans (hb2.mono HB1.out.size))
    have A_2 := Lib.hid (hv2)
    clear hb2 hv2
    go_wp2_with fail
    refine (HSe.out v2 w2 A_2.out).mono ?_
    rintro e w' ⟨rfl, rfl⟩
    clear A_2
    go_wp2_with fail
    refine (HSz.out w2).mono ?_
    rintro e w' ⟨rfl, rfl⟩
    go_wp2_with fail
    refine (HR.out w2).mono ?_
    rintro e w3 ⟨rfl, hd3⟩
    have HB3 := Lib.hid (HB2.out.trans ((drew_below hd3).mono HB2.out.size))
    clear hd3
    go_wp2_with fail
    refine (HC.out w3 HB3.out).mono ?_
    rintro e w' ⟨rfl, rfl⟩
    go_wp2_with fail
    refine (HAw.out w3).mono ?_
    rintro e w4 ⟨rfl, hb4⟩
    have HB4 := Lib.hid (HB3.out.trans (hb4.mono HB3.out.size))
    clear hb4
    go_wp2
    go_ret
    exact ⟨rfl, HB4.out⟩

theorem capsThirds_law (d a b : Int) (v : Value) (xs : List Int) (w : World) (h : Ints w v xs) (ha : I64 a) (hb : I64 b) :
    Calls Try.prog 3 #[.int .i64 d, .int .i64 a, .int .i64 b, v] w fun e w' => e = .returned (.bool true) ∧ Below w.heap.size w w' := by
  cases hk : deckB d xs with
  | false => exact thirds_bad d a b v xs w h ha hb hk
  | true =>
    obtain ⟨n, l, hd, h1, h4, _, rfl, hkk⟩ := deck_nats hk
    exact thirds_good d a b v l n w h ha hb hd h1 h4 hkk
end Go.Proofs.Ytlalfjkenkmojaa
