/- SignsGood: the walk, where the sequences are good arguments -/
import Derived.Test.YtopmdmafameknaaGl
namespace Go.Proofs.Ytopmdmafameknaa
open Go.RowKit

set_option maxHeartbeats 1000000 in
set_option maxRecDepth 100000 in
theorem signsGood_four (n x0 x1 x2 x3 : Nat) (w : World) (hn : n = 1 ∨ n = 3 ∨ n = 5) (h4 : n ≤ 4) (hx : ∀ q, selN x0 x1 x2 x3 q < 2 ^ n ∧ symA n (selN x0 x1 x2 x3 q) n = true ∧ selN x0 x1 x2 x3 q < 65536) (hs : seqsI n x0 x1 x2 x3 = true) :
    Calls Try.prog 8 #[.int .i64 n, arr4 x0 x1 x2 x3] w fun e w' => e = .returned (.bool true) ∧ Below w.heap.size w w' := by
  have HG := Lib.hid (fun w => Good_any n x0 x1 x2 x3 w)
  have HA := Lib.hid (fun w => Array_any n x0 x1 x2 x3 w)
  have HR := Lib.hid (fun (s:Int) w => rSequence_any n s w)
  have HRG := Lib.hid (fun w => rGood_any n x0 x1 x2 x3 w hn hx)
  have HX : Hid (∀ k, k < 4 → (isM n && seqB (Int.toNat n) (sel x0 x1 x2 x3 k)) = true) := fun k hk => seqs_each hs k hk
  have H1 : Hid (∀ w e w', GoodPost w n x0 x1 x2 x3 e w' → e = .returned (.tuple #[.bool (goodB n x0 x1 x2 x3), .int .i64 0]) ∧ Below w.heap.size w w') := fun w e w' h => by unfold GoodPost at h; rw [if_pos hs] at h; exact h
  have H2 : Hid (∀ w e w', ArrPost w n x0 x1 x2 x3 e w' → ∃ v, e = .returned (.tuple #[v, .int .i64 0]) ∧ Nats w' v (arrL n x0 x1 x2 x3) ∧ Below w.heap.size w w') := fun w e w' h => by
    unfold ArrPost at h; rw [if_pos hs, if_pos (by omega)] at h
    obtain ⟨⟨v, he, hv⟩, hb⟩ := h
    exact ⟨v, he, hv, hb⟩
  have HRA := Lib.hid (fun w => rArray_any n x0 x1 x2 x3 w (by omega) h4 (fun q => (hx q).2.2))
  have HEq : Hid (∀ v v' w', Nats w' v (arrL n x0 x1 x2 x3) → Nats w' v' (arrL n x0 x1 x2 x3) → Calls Try.prog 23 #[v, v'] w' fun e w'' => e = .returned (.bool true) ∧ Below w'.heap.size w' w'') := fun v v' w' h h' =>
    (equal_any v v' _ _ w' h h').mono fun e w'' ⟨he, hb⟩ => ⟨by rw [he, show eqB (nats (arrL n x0 x1 x2 x3)) (nats (arrL n x0 x1 x2 x3)) = true from decide_eq_true rfl], hb⟩
  have hle : ¬ (4:Int) < n := by omega
  obtain ⟨W1, hW1⟩ : ∃ W1, W1 = w.alloc (.cells #[.int .i64 x0, .int .i64 x1, .int .i64 x2, .int .i64 x3] 43) := ⟨_, rfl⟩
  have hz : W1.heap.size = w.heap.size + 1 := by rw [hW1]; simp
  have HC : Hid (∀ w', Below (w.heap.size + 1) W1 w' → A4 w' w.heap.size x0 x1 x2 x3) := fun w' hb => by
    have h : A4 W1 w.heap.size x0 x1 x2 x3 := by rw [hW1]; exact A4.new w x0 x1 x2 x3 43
    exact h.below hb
  have HE : Hid (∀ w', Below (w.heap.size + 1) W1 w' → Below w.heap.size w w') := fun w' hb => by
    have h : Below w.heap.size w W1 := by rw [hW1]; exact (Below.refl w.heap.size w).alloc (Nat.le_refl _) _
    exact h.trans (hb.mono (by omega))
  have HB0 := Lib.hid (Below.refl (w.heap.size + 1) W1)
  have HW1 := Lib.hid hW1
  have HZ := Lib.hid hz
  have HM : Hid (∀ {w1 w2 : World}, Below (w.heap.size + 1) W1 w1 → Below w1.heap.size w1 w2 → Below (w.heap.size + 1) W1 w2) := fun h1 h2 => h1.trans (h2.mono (by have := h1.size; omega))
  clear hs hW1 hz hx hn
  generalize goodB n x0 x1 x2 x3 = g at *
  go_enter Try.func8, Try.ntmps8
  go_wp2_with fail
  try rw [← HW1.out]
  obtain ⟨c0, c1, c2, c3⟩ := HC.out _ HB0.out
  go_wp2_with fail
  refine (HG.out _).mono ?_
  intro e w1 hq
  obtain ⟨rfl, hb1⟩ := H1.out _ _ _ hq
  have HB1 := Lib.hid (HM.out HB0.out hb1)
  clear hq hb1 c0 c1 c2 c3
  obtain ⟨c0, c1, c2, c3⟩ := HC.out _ HB1.out
  go_wp2_with fail
  refine (HA.out _).mono ?_
  intro e w2 hq
  obtain ⟨v, rfl, hv, hb2⟩ := H2.out _ _ _ hq
  have HV := Lib.hid hv
  clear hv
  have HB2 := Lib.hid (HM.out HB1.out hb2)
  clear hq hb2 c0 c1 c2 c3
  obtain ⟨c0, c1, c2, c3⟩ := HC.out _ HB2.out
  go_wp2_with fail
  go_loopw [24] (fun i w' => ∃ k : Nat, k ≤ 4 ∧ i = .int .i64 k ∧ Below w2.heap.size w2 w') (fun i _ => 4 - (intOf i).toNat)
  case atStart => exact ⟨0, Nat.zero_le _, rfl, Below.refl _ _⟩
  case round =>
    clear c0 c1 c2 c3
    obtain ⟨k, hk, rfl, hb⟩ := hrel
    have HB3 := Lib.hid hb
    clear hb
    by_cases hlt : k < 4
    · have hix := idx4 x0 x1 x2 x3 k hlt
      have HQ := Lib.hid (fun w => HR.out (sel x0 x1 x2 x3 k) w)
      rw [HX.out k hlt] at HQ
      generalize sel x0 x1 x2 x3 k = z at *
      go_wp2_with fail
      refine (HQ.out _).mono ?_
      rintro e w4 ⟨rfl, hb4⟩
      have HB4 := Lib.hid (HB3.out.trans (hb4.mono HB3.out.size))
      clear hb4
      go_wp2
      go_roundw
      case rel => exact ⟨k + 1, by omega, by go_num, HB4.out⟩
      case measure => simp [intOf]; omega
    · obtain rfl : k = 4 := by omega
      obtain ⟨c0, c1, c2, c3⟩ := HC.out _ (HM.out HB2.out HB3.out)
      go_wp2_with fail
      refine (HRG.out _).mono ?_
      rintro e w4 ⟨rfl, hb4⟩
      have HB4 := Lib.hid (HB3.out.trans (hb4.mono HB3.out.size))
      clear hb4 c0 c1 c2 c3
      go_wp2_with fail
      refine (awake_any w4).mono ?_
      rintro e w5 ⟨rfl, hb5⟩
      have HB5 := Lib.hid (HB4.out.trans (hb5.mono HB4.out.size))
      clear hb5
      obtain ⟨c0, c1, c2, c3⟩ := HC.out _ (HM.out HB2.out HB5.out)
      go_wp2_with fail
      refine (HRA.out _).mono ?_
      rintro e w6 ⟨v6, rfl, hv6, hb6⟩
      have HB6 := Lib.hid (HB5.out.trans (hb6.mono HB5.out.size))
      have HV6 := Lib.hid hv6
      clear hb6 hv6 c0 c1 c2 c3
      go_wp2_with fail
      refine (HEq.out _ _ _ (HV.out.below HB6.out (Nat.le_refl _)) HV6.out).mono ?_
      rintro e w7 ⟨rfl, hb7⟩
      have HB7 := Lib.hid (HB6.out.trans (hb7.mono HB6.out.size))
      clear hb7
      go_wp2
      go_ret
      exact ⟨rfl, HE.out _ (HM.out HB2.out HB7.out)⟩
set_option maxHeartbeats 1000000 in
set_option maxRecDepth 100000 in
theorem signsGood_five (n x0 x1 x2 x3 : Nat) (w : World) (hn : n = 1 ∨ n = 3 ∨ n = 5) (h5 : ¬ n ≤ 4) (hx : ∀ q, selN x0 x1 x2 x3 q < 2 ^ n ∧ symA n (selN x0 x1 x2 x3 q) n = true ∧ selN x0 x1 x2 x3 q < 65536) (hs : seqsI n x0 x1 x2 x3 = true) :
    Calls Try.prog 8 #[.int .i64 n, arr4 x0 x1 x2 x3] w fun e w' => e = .returned (.bool true) ∧ Below w.heap.size w w' := by
  have HG := Lib.hid (fun w => Good_any n x0 x1 x2 x3 w)
  have HA := Lib.hid (fun w => Array_any n x0 x1 x2 x3 w)
  have HR := Lib.hid (fun (s:Int) w => rSequence_any n s w)
  have HRG := Lib.hid (fun w => rGood_any n x0 x1 x2 x3 w hn hx)
  have HX : Hid (∀ k, k < 4 → (isM n && seqB (Int.toNat n) (sel x0 x1 x2 x3 k)) = true) := fun k hk => seqs_each hs k hk
  have H1 : Hid (∀ w e w', GoodPost w n x0 x1 x2 x3 e w' → e = .returned (.tuple #[.bool (goodB n x0 x1 x2 x3), .int .i64 0]) ∧ Below w.heap.size w w') := fun w e w' h => by unfold GoodPost at h; rw [if_pos hs] at h; exact h
  have H2 : Hid (∀ w e w', ArrPost w n x0 x1 x2 x3 e w' → e = .returned (.tuple #[.slice none 0 0, .int .i64 6]) ∧ Below w.heap.size w w') := fun w e w' h => by
    unfold ArrPost at h; rw [if_pos hs, if_neg (by omega)] at h; exact h
  have hle : (4:Int) < n := by omega
  obtain ⟨W1, hW1⟩ : ∃ W1, W1 = w.alloc (.cells #[.int .i64 x0, .int .i64 x1, .int .i64 x2, .int .i64 x3] 43) := ⟨_, rfl⟩
  have hz : W1.heap.size = w.heap.size + 1 := by rw [hW1]; simp
  have HC : Hid (∀ w', Below (w.heap.size + 1) W1 w' → A4 w' w.heap.size x0 x1 x2 x3) := fun w' hb => by
    have h : A4 W1 w.heap.size x0 x1 x2 x3 := by rw [hW1]; exact A4.new w x0 x1 x2 x3 43
    exact h.below hb
  have HE : Hid (∀ w', Below (w.heap.size + 1) W1 w' → Below w.heap.size w w') := fun w' hb => by
    have h : Below w.heap.size w W1 := by rw [hW1]; exact (Below.refl w.heap.size w).alloc (Nat.le_refl _) _
    exact h.trans (hb.mono (by omega))
  have HB0 := Lib.hid (Below.refl (w.heap.size + 1) W1)
  have HW1 := Lib.hid hW1
  have HZ := Lib.hid hz
  have HM : Hid (∀ {w1 w2 : World}, Below (w.heap.size + 1) W1 w1 → Below w1.heap.size w1 w2 → Below (w.heap.size + 1) W1 w2) := fun h1 h2 => h1.trans (h2.mono (by have := h1.size; omega))
  clear hs hW1 hz hx hn
  generalize goodB n x0 x1 x2 x3 = g at *
  go_enter Try.func8, Try.ntmps8
  go_wp2_with fail
  try rw [← HW1.out]
  obtain ⟨c0, c1, c2, c3⟩ := HC.out _ HB0.out
  go_wp2_with fail
  refine (HG.out _).mono ?_
  intro e w1 hq
  obtain ⟨rfl, hb1⟩ := H1.out _ _ _ hq
  have HB1 := Lib.hid (HM.out HB0.out hb1)
  clear hq hb1 c0 c1 c2 c3
  obtain ⟨c0, c1, c2, c3⟩ := HC.out _ HB1.out
  go_wp2_with fail
  refine (HA.out _).mono ?_
  intro e w2 hq
  obtain ⟨rfl, hb2⟩ := H2.out _ _ _ hq
  have HB2 := Lib.hid (HM.out HB1.out hb2)
  clear hq hb2 c0 c1 c2 c3
  obtain ⟨c0, c1, c2, c3⟩ := HC.out _ HB2.out
  go_wp2_with fail
  go_loopw [24] (fun i w' => ∃ k : Nat, k ≤ 4 ∧ i = .int .i64 k ∧ Below w2.heap.size w2 w') (fun i _ => 4 - (intOf i).toNat)
  case atStart => exact ⟨0, Nat.zero_le _, rfl, Below.refl _ _⟩
  case round =>
    clear c0 c1 c2 c3
    obtain ⟨k, hk, rfl, hb⟩ := hrel
    have HB3 := Lib.hid hb
    clear hb
    by_cases hlt : k < 4
    · have hix := idx4 x0 x1 x2 x3 k hlt
      have HQ := Lib.hid (fun w => HR.out (sel x0 x1 x2 x3 k) w)
      rw [HX.out k hlt] at HQ
      generalize sel x0 x1 x2 x3 k = z at *
      go_wp2_with fail
      refine (HQ.out _).mono ?_
      rintro e w4 ⟨rfl, hb4⟩
      have HB4 := Lib.hid (HB3.out.trans (hb4.mono HB3.out.size))
      clear hb4
      go_wp2
      go_roundw
      case rel => exact ⟨k + 1, by omega, by go_num, HB4.out⟩
      case measure => simp [intOf]; omega
    · obtain rfl : k = 4 := by omega
      obtain ⟨c0, c1, c2, c3⟩ := HC.out _ (HM.out HB2.out HB3.out)
      go_wp2_with fail
      refine (HRG.out _).mono ?_
      rintro e w4 ⟨rfl, hb4⟩
      have HB4 := Lib.hid (HB3.out.trans (hb4.mono HB3.out.size))
      clear hb4 c0 c1 c2 c3
      go_wp2_with fail
      refine (awake_any w4).mono ?_
      rintro e w5 ⟨rfl, hb5⟩
      have HB5 := Lib.hid (HB4.out.trans (hb5.mono HB4.out.size))
      clear hb5
      go_wp2
      go_ret
      exact ⟨rfl, HE.out _ (HM.out HB2.out HB5.out)⟩
theorem signsGood_law (m a b c d : Int) (w : World) :
    Calls Try.prog 8 #[.int .i64 m, arr4 a b c d] w fun e w' => e = .returned (.bool true) ∧ Below w.heap.size w w' := by
  cases hs : seqsI m a b c d with
  | false => exact signsGood_bad m a b c d w hs
  | true =>
    obtain ⟨n, x0, x1, x2, x3, rfl, hn, rfl, rfl, rfl, rfl, hx⟩ := seqsI_nat hs
    by_cases h4 : n ≤ 4
    · exact signsGood_four n x0 x1 x2 x3 w hn h4 hx hs
    · exact signsGood_five n x0 x1 x2 x3 w hn h4 hx hs
end Go.Proofs.Ytopmdmafameknaa
