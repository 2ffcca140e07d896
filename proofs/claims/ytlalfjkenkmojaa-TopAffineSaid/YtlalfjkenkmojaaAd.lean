/- add 52, slices.Sort of three cards -/
import Derived.Test.YtlalfjkenkmojaaCs
import Derived.Test.YtlalfjkenkmojaaSo
import Derived.Test.YtlalfjkenkmojaaL4
namespace Go.Proofs.Ytlalfjkenkmojaa
open Go.RowKit

theorem add_step (m a b : Nat) : addN (m + 1) a b = (a % 3 + b % 3) % 3 + 3 * addN m (a / 3) (b / 3) := rfl
set_option maxHeartbeats 2000000 in
theorem add_any (d a b : Nat) (w : World) (hd : d ≤ 4) (ha : a ≤ 81) (hb : b ≤ 81) : Calls Try.prog 52 #[.int .i64 d, .int .i64 a, .int .i64 b] w fun e w' => e = .returned (.int .i64 (addN d a b : Nat)) ∧ Below w.heap.size w w' := by
  obtain ⟨t, ht⟩ : ∃ t, t = addN d a b := ⟨_, rfl⟩
  rw [← ht]
  have HT := Lib.hid ht
  clear ht
  go_enter Try.func52, Try.ntmps52
  go_wp2
  go_loopw [7, 8, 10] (fun c p i wr => ∃ k m c' p' s n : Nat, k + m = d ∧ i = .int .i64 k ∧ c = .int .i64 c' ∧ p = .int .i64 p' ∧ p' = 3 ^ k ∧ s = addN m (a / 3 ^ k) (b / 3 ^ k) ∧ c' + p' * s = t ∧ c' < p' ∧ wr = w.drewN n) (fun _ _ i _ => d - (intOf i).toNat)
  case atStart => exact ⟨0, d, 0, 1, _, 0, by omega, rfl, rfl, rfl, rfl, rfl, by rw [HT.out]; simp, by omega, rfl⟩
  case round =>
    obtain ⟨k, m, c, p, s, n, hk, rfl, rfl, rfl, hp, hs, hc, hcp, rfl⟩ := hrel
    cases m with
    | succ m =>
      have HS : Hid (s = ((a / 3 ^ k) % 3 + (b / 3 ^ k) % 3) % 3 + 3 * addN m (a / 3 ^ (k + 1)) (b / 3 ^ (k + 1))) := Lib.hid (by rw [hs, add_step, div_div3, div_div3])
      have hp4 : (k = 0 ∧ p = 1) ∨ (k = 1 ∧ p = 3) ∨ (k = 2 ∧ p = 9) ∨ (k = 3 ∧ p = 27) := by
        rw [hp]
        rcases (show k = 0 ∨ k = 1 ∨ k = 2 ∨ k = 3 by omega) with rfl | rfl | rfl | rfl <;> simp
      have HC := Lib.hid hc
      have hlt : k < d := by omega
      have HK := Lib.hid hk
      clear hs hc hp hk
      rcases hp4 with ⟨rfl, rfl⟩ | ⟨rfl, rfl⟩ | ⟨rfl, rfl⟩ | ⟨rfl, rfl⟩
      · go_wp2_with fail
        go_quiet (fail)
        go_wp2
        go_roundw
        case rel =>
          have h1 := HS.out
          have h2 := HC.out
          have h3 := HK.out
          simp only [Nat.reducePow, Nat.reduceAdd] at h1
          refine ⟨1, m, c + 1 * (((a / 1) % 3 + (b / 1) % 3) % 3), 3, addN m (a / 3) (b / 3), _, by omega, vint (by omega), vint (by omega), vint (by omega), rfl, rfl, ?_, by omega, rfl⟩
          generalize addN m (a / 3) (b / 3) = u at *
          omega
        case measure => simp [intOf]; omega
      · go_wp2_with fail
        go_quiet (fail)
        go_wp2
        go_roundw
        case rel =>
          have h1 := HS.out
          have h2 := HC.out
          have h3 := HK.out
          simp only [Nat.reducePow, Nat.reduceAdd] at h1
          refine ⟨2, m, c + 3 * (((a / 3) % 3 + (b / 3) % 3) % 3), 9, addN m (a / 9) (b / 9), _, by omega, vint (by omega), vint (by omega), vint (by omega), rfl, rfl, ?_, by omega, rfl⟩
          generalize addN m (a / 9) (b / 9) = u at *
          omega
        case measure => simp [intOf]; omega
      · go_wp2_with fail
        go_quiet (fail)
        go_wp2
        go_roundw
        case rel =>
          have h1 := HS.out
          have h2 := HC.out
          have h3 := HK.out
          simp only [Nat.reducePow, Nat.reduceAdd] at h1
          refine ⟨3, m, c + 9 * (((a / 9) % 3 + (b / 9) % 3) % 3), 27, addN m (a / 27) (b / 27), _, by omega, vint (by omega), vint (by omega), vint (by omega), rfl, rfl, ?_, by omega, rfl⟩
          generalize addN m (a / 27) (b / 27) = u at *
          omega
        case measure => simp [intOf]; omega
      · go_wp2_with fail
        go_quiet (fail)
        go_wp2
        go_roundw
        case rel =>
          have h1 := HS.out
          have h2 := HC.out
          have h3 := HK.out
          simp only [Nat.reducePow, Nat.reduceAdd] at h1
          refine ⟨4, m, c + 27 * (((a / 27) % 3 + (b / 27) % 3) % 3), 81, addN m (a / 81) (b / 81), _, by omega, vint (by omega), vint (by omega), vint (by omega), rfl, rfl, ?_, by omega, rfl⟩
          generalize addN m (a / 81) (b / 81) = u at *
          omega
        case measure => simp [intOf]; omega
    | zero =>
      have HC : Hid (c = t) := Lib.hid (by rw [hs] at hc; rw [← hc]; show c = c + p * 0; omega)
      obtain rfl : k = d := by omega
      clear hp hs hc hk
      go_wp2
      go_ret
      exact ⟨ret_int (by rw [HC.out]), below_drewN (Below.refl _ _) _⟩

theorem owns_three (w : World) (x y z : Int) : (w.alloc (.cells #[.int .i64 x, .int .i64 y, .int .i64 z] 3)).ownsRow w.heap.size 3 1 (.slice (some ⟨w.heap.size, 0, none⟩) 3 3) 3 (ints [x, y, z]) :=
  ⟨rfl, .inr ⟨w.heap.size, 3, _, rfl, Nat.le_refl _, heap_alloc_new w _, Nat.le_refl _, by unfold maxLen; omega, rfl, rfl⟩⟩
theorem sort_nats (l : List Nat) : (nats l).mergeSort (fun x y => decide (x ≤ y)) = nats (l.mergeSort fun x y => decide (x ≤ y)) := by
  unfold nats
  refine (List.map_mergeSort (fun a _ b _ => ?_)).symm
  simp
set_option maxHeartbeats 1000000 in
theorem sort3_any (d a b c : Nat) (w : World) (ha : a < 3 ^ d) (hb : b < 3 ^ d) (hd : d ≤ 4) (hab : a ≠ b) (hc : c = thirdN d a b) :
    Calls Try.prog 53 #[.slice (some ⟨w.heap.size, 0, none⟩) 3 3] (w.alloc (.cells #[.int .i64 a, .int .i64 b, .int .i64 c] 3)) fun e w' => e = .returned (.tuple #[]) ∧
      ∃ l, Nats w' (.slice (some ⟨w.heap.size, 0, none⟩) 3 3) l ∧ Deck d l ∧ setsN d l = 1 ∧ Below w.heap.size w w' := by
  have hp := p3 d hd
  refine (sort_own w.heap.size _ [(a:Int), b, c] _ (by simp) (by simp) (owns_three w a b c) (by simp)).mono ?_
  rintro e w' ⟨rfl, ho, hb'⟩
  have hs := sort_nats [a, b, c]
  have hperm : List.Perm ([a, b, c].mergeSort fun x y => decide (x ≤ y)) [a, b, c] := List.mergeSort_perm _ _
  have hsort : ([a, b, c].mergeSort fun x y => decide (x ≤ y)).Pairwise (· ≤ ·) := by
    have := List.pairwise_mergeSort (le := fun x y : Nat => decide (x ≤ y)) (by intro x y z h1 h2; simp at *; omega) (by intro x y; simp; omega) [a, b, c]
    simpa using this
  obtain ⟨h1, h2⟩ := three_sorted ha hb hab hc hperm hsort
  have ho2 : w'.ownsRow w.heap.size 3 1 (.slice (some ⟨w.heap.size, 0, none⟩) 3 3) 3 (ints (nats ([a, b, c].mergeSort fun x y => decide (x ≤ y)))) := by
    rw [← hs]; exact ho
  refine ⟨rfl, _, Ints.of_owns ho2 (by omega) (nats_I64 fun x hx => by have := h1.2 x hx; omega), h1, h2, ?_⟩
  exact ((Below.refl _ w).alloc (Nat.le_refl _) _).trans hb'
end Go.Proofs.Ytlalfjkenkmojaa
