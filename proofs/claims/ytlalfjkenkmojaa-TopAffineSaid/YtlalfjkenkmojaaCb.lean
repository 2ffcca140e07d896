/- cards: size, third, mayAdd, isRising, areCards, Third; the reference's Size, Rising, Cards, Third -/
import Derived.Test.YtlalfjkenkmojaaNa
import Derived.Deep.QuietTactic
import Derived.BigQuiet
namespace Go.Proofs.Ytlalfjkenkmojaa
open Go.RowKit

theorem p3 (d : Nat) (h : d ≤ 4) : 1 ≤ 3 ^ d ∧ 3 ^ d ≤ 81 := ⟨Nat.pow_pos (by decide), Nat.pow_le_pow_right (n := 3) (by decide) h⟩

set_option maxHeartbeats 1000000 in
theorem size_any (d : Nat) (w : World) (hd : d ≤ 4) : Calls Try.prog 67 #[.int .i64 d] w fun e w' => e = .returned (.int .i64 (3 ^ d : Nat)) ∧ w = w' := by
  obtain ⟨q, hq⟩ : ∃ q, q = 3 ^ d := ⟨_, rfl⟩
  rw [← hq]
  have HQ := Lib.hid hq
  clear hq
  go_enter Try.func67, Try.ntmps67
  go_wp2
  go_loop [3, 5] (fun n i => ∃ k p : Nat, k ≤ d ∧ i = .int .i64 k ∧ n = .int .i64 p ∧ p = 3 ^ k) (fun _ i => d - (intOf i).toNat)
  case atStart => exact ⟨0, 1, Nat.zero_le _, rfl, rfl, rfl⟩
  case round =>
    obtain ⟨k, p, hk, rfl, rfl, hp⟩ := hrel
    have hb := p3 k (by omega)
    rw [← hp] at hb
    have HP := Lib.hid hp
    clear hp
    by_cases hlt : k < d
    · go_wp2
      go_round
      case rel => exact ⟨k + 1, p * 3, by omega, by go_num, by go_num, by rw [HP.out, Nat.pow_succ]⟩
      case measure => simp [intOf]; omega
    · obtain rfl : k = d := by omega
      go_wp2
      go_ret
      exact ⟨ret_int (by rw [HP.out, HQ.out]), rfl⟩

def sizeI (d : Int) : Nat := if 1 ≤ d ∧ d ≤ 4 then 3 ^ d.toNat else 0
set_option maxHeartbeats 1000000 in
theorem rSize_any (d : Int) (w : World) : Calls Try.prog 21 #[.int .i64 d] w fun e w' => e = .returned (.int .i64 (sizeI d : Nat)) ∧ w = w' := by
  by_cases h1 : d < 1
  · have HS : Hid (sizeI d = 0) := Lib.hid (by unfold sizeI; rw [if_neg (by omega)])
    go_enter Try.func21, Try.ntmps21
    go_wp2
    go_ret
    exact ⟨ret_int (by rw [HS.out]; rfl), rfl⟩
  by_cases h4 : 4 < d
  · have HS : Hid (sizeI d = 0) := Lib.hid (by unfold sizeI; rw [if_neg (by omega)])
    go_enter Try.func21, Try.ntmps21
    go_wp2
    go_ret
    exact ⟨ret_int (by rw [HS.out]; rfl), rfl⟩
  obtain ⟨d, rfl⟩ := Int.eq_ofNat_of_zero_le (show 0 ≤ d by omega)
  have HS : Hid (sizeI d = 3 ^ d) := Lib.hid (by unfold sizeI; rw [if_pos (by omega), Int.toNat_natCast])
  go_enter Try.func21, Try.ntmps21
  go_wp2
  go_loop [3, 11] (fun n i => ∃ k p : Nat, k ≤ d ∧ i = .int .i64 k ∧ n = .int .i64 p ∧ p = 3 ^ k) (fun _ i => d - (intOf i).toNat)
  case atStart => exact ⟨0, 1, Nat.zero_le _, rfl, rfl, rfl⟩
  case round =>
    obtain ⟨k, p, hk, rfl, rfl, hp⟩ := hrel
    have hb := p3 k (by omega)
    rw [← hp] at hb
    have HP := Lib.hid hp
    clear hp
    by_cases hlt : k < d
    · go_wp2
      go_round
      case rel => exact ⟨k + 1, p * 3, by omega, by go_num, by go_num, by rw [HP.out, Nat.pow_succ]⟩
      case measure => simp [intOf]; omega
    · obtain rfl : k = d := by omega
      go_wp2
      go_ret
      exact ⟨ret_int (by rw [HS.out, HP.out]), rfl⟩

theorem third_step (m a b : Nat) : thirdN (m + 1) a b = (6 - a % 3 - b % 3) % 3 + 3 * thirdN m (a / 3) (b / 3) := rfl

set_option maxHeartbeats 2000000 in
theorem third_any (d a b : Nat) (w : World) (hd : d ≤ 4) (ha : a ≤ 81) (hb : b ≤ 81) : Calls Try.prog 61 #[.int .i64 d, .int .i64 a, .int .i64 b] w fun e w' => e = .returned (.int .i64 (thirdN d a b : Nat)) ∧ w = w' := by
  obtain ⟨t, ht⟩ : ∃ t, t = thirdN d a b := ⟨_, rfl⟩
  rw [← ht]
  have HT := Lib.hid ht
  clear ht
  go_enter Try.func61, Try.ntmps61
  go_wp2
  go_loop [1, 2, 7, 8, 10] (fun x y c p i => ∃ k m a' b' c' p' s : Nat, k + m = d ∧ i = .int .i64 k ∧ x = .int .i64 a' ∧ y = .int .i64 b' ∧ c = .int .i64 c' ∧ p = .int .i64 p' ∧ p' = 3 ^ k ∧ a' ≤ 81 ∧ b' ≤ 81 ∧ s = thirdN m a' b' ∧ c' + p' * s = t ∧ c' < p') (fun _ _ _ _ i => d - (intOf i).toNat)
  case atStart => exact ⟨0, d, a, b, 0, 1, _, by omega, rfl, rfl, rfl, rfl, rfl, rfl, ha, hb, rfl, by rw [HT.out]; omega, by omega⟩
  case round =>
    obtain ⟨k, m, x, y, c, p, s, hk, rfl, rfl, rfl, rfl, rfl, hp, hx, hy, hs, hc, hcp⟩ := hrel
    cases m with
    | succ m =>
      have HS : Hid (s = (6 - x % 3 - y % 3) % 3 + 3 * thirdN m (x / 3) (y / 3)) := Lib.hid (by rw [hs, third_step])
      have hp4 : (k = 0 ∧ p = 1) ∨ (k = 1 ∧ p = 3) ∨ (k = 2 ∧ p = 9) ∨ (k = 3 ∧ p = 27) := by
        rw [hp]
        rcases (show k = 0 ∨ k = 1 ∨ k = 2 ∨ k = 3 by omega) with rfl | rfl | rfl | rfl <;> simp
      have HC := Lib.hid hc
      have hlt : k < d := by omega
      have HK := Lib.hid hk
      clear hs hc hp hk
      rcases hp4 with ⟨rfl, rfl⟩ | ⟨rfl, rfl⟩ | ⟨rfl, rfl⟩ | ⟨rfl, rfl⟩
      · go_wp2
        go_round
        case rel =>
          have h1 := HS.out
          have h2 := HC.out
          have h3 := HK.out
          refine ⟨1, m, x / 3, y / 3, c + 1 * ((6 - x % 3 - y % 3) % 3), 3, thirdN m (x / 3) (y / 3), by omega, vint (by omega), vint (by omega), vint (by omega), vint (by omega), vint (by omega), rfl, by omega, by omega, rfl, ?_, by omega⟩
          generalize thirdN m (x / 3) (y / 3) = u at *
          omega
        case measure => simp [intOf]; omega
      · go_wp2
        go_round
        case rel =>
          have h1 := HS.out
          have h2 := HC.out
          have h3 := HK.out
          refine ⟨2, m, x / 3, y / 3, c + 3 * ((6 - x % 3 - y % 3) % 3), 9, thirdN m (x / 3) (y / 3), by omega, vint (by omega), vint (by omega), vint (by omega), vint (by omega), vint (by omega), rfl, by omega, by omega, rfl, ?_, by omega⟩
          generalize thirdN m (x / 3) (y / 3) = u at *
          omega
        case measure => simp [intOf]; omega
      · go_wp2
        go_round
        case rel =>
          have h1 := HS.out
          have h2 := HC.out
          have h3 := HK.out
          refine ⟨3, m, x / 3, y / 3, c + 9 * ((6 - x % 3 - y % 3) % 3), 27, thirdN m (x / 3) (y / 3), by omega, vint (by omega), vint (by omega), vint (by omega), vint (by omega), vint (by omega), rfl, by omega, by omega, rfl, ?_, by omega⟩
          generalize thirdN m (x / 3) (y / 3) = u at *
          omega
        case measure => simp [intOf]; omega
      · go_wp2
        go_round
        case rel =>
          have h1 := HS.out
          have h2 := HC.out
          have h3 := HK.out
          refine ⟨4, m, x / 3, y / 3, c + 27 * ((6 - x % 3 - y % 3) % 3), 81, thirdN m (x / 3) (y / 3), by omega, vint (by omega), vint (by omega), vint (by omega), vint (by omega), vint (by omega), rfl, by omega, by omega, rfl, ?_, by omega⟩
          generalize thirdN m (x / 3) (y / 3) = u at *
          omega
        case measure => simp [intOf]; omega
    | zero =>
      have HC : Hid (c = t) := Lib.hid (by rw [hs] at hc; rw [← hc]; show c = c + p * 0; omega)
      obtain rfl : k = d := by omega
      clear hp hs hc hk
      go_wp2
      go_ret
      exact ⟨ret_int (by rw [HC.out]), rfl⟩

theorem div_div3 (a k : Nat) : a / 3 ^ k / 3 = a / 3 ^ (k + 1) := by rw [Nat.div_div_eq_div_mul, Nat.pow_succ]
set_option maxHeartbeats 2000000 in
theorem rThird_any (d a b : Nat) (w : World) (hd : d ≤ 4) (ha : a ≤ 81) (hb : b ≤ 81) : Calls Try.prog 22 #[.int .i64 d, .int .i64 a, .int .i64 b] w fun e w' => e = .returned (.int .i64 (thirdN d a b : Nat)) ∧ ∃ n, w' = w.drewN n := by
  obtain ⟨t, ht⟩ : ∃ t, t = thirdN d a b := ⟨_, rfl⟩
  rw [← ht]
  have HT := Lib.hid ht
  clear ht
  go_enter Try.func22, Try.ntmps22
  go_wp2
  go_loopw [7, 8, 10] (fun c p i wr => ∃ k m c' p' s n : Nat, k + m = d ∧ i = .int .i64 k ∧ c = .int .i64 c' ∧ p = .int .i64 p' ∧ p' = 3 ^ k ∧ s = thirdN m (a / 3 ^ k) (b / 3 ^ k) ∧ c' + p' * s = t ∧ c' < p' ∧ wr = w.drewN n) (fun _ _ i _ => d - (intOf i).toNat)
  case atStart => exact ⟨0, d, 0, 1, _, 0, by omega, rfl, rfl, rfl, rfl, rfl, by rw [HT.out]; simp, by omega, rfl⟩
  case round =>
    obtain ⟨k, m, c, p, s, n, hk, rfl, rfl, rfl, hp, hs, hc, hcp, rfl⟩ := hrel
    cases m with
    | succ m =>
      have HS : Hid (s = (6 - (a / 3 ^ k) % 3 - (b / 3 ^ k) % 3) % 3 + 3 * thirdN m (a / 3 ^ (k + 1)) (b / 3 ^ (k + 1))) := Lib.hid (by rw [hs, third_step, div_div3, div_div3])
      have hp4 : (k = 0 ∧ p = 1) ∨ (k = 1 ∧ p = 3) ∨ (k = 2 ∧ p = 9) ∨ (k = 3 ∧ p = 27) := by
        rw [hp]
        rcases (show k = 0 ∨ k = 1 ∨ k = 2 ∨ k = 3 by omega) with rfl | rfl | rfl | rfl <;> simp
      have HC := Lib.hid hc
      have hlt : k < d := by omega
      have HK := Lib.hid hk
      clear hs hc hp hk
      rcases hp4 with ⟨rfl, rfl⟩ | ⟨rfl, rfl⟩ | ⟨rfl, rfl⟩ | ⟨rfl, rfl⟩
      · go_wp2_with fail
        go_quiet (fail)
        go_wp2
        go_roundw
        case rel =>
          have h1 := HS.out
          have h2 := HC.out
          have h3 := HK.out
          simp only [Nat.reducePow, Nat.reduceAdd] at h1
          refine ⟨1, m, c + 1 * ((6 - (a / 1) % 3 - (b / 1) % 3) % 3), 3, thirdN m (a / 3) (b / 3), _, by omega, vint (by omega), vint (by omega), vint (by omega), rfl, rfl, ?_, by omega, rfl⟩
          generalize thirdN m (a / 3) (b / 3) = u at *
          omega
        case measure => simp [intOf]; omega
      · go_wp2_with fail
        go_quiet (fail)
        go_wp2
        go_roundw
        case rel =>
          have h1 := HS.out
          have h2 := HC.out
          have h3 := HK.out
          simp only [Nat.reducePow, Nat.reduceAdd] at h1
          refine ⟨2, m, c + 3 * ((6 - (a / 3) % 3 - (b / 3) % 3) % 3), 9, thirdN m (a / 9) (b / 9), _, by omega, vint (by omega), vint (by omega), vint (by omega), rfl, rfl, ?_, by omega, rfl⟩
          generalize thirdN m (a / 9) (b / 9) = u at *
          omega
        case measure => simp [intOf]; omega
      · go_wp2_with fail
        go_quiet (fail)
        go_wp2
        go_roundw
        case rel =>
          have h1 := HS.out
          have h2 := HC.out
          have h3 := HK.out
          simp only [Nat.reducePow, Nat.reduceAdd] at h1
          refine ⟨3, m, c + 9 * ((6 - (a / 9) % 3 - (b / 9) % 3) % 3), 27, thirdN m (a / 27) (b / 27), _, by omega, vint (by omega), vint (by omega), vint (by omega), rfl, rfl, ?_, by omega, rfl⟩
          generalize thirdN m (a / 27) (b / 27) = u at *
          omega
        case measure => simp [intOf]; omega
      · go_wp2_with fail
        go_quiet (fail)
        go_wp2
        go_roundw
        case rel =>
          have h1 := HS.out
          have h2 := HC.out
          have h3 := HK.out
          simp only [Nat.reducePow, Nat.reduceAdd] at h1
          refine ⟨4, m, c + 27 * ((6 - (a / 27) % 3 - (b / 27) % 3) % 3), 81, thirdN m (a / 81) (b / 81), _, by omega, vint (by omega), vint (by omega), vint (by omega), rfl, rfl, ?_, by omega, rfl⟩
          generalize thirdN m (a / 81) (b / 81) = u at *
          omega
        case measure => simp [intOf]; omega
    | zero =>
      have HC : Hid (c = t) := Lib.hid (by rw [hs] at hc; rw [← hc]; show c = c + p * 0; omega)
      obtain rfl : k = d := by omega
      clear hp hs hc hk
      go_wp2
      go_ret
      exact ⟨ret_int (by rw [HC.out]), _, rfl⟩
end Go.Proofs.Ytlalfjkenkmojaa
