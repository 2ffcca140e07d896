/- root, isTwoSquares, part, tooFar, tooFew, isHalf: that they end -/
import Derived.Test.YtdnhfnegnjdeoaaDoorAw
namespace Go.Proofs.YtdnhfnegnjdeoaaDoor
open Go.RowKit

/-- A call ends with a bool. -/
def EB (e : Ending) : Prop := ∃ b, e = .returned (.bool b)
theorem EB.mk (b : Bool) : EB (.returned (.bool b)) := ⟨b, rfl⟩
theorem sq_small {r : Nat} {x : Int} (hx : x ≤ 100000) (h : (r:Int) * (r:Int) < x) : r ≤ 316 := by
  by_cases e : r ≤ 316
  · exact e
  · exfalso
    have h1 : 317 * 317 ≤ r * r := Nat.mul_le_mul (by omega) (by omega)
    have h2 : ((r * r : Nat) : Int) = (r:Int) * (r:Int) := Int.natCast_mul ..
    omega

set_option maxHeartbeats 1000000 in
theorem root_any (x : Int) (w : World) (hx : x ≤ 100000) :
    Calls Tryd.prog 93 #[.int .i64 x] w fun e w' => (∃ r : Nat, e = .returned (.tuple #[.int .i64 r, .bool ((r:Int) * (r:Int) == x)]) ∧ r ≤ 317) ∧ w = w' := by
  go_enter Tryd.func93, Tryd.ntmps93
  go_wp2
  go_loop [4] (fun i => ∃ r : Nat, r ≤ 317 ∧ i = .int .i64 r) (fun i => 400 - (intOf i).toNat)
  case atStart => exact ⟨0, Nat.zero_le _, rfl⟩
  case round =>
    obtain ⟨r, hr, rfl⟩ := hrel
    have hb1 : (r:Int) * (r:Int) ≤ 317 * 317 := Int.mul_le_mul (by omega) (by omega) (by omega) (by omega)
    have hb0 : 0 ≤ (r:Int) * (r:Int) := Int.mul_nonneg (by omega) (by omega)
    by_cases hlt : (r:Int) * (r:Int) < x
    · have h3 := sq_small hx hlt
      go_wp2
      go_round
      case rel => exact ⟨r + 1, by omega, by go_num⟩
      case measure => simp [intOf]; omega
    · go_wp2
      go_ret2
      exact ⟨⟨r, rfl, hr⟩, rfl⟩

set_option maxHeartbeats 1000000 in
theorem two_any (x : Int) (w : World) (h0 : 4 ≤ x) (hx : x ≤ 100) :
    Calls Tryd.prog 107 #[.int .i64 x] w fun e w' => EB e ∧ w = w' := by
  have HR := Lib.hid (fun z w (hz : z ≤ 100000) => root_any z w hz)
  go_enter Tryd.func107, Tryd.ntmps107
  go_wp2
  go_loop [3] (fun i => ∃ r : Nat, r ≤ 11 ∧ i = .int .i64 r) (fun i => 40 - (intOf i).toNat)
  case atStart => exact ⟨0, Nat.zero_le _, rfl⟩
  case round =>
    obtain ⟨r, hr, rfl⟩ := hrel
    have hb1 : (r:Int) * (r:Int) ≤ 11 * 11 := Int.mul_le_mul (by omega) (by omega) (by omega) (by omega)
    have hb0 : 0 ≤ (r:Int) * (r:Int) := Int.mul_nonneg (by omega) (by omega)
    by_cases hlt : (r:Int) * (r:Int) ≤ x
    · have h3 : r ≤ 10 := by
        by_cases e : r ≤ 10
        · exact e
        · exfalso
          have : (11:Int) * 11 ≤ (r:Int) * (r:Int) := Int.mul_le_mul (by omega) (by omega) (by omega) (by omega)
          omega
      have HC := Lib.hid (HR.out (x - (r:Int) * (r:Int)) w (by omega))
      go_wp2_with fail
      refine HC.out.mono ?_
      rintro e w' ⟨⟨d, rfl, hd⟩, rfl⟩
      generalize ((d:Int) * (d:Int) == x - (r:Int) * (r:Int)) = bb at *
      cases bb
      · go_wp2
        go_round
        case rel => exact ⟨r + 1, by omega, by go_num⟩
        case measure => simp [intOf]; omega
      · go_wp2
        go_ret
        exact ⟨EB.mk _, rfl⟩
    · go_wp2
      go_ret
      exact ⟨EB.mk _, rfl⟩

set_option maxHeartbeats 1000000 in
theorem far_any (k a b : Int) (w : World) :
    Calls Tryd.prog 96 #[.int .i64 k, .int .i64 a, .int .i64 b] w fun e w' => EB e ∧ w = w' := by
  go_enter Tryd.func96, Tryd.ntmps96
  go_wp2
  go_ret
  exact ⟨EB.mk _, rfl⟩
set_option maxHeartbeats 1000000 in
theorem few_any (n f : Int) (w : World) :
    Calls Tryd.prog 97 #[.int .i64 n, .int .i64 f] w fun e w' => EB e ∧ w = w' := by
  go_enter Tryd.func97, Tryd.ntmps97
  go_wp2
  go_ret
  exact ⟨EB.mk _, rfl⟩

set_option maxHeartbeats 1000000 in
theorem part_any (N K L M : Int) (w : World) (h1 : 1 ≤ K) (h2 : K ≤ N - 2) (h3 : N ≤ 100) :
    Calls Tryd.prog 94 #[num4 N K L M] w fun e w' => (∃ p : Int, e = .returned (.int .i64 p) ∧ 1 ≤ p) ∧ Below w.heap.size w w' := by
  have hQ := Q4.new w 24 N K L M
  have q0 := hQ.c0
  have q1 := hQ.c1
  have q2 := hQ.c2
  have q3 := hQ.c3
  have HB := Lib.hid ((Below.refl w.heap.size w).alloc (Nat.le_refl _) (.cells #[.int .i64 N, .int .i64 K, .int .i64 L, .int .i64 M] 24))
  unfold num4
  clear hQ
  by_cases hm : M = 0
  · subst hm
    go_enter Tryd.func94, Tryd.ntmps94
    go_wp2
    go_ret
    exact ⟨⟨K + 1, rfl, by omega⟩, HB.out⟩
  · have hm' : (M == 0) = false := by simp [hm]
    go_enter Tryd.func94, Tryd.ntmps94
    go_wp2
    go_ret
    exact ⟨⟨N - K, rfl, by omega⟩, HB.out⟩

theorem mul_bd {x y A B : Int} (hx : -A ≤ x ∧ x ≤ A) (hy : -B ≤ y ∧ y ≤ B) : -(A * B) ≤ x * y ∧ x * y ≤ A * B := by
  have h1 : 0 ≤ (A - x) * (B + y) := Int.mul_nonneg (by omega) (by omega)
  have h2 : 0 ≤ (A + x) * (B - y) := Int.mul_nonneg (by omega) (by omega)
  have h3 : 0 ≤ (A - x) * (B - y) := Int.mul_nonneg (by omega) (by omega)
  have h4 : 0 ≤ (A + x) * (B + y) := Int.mul_nonneg (by omega) (by omega)
  constructor <;> grind

set_option maxHeartbeats 1000000 in
theorem half_any (N K L M : Int) (w : World) (h0 : 4 ≤ N) (h1 : 1 ≤ K) (h2 : K ≤ N - 2) (h3 : N ≤ 100) (h4 : 0 ≤ L) (h5 : L < K) (h6 : 0 ≤ M) (h7 : M ≤ K) :
    Calls Tryd.prog 95 #[num4 N K L M] w fun e w' => EB e ∧ Below w.heap.size w w' := by
  have hQ := Q4.new w 24 N K L M
  have q0 := hQ.c0
  have q1 := hQ.c1
  have q2 := hQ.c2
  have q3 := hQ.c3
  have HB := Lib.hid ((Below.refl w.heap.size w).alloc (Nat.le_refl _) (.cells #[.int .i64 N, .int .i64 K, .int .i64 L, .int .i64 M] 24))
  have HT := Lib.hid (fun w => two_any N w h0 h3)
  have hb := mul_bd (x := N - 1) (y := L - M) (A := 100) (B := 100) (by omega) (by omega)
  unfold num4
  clear hQ
  by_cases ht : 2 * K + (N - 1) * (L - M) = 0
  · have ht' : (2 * K + (N - 1) * (L - M) == 0) = true := by simp [ht]
    clear ht
    go_enter Tryd.func95, Tryd.ntmps95
    go_wp2_with fail
    refine (HT.out _).mono ?_
    rintro e w' ⟨⟨b, rfl⟩, rfl⟩
    go_wp2
    go_ret
    exact ⟨EB.mk _, HB.out⟩
  · have ht' : (2 * K + (N - 1) * (L - M) == 0) = false := by simp [ht]
    clear ht
    go_enter Tryd.func95, Tryd.ntmps95
    go_wp2
    go_ret
    exact ⟨EB.mk _, HB.out⟩
end Go.Proofs.YtdnhfnegnjdeoaaDoor
