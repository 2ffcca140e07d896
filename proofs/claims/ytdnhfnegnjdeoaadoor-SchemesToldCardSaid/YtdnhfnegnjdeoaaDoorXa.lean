/- root, isTwoSquares, part, tooFar, tooFew, isHalf: what they answer -/
import Derived.Test.YtdnhfnegnjdeoaaDoorNs
namespace Go.Proofs.YtdnhfnegnjdeoaaDoor
open Go.RowKit

theorem root_one {x : Int} {r d : Nat} (h1 : ¬ (r:Int) * (r:Int) < x) (h2 : ∀ j : Nat, j < r → (j:Int) * (j:Int) < x) (hd : (d:Int) * (d:Int) = x) : d = r := by
  rcases Nat.lt_trichotomy d r with h | h | h
  · have := h2 d h; omega
  · exact h
  · exfalso
    have h3 : r * r < d * d := Nat.mul_self_lt_mul_self h
    have h4 : ((r * r : Nat) : Int) = (r:Int) * (r:Int) := Int.natCast_mul ..
    have h5 : ((d * d : Nat) : Int) = (d:Int) * (d:Int) := Int.natCast_mul ..
    omega
set_option maxHeartbeats 1000000 in
theorem root_exact (x : Int) (w : World) (hx : x ≤ 100000) :
    Calls Tryd.prog 93 #[.int .i64 x] w fun e w' => (∃ r : Nat, e = .returned (.tuple #[.int .i64 r, .bool ((r:Int) * (r:Int) == x)]) ∧ r ≤ 317 ∧ ∀ d : Nat, (d:Int) * (d:Int) = x → d = r) ∧ w = w' := by
  go_enter Tryd.func93, Tryd.ntmps93
  go_wp2
  go_loop [4] (fun i => ∃ r : Nat, r ≤ 317 ∧ i = .int .i64 r ∧ Hid (∀ j : Nat, j < r → (j:Int) * (j:Int) < x)) (fun i => 400 - (intOf i).toNat)
  case atStart => exact ⟨0, Nat.zero_le _, rfl, Lib.hid fun j hj => absurd hj (Nat.not_lt_zero j)⟩
  case round =>
    obtain ⟨r, hr, rfl, HJ⟩ := hrel
    have hb1 : (r:Int) * (r:Int) ≤ 317 * 317 := Int.mul_le_mul (by omega) (by omega) (by omega) (by omega)
    have hb0 : 0 ≤ (r:Int) * (r:Int) := Int.mul_nonneg (by omega) (by omega)
    by_cases hlt : (r:Int) * (r:Int) < x
    · have h3 := sq_small hx hlt
      have HJ2 : Hid (∀ j : Nat, j < r + 1 → (j:Int) * (j:Int) < x) := Lib.hid fun j hj => by
        by_cases e : j = r
        · subst e; exact hlt
        · exact HJ.out j (by omega)
      go_wp2
      go_round
      case rel => exact ⟨r + 1, by omega, by go_num, HJ2⟩
      case measure => simp [intOf]; omega
    · have HU : Hid (∀ d : Nat, (d:Int) * (d:Int) = x → d = r) := Lib.hid fun d hd => root_one hlt HJ.out hd
      go_wp2
      go_ret2
      exact ⟨⟨r, rfl, hr, HU.out⟩, rfl⟩

/-- Whether a number is a sum of two squares. -/
def twoB (x : Int) : Bool := (List.range 11).any fun a => (List.range 11).any fun b => decide ((a:Int) * (a:Int) + (b:Int) * (b:Int) = x)
theorem twoB_true {x : Int} {a b : Nat} (ha : a < 11) (hb : b < 11) (h : (a:Int) * (a:Int) + (b:Int) * (b:Int) = x) : twoB x = true :=
  List.any_eq_true.2 ⟨a, List.mem_range.2 ha, List.any_eq_true.2 ⟨b, List.mem_range.2 hb, decide_eq_true h⟩⟩
theorem twoB_false {x : Int} (h : ∀ a b : Nat, a < 11 → b < 11 → (a:Int) * (a:Int) + (b:Int) * (b:Int) ≠ x) : twoB x = false := by
  cases e : twoB x with
  | false => rfl
  | true =>
    obtain ⟨a, ha, h2⟩ := List.any_eq_true.1 e
    obtain ⟨b, hb, h3⟩ := List.any_eq_true.1 h2
    exact absurd (of_decide_eq_true h3) (h a b (List.mem_range.1 ha) (List.mem_range.1 hb))
theorem sq_lt11 {r : Nat} (h : (r:Int) * (r:Int) ≤ 100) : r ≤ 10 := by
  by_cases e : r ≤ 10
  · exact e
  · exfalso
    have : (11:Int) * 11 ≤ (r:Int) * (r:Int) := Int.mul_le_mul (by omega) (by omega) (by omega) (by omega)
    omega

set_option maxHeartbeats 1000000 in
theorem two_exact (x : Int) (w : World) (h0 : 4 ≤ x) (hx : x ≤ 100) :
    Calls Tryd.prog 107 #[.int .i64 x] w fun e w' => e = .returned (.bool (twoB x)) ∧ w = w' := by
  have HR := Lib.hid (fun z w (hz : z ≤ 100000) => root_exact z w hz)
  go_enter Tryd.func107, Tryd.ntmps107
  go_wp2
  go_loop [3] (fun i => ∃ r : Nat, r ≤ 11 ∧ i = .int .i64 r ∧ Hid (∀ a b : Nat, a < r → b < 11 → (a:Int) * (a:Int) + (b:Int) * (b:Int) ≠ x)) (fun i => 40 - (intOf i).toNat)
  case atStart => exact ⟨0, Nat.zero_le _, rfl, Lib.hid fun a b ha _ => absurd ha (Nat.not_lt_zero a)⟩
  case round =>
    obtain ⟨r, hr, rfl, HJ⟩ := hrel
    have hb1 : (r:Int) * (r:Int) ≤ 11 * 11 := Int.mul_le_mul (by omega) (by omega) (by omega) (by omega)
    have hb0 : 0 ≤ (r:Int) * (r:Int) := Int.mul_nonneg (by omega) (by omega)
    by_cases hlt : (r:Int) * (r:Int) ≤ x
    · have h3 : r ≤ 10 := sq_lt11 (by omega)
      have HC := Lib.hid (HR.out (x - (r:Int) * (r:Int)) w (by omega))
      go_wp2_with fail
      refine HC.out.mono ?_
      rintro e w' ⟨⟨d, rfl, hd, hu⟩, rfl⟩
      have HU := Lib.hid hu
      clear hu
      by_cases hdd : (d:Int) * (d:Int) = x - (r:Int) * (r:Int)
      · have hb : ((d:Int) * (d:Int) == x - (r:Int) * (r:Int)) = true := by simp [hdd]
        have HT : Hid (twoB x = true) := Lib.hid (twoB_true (a := r) (b := d) (by omega) (by have := sq_lt11 (r := d) (by omega); omega) (by omega))
        clear hdd
        rw [hb]
        go_wp2
        go_ret
        exact ⟨ret_bool HT.out.symm, rfl⟩
      · have hb : ((d:Int) * (d:Int) == x - (r:Int) * (r:Int)) = false := by simp [hdd]
        have HJ2 : Hid (∀ a b : Nat, a < r + 1 → b < 11 → (a:Int) * (a:Int) + (b:Int) * (b:Int) ≠ x) := Lib.hid fun a b ha hb e => by
          by_cases e2 : a = r
          · subst e2
            have := HU.out b (by omega)
            subst this
            omega
          · exact HJ.out a b (by omega) hb e
        clear hdd
        rw [hb]
        go_wp2
        go_round
        case rel => exact ⟨r + 1, by omega, by go_num, HJ2⟩
        case measure => simp [intOf]; omega
    · have HT : Hid (twoB x = false) := Lib.hid (twoB_false fun a b ha hb e => by
        by_cases e2 : a < r
        · exact HJ.out a b e2 hb e
        · have h5 : (r:Int) * (r:Int) ≤ (a:Int) * (a:Int) := Int.mul_le_mul (by omega) (by omega) (by omega) (by omega)
          have h6 : 0 ≤ (b:Int) * (b:Int) := Int.mul_nonneg (by omega) (by omega)
          omega)
      go_wp2
      go_ret
      exact ⟨ret_bool HT.out.symm, rfl⟩

def farB (k a b : Int) : Bool := decide ((a + 1) * (k + a + 2 * a * b) > (k + a) * (b + 1) * (b + 1))
def fewB (n f : Int) : Bool := decide (2 * n > f * (f + 3))
theorem far_bd {k a b : Int} (hk : 0 ≤ k ∧ k ≤ 100) (ha : -100 ≤ a ∧ a ≤ 100) (hb : -100 ≤ b ∧ b ≤ 100) :
    (-20000 ≤ 2 * a * b ∧ 2 * a * b ≤ 20000) ∧ (-10000000 ≤ (a + 1) * (k + a + 2 * a * b) ∧ (a + 1) * (k + a + 2 * a * b) ≤ 10000000) ∧
    (-30000 ≤ (k + a) * (b + 1) ∧ (k + a) * (b + 1) ≤ 30000) ∧ (-4000000 ≤ (k + a) * (b + 1) * (b + 1) ∧ (k + a) * (b + 1) * (b + 1) ≤ 4000000) := by
  have h1 := mul_bd (x := 2 * a) (y := b) (A := 200) (B := 100) (by omega) (by omega)
  have h2 := mul_bd (x := a + 1) (y := k + a + 2 * a * b) (A := 101) (B := 20200) (by omega) (by omega)
  have h3 := mul_bd (x := k + a) (y := b + 1) (A := 200) (B := 101) (by omega) (by omega)
  have h4 := mul_bd (x := (k + a) * (b + 1)) (y := b + 1) (A := 20200) (B := 101) (by omega) (by omega)
  omega
set_option maxHeartbeats 1000000 in
theorem far_exact (k a b : Int) (w : World) (hk : 0 ≤ k ∧ k ≤ 100) (ha : -100 ≤ a ∧ a ≤ 100) (hb : -100 ≤ b ∧ b ≤ 100) :
    Calls Tryd.prog 96 #[.int .i64 k, .int .i64 a, .int .i64 b] w fun e w' => e = .returned (.bool (farB k a b)) ∧ w = w' := by
  have h := far_bd hk ha hb
  have HE : Hid (farB k a b = decide ((a + 1) * (k + a + 2 * a * b) > (k + a) * (b + 1) * (b + 1))) := Lib.hid rfl
  go_enter Tryd.func96, Tryd.ntmps96
  go_wp2
  go_ret
  exact ⟨ret_bool HE.out.symm, rfl⟩
set_option maxHeartbeats 1000000 in
theorem few_exact (n f : Int) (w : World) (hn : 0 ≤ n ∧ n ≤ 100) (hf : -200 ≤ f ∧ f ≤ 200) :
    Calls Tryd.prog 97 #[.int .i64 n, .int .i64 f] w fun e w' => e = .returned (.bool (fewB n f)) ∧ w = w' := by
  have h := mul_bd (x := f) (y := f + 3) (A := 200) (B := 203) (by omega) (by omega)
  have HE : Hid (fewB n f = decide (2 * n > f * (f + 3))) := Lib.hid rfl
  go_enter Tryd.func97, Tryd.ntmps97
  go_wp2
  go_ret
  exact ⟨ret_bool HE.out.symm, rfl⟩

def partZ (N K M : Int) : Int := if M = 0 then K + 1 else N - K
set_option maxHeartbeats 1000000 in
theorem part_exact (N K L M : Int) (w : World) (h1 : 1 ≤ K) (h2 : K ≤ N - 2) (h3 : N ≤ 100) :
    Calls Tryd.prog 94 #[num4 N K L M] w fun e w' => e = .returned (.int .i64 (partZ N K M)) ∧ Below w.heap.size w w' := by
  have hQ := Q4.new w 24 N K L M
  have q0 := hQ.c0
  have q1 := hQ.c1
  have q2 := hQ.c2
  have q3 := hQ.c3
  have HB := Lib.hid ((Below.refl w.heap.size w).alloc (Nat.le_refl _) (.cells #[.int .i64 N, .int .i64 K, .int .i64 L, .int .i64 M] 24))
  unfold num4
  clear hQ
  by_cases hm : M = 0
  · have HE : Hid (partZ N K M = K + 1) := Lib.hid (if_pos hm)
    subst hm
    go_enter Tryd.func94, Tryd.ntmps94
    go_wp2
    go_ret
    exact ⟨ret_int HE.out.symm, HB.out⟩
  · have HE : Hid (partZ N K M = N - K) := Lib.hid (if_neg hm)
    have hm' : (M == 0) = false := by simp [hm]
    go_enter Tryd.func94, Tryd.ntmps94
    go_wp2
    go_ret
    exact ⟨ret_int HE.out.symm, HB.out⟩

def halfB (N K L M : Int) : Bool := decide (2 * K + (N - 1) * (L - M) = 0) && twoB N
set_option maxHeartbeats 1000000 in
theorem half_exact (N K L M : Int) (w : World) (h0 : 4 ≤ N) (h1 : 1 ≤ K) (h2 : K ≤ N - 2) (h3 : N ≤ 100) (h4 : 0 ≤ L) (h5 : L < K) (h6 : 0 ≤ M) (h7 : M ≤ K) :
    Calls Tryd.prog 95 #[num4 N K L M] w fun e w' => e = .returned (.bool (halfB N K L M)) ∧ Below w.heap.size w w' := by
  have hQ := Q4.new w 24 N K L M
  have q0 := hQ.c0
  have q1 := hQ.c1
  have q2 := hQ.c2
  have q3 := hQ.c3
  have HB := Lib.hid ((Below.refl w.heap.size w).alloc (Nat.le_refl _) (.cells #[.int .i64 N, .int .i64 K, .int .i64 L, .int .i64 M] 24))
  have HT := Lib.hid (fun w => two_exact N w h0 h3)
  have hb := mul_bd (x := N - 1) (y := L - M) (A := 100) (B := 100) (by omega) (by omega)
  unfold num4
  clear hQ
  by_cases ht : 2 * K + (N - 1) * (L - M) = 0
  · have ht' : (2 * K + (N - 1) * (L - M) == 0) = true := by simp [ht]
    have HE : Hid (halfB N K L M = twoB N) := Lib.hid (by unfold halfB; rw [decide_eq_true ht, Bool.true_and])
    clear ht
    generalize twoB N = tb at *
    go_enter Tryd.func95, Tryd.ntmps95
    go_wp2_with fail
    refine (HT.out _).mono ?_
    rintro e w' ⟨rfl, rfl⟩
    go_wp2
    go_ret
    exact ⟨ret_bool HE.out.symm, HB.out⟩
  · have ht' : (2 * K + (N - 1) * (L - M) == 0) = false := by simp [ht]
    have HE : Hid (halfB N K L M = false) := Lib.hid (by unfold halfB; rw [decide_eq_false ht, Bool.false_and])
    clear ht
    go_enter Tryd.func95, Tryd.ntmps95
    go_wp2
    go_ret
    exact ⟨ret_bool HE.out.symm, HB.out⟩
end Go.Proofs.YtdnhfnegnjdeoaaDoor
