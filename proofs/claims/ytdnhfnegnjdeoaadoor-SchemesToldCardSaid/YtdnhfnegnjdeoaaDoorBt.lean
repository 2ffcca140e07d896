/- Pure: bits of numbers below 65536; the elements of a set, rising; the lowest of them. -/
import Derived.Lib.TrailingZeros
namespace Go.Proofs.YtdnhfnegnjdeoaaDoor

/-- The elements of a set of numbers below 16, rising. -/
def elems (x : Nat) : List Nat := (List.range 16).filter fun j => x.testBit j
theorem elems_mem {x j : Nat} (h : j ∈ elems x) : j < 16 ∧ x.testBit j = true := by
  have := List.mem_filter.1 h
  exact ⟨List.mem_range.1 this.1, this.2⟩
theorem elems_iff {x j : Nat} : j ∈ elems x ↔ j < 16 ∧ x.testBit j = true := ⟨elems_mem, fun h => List.mem_filter.2 ⟨List.mem_range.2 h.1, h.2⟩⟩
theorem elems_zero : elems 0 = [] := by simp [elems]
theorem elems_length (x : Nat) : (elems x).length ≤ 16 := by
  have := List.length_filter_le (fun j => x.testBit j) (List.range 16)
  simpa [elems] using this

theorem low_bits (k m : Nat) : (2 ^ k * (2 * m + 1)).testBit k = true ∧ (∀ j, j < k → (2 ^ k * (2 * m + 1)).testBit j = false) ∧
    ∀ j, ((2 ^ k * (2 * m + 1)) &&& (2 ^ k * (2 * m + 1) - 1)).testBit j = ((2 ^ k * (2 * m + 1)).testBit j && decide (j ≠ k)) := by
  have hx : ∀ j, (2 ^ k * (2 * m + 1)).testBit j = if j < k then false else (2 * m + 1).testBit (j - k) := by
    intro j
    have := Nat.testBit_two_pow_mul_add (2 * m + 1) (b := 0) (i := k) (Nat.two_pow_pos k) j
    rw [Nat.add_zero, Nat.zero_testBit] at this
    exact this
  have hp := Nat.two_pow_pos k
  have e : 2 ^ k * (2 * m + 1) - 1 = 2 ^ k * (2 * m) + (2 ^ k - 1) := by
    rw [Nat.mul_add, Nat.mul_one]; omega
  have hy : ∀ j, (2 ^ k * (2 * m + 1) - 1).testBit j = if j < k then (2 ^ k - 1).testBit j else (2 * m).testBit (j - k) := by
    intro j
    rw [e]
    exact Nat.testBit_two_pow_mul_add (2 * m) (b := 2 ^ k - 1) (i := k) (by omega) j
  refine ⟨?_, ?_, ?_⟩
  · rw [hx]; simp
  · intro j hj; rw [hx, if_pos hj]
  · intro j
    rw [Nat.testBit_and, hx, hy]
    by_cases h : j < k
    · simp [h]
    · simp only [h, if_false]
      obtain ⟨i, rfl⟩ : ∃ i, j = k + i := ⟨j - k, by omega⟩
      rw [Nat.add_sub_cancel_left]
      cases i with
      | zero => simp
      | succ i =>
        have h1 : (2 * m + 1) / 2 = m := by omega
        have h2 : (2 * m) / 2 = m := by omega
        rw [Nat.testBit_succ, Nat.testBit_succ, h1, h2]
        simp

theorem low_facts (x : Nat) (h0 : x ≠ 0) (h : x < 65536) : x.testBit (Lib.ctz 64 x) = true ∧ (∀ j, j < Lib.ctz 64 x → x.testBit j = false) ∧
    ∀ j, (x &&& (x - 1)).testBit j = (x.testBit j && decide (j ≠ Lib.ctz 64 x)) := by
  have hc : Lib.ctz 64 x = Lib.ctzFrom 64 x := by unfold Lib.ctz; rw [if_neg h0]
  obtain ⟨m, hm, _⟩ := Lib.ctzFrom_spec 64 x (by omega) (by omega)
  rw [hc]
  have := low_bits (Lib.ctzFrom 64 x) m
  rw [← hm] at this
  exact this

theorem filter_low {p q : Nat → Bool} {k : Nat} (hp : p k = true) (hlo : ∀ j, j < k → p j = false) (hq : ∀ j, q j = (p j && decide (j ≠ k))) :
    ∀ n, k < n → (List.range n).filter p = k :: (List.range n).filter q := by
  intro n
  induction n with
  | zero => intro h; omega
  | succ n ih =>
    intro h
    rw [List.range_succ, List.filter_append, List.filter_append]
    by_cases e : n = k
    · subst e
      have h1 : (List.range n).filter p = [] := List.filter_eq_nil_iff.2 fun j hj => by rw [hlo j (List.mem_range.1 hj)]; simp
      have h2 : (List.range n).filter q = [] := List.filter_eq_nil_iff.2 fun j hj => by rw [hq, hlo j (List.mem_range.1 hj)]; simp
      rw [h1, h2]
      simp [hp, hq]
    · rw [ih (by omega)]
      have : q n = p n := by rw [hq]; simp [e]
      simp only [List.filter_cons, List.filter_nil, this, List.cons_append]
theorem ctz_bit (x : Nat) (hx : x < 65536) (h0 : x ≠ 0) : x.testBit (Lib.ctz 64 x) = true ∧ Lib.ctz 64 x < 16 := by
  have h := (low_facts x h0 hx).1
  refine ⟨h, ?_⟩
  refine Nat.lt_of_not_le fun hk => ?_
  rw [Nat.testBit_lt_two_pow (Nat.lt_of_lt_of_le (show x < 2 ^ 16 from hx) (Nat.pow_le_pow_right (by decide) hk))] at h
  cases h
theorem elems_step (x : Nat) (hx : x < 65536) (h0 : x ≠ 0) : elems x = Lib.ctz 64 x :: elems (x &&& (x - 1)) := by
  obtain ⟨h1, h2, h3⟩ := low_facts x h0 hx
  exact filter_low h1 h2 (fun j => h3 j) 16 (ctz_bit x hx h0).2
end Go.Proofs.YtdnhfnegnjdeoaaDoor
