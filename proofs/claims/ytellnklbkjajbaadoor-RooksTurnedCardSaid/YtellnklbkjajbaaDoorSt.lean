/- heights of stairs: which slices they are, and all of them as a list -/
import Derived.Test.YtellnklbkjajbaaDoorBr
namespace Go.Proofs.YtellnklbkjajbaaDoor
open Go.RowKit

/-- Are these numbers heights? -/
def stepsB (xs : List Int) : Bool := decide (1 ≤ xs.length ∧ xs.length ≤ 6 ∧ ∀ k, k < xs.length → (0 ≤ xs.getD k 0 ∧ xs.getD k 0 ≤ xs.length) ∧ (0 < k → xs.getD (k - 1) 0 ≤ xs.getD k 0))
theorem stepsB_len {xs : List Int} (h : xs.length < 1 ∨ 6 < xs.length) : stepsB xs = false := decide_eq_false fun ⟨a, b, _⟩ => by omega
theorem stepsB_bad {xs : List Int} {k : Nat} (hk : k < xs.length) (h : ¬ ((0 ≤ xs.getD k 0 ∧ xs.getD k 0 ≤ xs.length) ∧ (0 < k → xs.getD (k - 1) 0 ≤ xs.getD k 0))) : stepsB xs = false :=
  decide_eq_false fun ⟨_, _, c⟩ => h (c k hk)
theorem stepsB_good {xs : List Int} (h1 : 1 ≤ xs.length) (h2 : xs.length ≤ 6) (h : ∀ k, k < xs.length → (0 ≤ xs.getD k 0 ∧ xs.getD k 0 ≤ xs.length) ∧ (0 < k → xs.getD (k - 1) 0 ≤ xs.getD k 0)) : stepsB xs = true :=
  decide_eq_true ⟨h1, h2, h⟩
theorem stepsB_take (xs : List Int) : stepsB (xs.take 9) = stepsB xs := by
  by_cases h : xs.length ≤ 9
  · rw [List.take_of_length_le h]
  · rw [stepsB_len (xs := xs) (by omega), stepsB_len (by rw [List.length_take]; omega)]

/-- Heights, as natural numbers. -/
structure Stp (n : Nat) (ls : List Nat) : Prop where
  len : ls.length = n
  pos : 1 ≤ n
  le : n ≤ 6
  lt : ∀ x ∈ ls, x ≤ n
  rise : ∀ k, k < n → 0 < k → ls.getD (k - 1) 0 ≤ ls.getD k 0
theorem stepsB_of {xs : List Int} (h : stepsB xs = true) : ∃ ls, xs = nats ls ∧ Stp xs.length ls := by
  obtain ⟨h1, h2, h3⟩ := of_decide_eq_true h
  have hx : xs = nats (xs.map Int.toNat) := by
    refine List.ext_getElem (by simp [nats]) fun k a b => ?_
    have := (h3 k a).1
    simp only [List.getD_eq_getElem?_getD, List.getElem?_eq_getElem a, Option.getD_some] at this
    simp [nats]
    omega
  refine ⟨_, hx, by simp, h1, h2, fun x hx' => ?_, fun k hk h0 => ?_⟩
  · obtain ⟨y, hy, rfl⟩ := List.mem_map.1 hx'
    obtain ⟨k, hk, rfl⟩ := mem_getD hy
    have := (h3 k hk).1
    omega
  · have := (h3 k hk).2 h0
    have e (j : Nat) : (xs.map Int.toNat).getD j 0 = (xs.getD j 0).toNat := by
      by_cases hj : j < xs.length <;> simp [hj]
    rw [e, e]
    omega
theorem stepsB_mk {n : Nat} {ls : List Nat} (h : Stp n ls) : stepsB (nats ls) = true := by
  have hl := h.len
  have hp := h.pos
  have h6 := h.le
  refine stepsB_good (by rw [nats_length]; omega) (by rw [nats_length]; omega) fun k hk => ?_
  rw [nats_length] at hk ⊢
  rw [nats_getD, nats_getD]
  have h1 := h.lt _ (natD_mem hk)
  refine ⟨by omega, fun h0 => ?_⟩
  have := h.rise k (by omega) h0
  omega

/-- All rising slices of m numbers from lo to hi. -/
def hts (hi : Nat) : Nat → Nat → List (List Nat)
  | 0, _ => [[]]
  | m + 1, lo => (List.range (hi + 1 - lo)).flatMap fun d => (hts hi m (lo + d)).map fun l => (lo + d) :: l
theorem mem_hts (hi : Nat) : ∀ (l : List Nat) (lo : Nat), (∀ k, k < l.length → lo ≤ l.getD k 0 ∧ l.getD k 0 ≤ hi) → (∀ k, k < l.length → 0 < k → l.getD (k - 1) 0 ≤ l.getD k 0) → l ∈ hts hi l.length lo
  | [], lo, _, _ => by simp [hts]
  | x :: l, lo, h1, h2 => by
    rw [List.length_cons, hts, List.mem_flatMap]
    have hx := h1 0 (by simp)
    simp only [List.getD_cons_zero] at hx
    refine ⟨x - lo, List.mem_range.2 (by omega), List.mem_map.2 ⟨l, ?_, by rw [show lo + (x - lo) = x by omega]⟩⟩
    rw [show lo + (x - lo) = x by omega]
    have mono : ∀ k, k < l.length → x ≤ l.getD k 0 := by
      intro k
      induction k with
      | zero => intro hk; have := h2 1 (by simp; omega) (by omega); simpa using this
      | succ k ih =>
        intro hk
        have a := ih (by omega)
        have b := h2 (k + 2) (by simp; omega) (by omega)
        simp only [show k + 2 - 1 = k + 1 by omega, List.getD_cons_succ] at b
        omega
    refine mem_hts hi l x (fun k hk => ⟨mono k hk, ?_⟩) (fun k hk h0 => ?_)
    · have := (h1 (k + 1) (by simp; omega)).2
      simpa using this
    · have := h2 (k + 1) (by simp; omega) (by omega)
      obtain ⟨m, rfl⟩ : ∃ m, k = m + 1 := ⟨k - 1, by omega⟩
      simpa using this
theorem Stp.mem {n : Nat} {ls : List Nat} (h : Stp n ls) : ls ∈ hts n n 0 := by
  have hl := h.len
  have := mem_hts n ls 0 (fun k hk => ⟨Nat.zero_le _, h.lt _ (natD_mem hk)⟩) (fun k hk h0 => h.rise k (by omega) h0)
  rwa [hl] at this
end Go.Proofs.YtellnklbkjajbaaDoor
