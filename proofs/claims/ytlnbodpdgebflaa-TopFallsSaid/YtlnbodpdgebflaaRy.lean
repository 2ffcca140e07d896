/- TopFalls: what its numbers are -/
import Derived.Test.YtlnbodpdgebflaaRb
namespace Go.Proofs.Ytlnbodpdgebflaa
open Go.RowKit

/-- The content that a set cuts. -/
def cuL (S : Nat) : Nat → List Nat
  | 0 => [1]
  | k + 1 => let c := if S.testBit k then cuL S k ++ [0] else cuL S k
    c.set (c.length - 1) (c.getD (c.length - 1) 0 + 1)
def kN (c l : List Nat) : Nat := (fillS (nats l) (nats c)).length
def sfK (c : List Nat) (L : List (List Nat)) (k : Nat) : Nat := ((L.take k).map fun l => kN c l * stN l).sum
theorem sfK_succ {c : List Nat} {L : List (List Nat)} {k : Nat} {l : List Nat} (h : L[k]? = some l) : sfK c L (k + 1) = sfK c L k + kN c l * stN l := by
  unfold sfK; rw [List.take_add_one, h]; simp
def flQ (g S x : Nat) : Bool := (flS g x (kM g) ^^^ (flS g x (kM g) &&& S)) == 0
def fcK (g S k : Nat) : Nat := ((List.range k).filter (flQ g S)).length
theorem fcK_succ (g S k : Nat) : fcK g S (k + 1) = if flQ g S k = true then fcK g S k + 1 else fcK g S k := by
  unfold fcK
  rw [List.range_succ, List.filter_append, List.length_append]
  by_cases h : flQ g S k = true <;> simp [List.filter, h]
theorem fcK_le (g S k : Nat) : fcK g S k ≤ k := by
  have := List.length_filter_le (flQ g S) (List.range k)
  rw [List.length_range] at this
  exact this
def fcChk (g S : Nat) : Bool :=
  (shR g).all (fun l => decide (kN (cuL S (g + 1)) l ≤ 1000)) && coB (nats (cuL S (g + 1))) &&
  (List.range ((shR g).length + 1)).all (fun k => decide (sfK (cuL S (g + 1)) (shR g) k ≤ 1000)) &&
  (sfK (cuL S (g + 1)) (shR g) (shR g).length == fcK g S (nE g)) &&
  (List.range (g + 2)).all fun k => decide (1 ≤ (cuL S k).length) && decide ((cuL S k).length ≤ k + 1) && (cuL S k).all fun x => decide (x ≤ 8)
theorem fc0 : ((List.range 2).all fun S => fcChk 0 S) = true := by decide +kernel
theorem fc1 : ((List.range 4).all fun S => fcChk 1 S) = true := by decide +kernel
theorem fc2 : ((List.range 8).all fun S => fcChk 2 S) = true := by decide +kernel
theorem fc3 : ((List.range 16).all fun S => fcChk 3 S) = true := by decide +kernel
theorem fc_all {g S : Nat} (hg : g < 4) (hS : S < 2 ^ (g + 1)) : fcChk g S = true := by
  rcases (show g = 0 ∨ g = 1 ∨ g = 2 ∨ g = 3 by omega) with rfl | rfl | rfl | rfl
  · exact List.all_eq_true.1 fc0 S (List.mem_range.2 hS)
  · exact List.all_eq_true.1 fc1 S (List.mem_range.2 hS)
  · exact List.all_eq_true.1 fc2 S (List.mem_range.2 hS)
  · exact List.all_eq_true.1 fc3 S (List.mem_range.2 hS)
theorem fc_facts {g S : Nat} (hg : g < 4) (hS : S < 2 ^ (g + 1)) : (∀ l ∈ shR g, kN (cuL S (g + 1)) l ≤ 1000) ∧ coB (nats (cuL S (g + 1))) = true ∧
    (∀ k, k ≤ (shR g).length → sfK (cuL S (g + 1)) (shR g) k ≤ 1000) ∧ sfK (cuL S (g + 1)) (shR g) (shR g).length = fcK g S (nE g) ∧
    (∀ k, k ≤ g + 1 → 1 ≤ (cuL S k).length ∧ (cuL S k).length ≤ k + 1 ∧ ∀ x ∈ cuL S k, x ≤ 8) := by
  have h := fc_all hg hS
  unfold fcChk at h
  simp only [Bool.and_eq_true, beq_iff_eq] at h
  obtain ⟨⟨⟨⟨h1, h2⟩, h3⟩, h4⟩, h5⟩ := h
  refine ⟨fun l hl => by simpa using List.all_eq_true.1 h1 l hl, h2, fun k hk => ?_, h4, fun k hk => ?_⟩
  · simpa using List.all_eq_true.1 h3 k (List.mem_range.2 (by omega))
  · have := List.all_eq_true.1 h5 k (List.mem_range.2 (by omega))
    simp only [Bool.and_eq_true, decide_eq_true_eq] at this
    exact ⟨this.1.1, this.1.2, fun x hx => by simpa using List.all_eq_true.1 this.2 x hx⟩
end Go.Proofs.Ytlnbodpdgebflaa
