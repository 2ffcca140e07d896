/- the mathematics of a spectrum -/
import Derived.Test.YtdnhfnegnjdeoaaDoorNr
import Derived.Test.YtdnhfnegnjdeoaaDoorNa
namespace Go.Proofs.YtdnhfnegnjdeoaaDoor
open Go.RowKit

structure AskN (N K L M : Int) : Prop where
  n4 : 4 ≤ N
  n100 : N ≤ 100
  k1 : 1 ≤ K
  kn : K ≤ N - 2
  l0 : 0 ≤ L
  lk : L < K
  m0 : 0 ≤ M
  mlk : M ≤ K
theorem ask_of {N K L M : Int} (h : askB N K L M = true) : AskN N K L M := by
  obtain ⟨a, b, c, d, e, f, g, i⟩ := of_decide_eq_true h
  exact ⟨a, b, c, d, e, f, g, i⟩
structure SpecOK (N K L M R S F G : Int) : Prop where
  le : S ≤ R
  sum : R + S = L - M
  prod : R * S = M - K
  fg : F + G = N - 1
  tr : K + F * R + G * S = 0
  r1 : -200 ≤ R
  r2 : R ≤ 200
  s1 : -200 ≤ S
  s2 : S ≤ 200
  f1 : 0 ≤ F
  f2 : F ≤ 200
  g1 : 0 ≤ G
  g2 : G ≤ 200
theorem spec_trace {N K L M R S F G : Int} (h : SpecOK N K L M R S F G) : (K * K + F * R * R + G * S * S = N * K) ↔ (K * (K - L - 1) = (N - K - 1) * M) := by
  obtain ⟨_, h1, h2, h3, h4, _⟩ := h
  grind

theorem spec_root {N K L M : Int} {r : Nat} (h : AskN N K L M) (hr : (r:Int) * (r:Int) = (L - M) * (L - M) + 4 * (K - M)) :
    ∃ t : Int, 1 ≤ r ∧ r ≤ 99 ∧ L - M + r = 2 * t ∧ t * (t - r) = M - K ∧ t - r ≤ -1 ∧ 0 ≤ t ∧ t ≤ 99 ∧ -99 ≤ t - r := by
  obtain ⟨a, b, c, d, e, f, g, i⟩ := h
  have hs := mul_bd (x := L - M) (y := L - M) (A := 98) (B := 98) (by omega) (by omega)
  have hs0 : 0 ≤ (L - M) * (L - M) := by
    rcases Int.le_total 0 (L - M) with h | h
    · exact Int.mul_nonneg h h
    · have := Int.mul_nonneg (a := -(L - M)) (b := -(L - M)) (by omega) (by omega)
      rwa [Int.neg_mul_neg] at this
  have hr99 : r ≤ 99 := by
    by_cases e : r ≤ 99
    · exact e
    · exfalso
      have : (100:Int) * 100 ≤ (r:Int) * (r:Int) := Int.mul_le_mul (by omega) (by omega) (by omega) (by omega)
      omega
  have hr1 : 1 ≤ r := by
    by_cases e : 1 ≤ r
    · exact e
    · exfalso
      obtain rfl : r = 0 := by omega
      have h1 : (L - M) * (L - M) = 0 := by simp at hr; omega
      have h2 : L - M = 0 := by
        rcases Int.mul_eq_zero.1 h1 with h | h <;> exact h
      omega
  obtain ⟨s, hs'⟩ : ∃ s, s = L - M := ⟨_, rfl⟩
  rw [← hs'] at hr hs hs0 ⊢
  obtain ⟨dd, hdd⟩ : ∃ dd : Int, dd = r := ⟨_, rfl⟩
  rw [← hdd] at hr ⊢
  obtain ⟨t, ht⟩ : ∃ t, s + dd = 2 * t := by
    rcases Int.emod_two_eq (s + dd) with h | h
    · exact ⟨(s + dd) / 2, by omega⟩
    · exfalso
      obtain ⟨t, ht⟩ : ∃ t, dd = 2 * t + 1 - s := ⟨(s + dd) / 2, by omega⟩
      have : 4 * (t * t) + 4 * t + 1 - 4 * (s * t) - 2 * s = 4 * (K - M) := by subst ht; grind
      omega
  have hp : t * (t - dd) = M - K := by grind
  have hS : t - dd ≤ -1 := by
    rcases Int.lt_or_le (t - dd) 0 with h | h
    · omega
    · exfalso
      have h1 : 0 ≤ (t - 1) * (t - dd) := Int.mul_nonneg (by omega) h
      have h2 : (t - 1) * (t - dd) = t * (t - dd) - (t - dd) := by grind
      omega
  have hR : 0 ≤ t := by
    rcases Int.lt_or_le t 0 with h | h
    · exfalso
      have h1 : 0 < (-t) * (-(t - dd)) := Int.mul_pos (by omega) (by omega)
      rw [Int.neg_mul_neg] at h1
      omega
    · exact h
  exact ⟨t, hr1, hr99, ht, hp, hS, hR, by omega, by omega⟩

theorem spec_ok {N K L M t F dd : Int} (h : AskN N K L M) (hd1 : 1 ≤ dd) (h99 : dd ≤ 99) (ht : L - M + dd = 2 * t) (hp : t * (t - dd) = M - K) (hS : t - dd ≤ -1) (hR : 0 ≤ t) (ht9 : t ≤ 99) (hs9 : -99 ≤ t - dd)
    (hF : F * dd = -K - (N - 1) * (t - dd)) : SpecOK N K L M t (t - dd) F (N - 1 - F) ∧ F ≤ 99 ∧ 0 ≤ F := by
  obtain ⟨a, b, c, d, e, f, g, i⟩ := h
  have hx : (N - 1) * 1 ≤ (N - 1) * (-(t - dd)) := Int.mul_le_mul_of_nonneg_left (by omega) (by omega)
  have hx2 : (N - 1) * (-(t - dd)) = -((N - 1) * (t - dd)) := by grind
  have hF0 : 0 ≤ F := by
    rcases Int.lt_or_le F 0 with h | h
    · exfalso
      have h1 : 0 ≤ (-F) * dd := Int.mul_nonneg (by omega) (by omega)
      have h2 : (-F) * dd = -(F * dd) := by grind
      omega
    · exact h
  have hF1 : F ≤ N - 1 := by
    rcases Int.lt_or_le (N - 1) F with h | h
    · exfalso
      have h1 : 0 ≤ (F - (N - 1)) * dd := Int.mul_nonneg (by omega) (by omega)
      have h2 : (F - (N - 1)) * dd = F * dd - (N - 1) * dd := by grind
      have h3 : 0 ≤ (N - 1) * t := Int.mul_nonneg (by omega) hR
      have h4 : (N - 1) * (t - dd) = (N - 1) * t - (N - 1) * dd := by grind
      omega
    · exact h
  refine ⟨⟨by omega, by omega, hp, by omega, by grind, by omega, by omega, by omega, by omega, hF0, by omega, by omega, by omega⟩, by omega, hF0⟩
end Go.Proofs.YtdnhfnegnjdeoaaDoor
