/- SignsMakes: the cases together -/
import Derived.Test.YtopmdmafameknaaMkA
import Derived.Test.YtopmdmafameknaaMkB
import Derived.Test.YtopmdmafameknaaMkC
import Derived.Test.YtopmdmafameknaaMkD
import Derived.Test.YtopmdmafameknaaMkE
import Derived.Test.YtopmdmafameknaaMkF
namespace Go.Proofs.Ytopmdmafameknaa
open Go.RowKit

theorem signsMakes_law (k : Int) (va vb : Value) (xs ys : List Int) (w : World) (ha : Ints w va xs) (hb : Ints w vb ys) :
    Calls Try.prog 4 #[.int .i64 k, va, vb] w fun e w' => e = .returned (.bool true) ∧ Below w.heap.size w w' := by
  cases h1 : matB 16 xs with
  | false =>
    by_cases a1 : k < 0
    · exact makes_A0 w va vb k a1 xs ys h1 ha hb
    by_cases a3 : k = 3
    · subst a3; exact makes_E0 w va vb xs ys h1 ha hb
    by_cases a7 : k = 7
    · subst a7; exact makes_C0 w va vb xs ys h1 ha hb
    by_cases a11 : k = 11
    · subst a11; exact makes_F0 w va vb xs ys h1 ha hb
    by_cases a4 : k ≤ 4
    · obtain ⟨n, rfl⟩ := Int.eq_ofNat_of_zero_le (show 0 ≤ k by omega)
      exact makes_D0 w va vb n ⟨by omega, by omega⟩ xs ys h1 ha hb
    · exact makes_B0 w va vb k ⟨by omega, by simp [isQ]; omega⟩ xs ys h1 ha hb
  | true =>
    obtain ⟨a, m, rfl, hma, _, _⟩ := matB_of' (Nat.le_refl _) h1
    cases h2 : matB 16 ys with
    | false =>
      by_cases a1 : k < 0
      · exact makes_A1 w va vb k a1 m a ys hma h2 ha hb
      by_cases a3 : k = 3
      · subst a3; exact makes_E1 w va vb m a ys hma h2 ha hb
      by_cases a7 : k = 7
      · subst a7; exact makes_C1 w va vb m a ys hma h2 ha hb
      by_cases a11 : k = 11
      · subst a11; exact makes_F1 w va vb m a ys hma h2 ha hb
      by_cases a4 : k ≤ 4
      · obtain ⟨n, rfl⟩ := Int.eq_ofNat_of_zero_le (show 0 ≤ k by omega)
        exact makes_D1 w va vb n ⟨by omega, by omega⟩ m a ys hma h2 ha hb
      · exact makes_B1 w va vb k ⟨by omega, by simp [isQ]; omega⟩ m a ys hma h2 ha hb
    | true =>
      obtain ⟨b, n, rfl, hmb, _, _⟩ := matB_of' (Nat.le_refl _) h2
      by_cases hs : m * n ≤ 16
      · by_cases a1 : k < 0
        · exact makes_A3 w va vb k a1 m n a b hma hmb hs ha hb
        by_cases a3 : k = 3
        · subst a3; exact makes_E3 w va vb m n a b hma hmb hs ha hb
        by_cases a7 : k = 7
        · subst a7; exact makes_C3 w va vb m n a b hma hmb hs ha hb
        by_cases a11 : k = 11
        · subst a11; exact makes_F3 w va vb m n a b hma hmb hs ha hb
        by_cases a4 : k ≤ 4
        · obtain ⟨i, rfl⟩ := Int.eq_ofNat_of_zero_le (show 0 ≤ k by omega)
          exact makes_D3 w va vb i ⟨by omega, by omega⟩ m n a b hma hmb hs ha hb
        · exact makes_B3 w va vb k ⟨by omega, by simp [isQ]; omega⟩ m n a b hma hmb hs ha hb
      · by_cases a1 : k < 0
        · exact makes_A2 w va vb k a1 m n a b hma hmb hs ha hb
        by_cases a3 : k = 3
        · subst a3; exact makes_E2 w va vb m n a b hma hmb hs ha hb
        by_cases a7 : k = 7
        · subst a7; exact makes_C2 w va vb m n a b hma hmb hs ha hb
        by_cases a11 : k = 11
        · subst a11; exact makes_F2 w va vb m n a b hma hmb hs ha hb
        by_cases a4 : k ≤ 4
        · obtain ⟨i, rfl⟩ := Int.eq_ofNat_of_zero_le (show 0 ≤ k by omega)
          exact makes_D2 w va vb i ⟨by omega, by omega⟩ m n a b hma hmb hs ha hb
        · exact makes_B2 w va vb k ⟨by omega, by simp [isQ]; omega⟩ m n a b hma hmb hs ha hb
end Go.Proofs.Ytopmdmafameknaa
