/- SignsColumns: the cases together -/
import Derived.Test.YtopmdmafameknaaCoA
import Derived.Test.YtopmdmafameknaaCoB
import Derived.Test.YtopmdmafameknaaCoC
import Derived.Test.YtopmdmafameknaaCoD
import Derived.Test.YtopmdmafameknaaCoE
import Derived.Test.YtopmdmafameknaaCoF
namespace Go.Proofs.Ytopmdmafameknaa
open Go.RowKit

set_option maxHeartbeats 1000000 in
set_option maxRecDepth 100000 in
theorem cols_bad (w : World) (va vb : Value) (r c k : Int) (xs : List Int) (ha : Ints w va xs) (hm : matB 16 xs = false) :
    Calls Try.prog 10 #[va, vb, .int .i64 r, .int .i64 c, .int .i64 k] w fun e w' => e = .returned (.bool true) ∧ Below w.heap.size w w' := by
  have HA := Lib.hid (fun w' (hb : Below w.heap.size w w') => list_any va xs w' (ha.below hb (Nat.le_refl _)))
  have HBal := Lib.hid (fun v w' xs (h : Ints w' v xs) => Balanced_any v xs w' h)
  have PB := Lib.hid (fun w w' e (h : BalPost w (xs.take 20) e w') => bal_bad (by rw [matB_take 16 xs (Nat.le_refl _), hm]) h)
  clear ha hm
  have HB0 := Lib.hid (Below.refl w.heap.size w)
  go_enter Try.func10, Try.ntmps10
  go_wp2_with fail
  refine (HA.out w HB0.out).mono ?_
  rintro e w1 ⟨v1, rfl, hv1, hb1⟩
  have HB1 := Lib.hid (HB0.out.trans (hb1.mono HB0.out.size))
  have A_1 := Lib.hid (hv1)
  clear hb1 hv1
  go_wp2_with fail
  refine (HBal.out v1 w1 _ A_1.out).mono ?_
  intro e w2 hq
  obtain ⟨rfl, rfl⟩ := PB.out _ _ _ hq
  clear hq
  clear A_1
  go_wp2_with fail
  refine (awake_any w1).mono ?_
  rintro e w2 ⟨rfl, hb2⟩
  have HB2 := Lib.hid (HB1.out.trans (hb2.mono HB1.out.size))
  clear hb2
  go_wp2
  go_ret
  exact ⟨rfl, HB2.out⟩

theorem signsColumns_law (va vb : Value) (xs ys : List Int) (r c k : Int) (w : World) (ha : Ints w va xs) (hb : Ints w vb ys) :
    Calls Try.prog 10 #[va, vb, .int .i64 r, .int .i64 c, .int .i64 k] w fun e w' => e = .returned (.bool true) ∧ Below w.heap.size w w' := by
  cases h1 : matB 16 xs with
  | false => exact cols_bad w va vb r c k xs ha h1
  | true =>
    obtain ⟨a, m, rfl, hma, _, _⟩ := matB_of' (Nat.le_refl _) h1
    cases hok : balB m a with
    | true =>
      cases h2 : matB 16 ys with
      | false =>
        by_cases a1 : k < 0
        · exact cols_A1_true w va vb r c k a1 m a ys hma h2 ha hb hok
        by_cases a3 : k = 3
        · subst a3; exact cols_E1_true w va vb r c m a ys hma h2 ha hb hok
        by_cases a7 : k = 7
        · subst a7; exact cols_C1_true w va vb r c m a ys hma h2 ha hb hok
        by_cases a11 : k = 11
        · subst a11; exact cols_F1_true w va vb r c m a ys hma h2 ha hb hok
        by_cases a4 : k ≤ 4
        · obtain ⟨i, rfl⟩ := Int.eq_ofNat_of_zero_le (show 0 ≤ k by omega)
          exact cols_D1_true w va vb r c i ⟨by omega, by omega⟩ m a ys hma h2 ha hb hok
        · exact cols_B1_true w va vb r c k ⟨by omega, by simp [isQ]; omega⟩ m a ys hma h2 ha hb hok
      | true =>
        obtain ⟨b, n, rfl, hmb, _, _⟩ := matB_of' (Nat.le_refl _) h2
        by_cases hs : m * n ≤ 16
        · skip
          by_cases a1 : k < 0
          · exact cols_A3_true w va vb r c k a1 m n a b hma hmb hs ha hb hok
          by_cases a3 : k = 3
          · subst a3; exact cols_E3_true w va vb r c m n a b hma hmb hs ha hb hok
          by_cases a7 : k = 7
          · subst a7; exact cols_C3_true w va vb r c m n a b hma hmb hs ha hb hok
          by_cases a11 : k = 11
          · subst a11; exact cols_F3_true w va vb r c m n a b hma hmb hs ha hb hok
          by_cases a4 : k ≤ 4
          · obtain ⟨i, rfl⟩ := Int.eq_ofNat_of_zero_le (show 0 ≤ k by omega)
            exact cols_D3_true w va vb r c i ⟨by omega, by omega⟩ m n a b hma hmb hs ha hb hok
          · exact cols_B3_true w va vb r c k ⟨by omega, by simp [isQ]; omega⟩ m n a b hma hmb hs ha hb hok
        · skip
          by_cases a1 : k < 0
          · exact cols_A2_true w va vb r c k a1 m n a b hma hmb hs ha hb hok
          by_cases a3 : k = 3
          · subst a3; exact cols_E2_true w va vb r c m n a b hma hmb hs ha hb hok
          by_cases a7 : k = 7
          · subst a7; exact cols_C2_true w va vb r c m n a b hma hmb hs ha hb hok
          by_cases a11 : k = 11
          · subst a11; exact cols_F2_true w va vb r c m n a b hma hmb hs ha hb hok
          by_cases a4 : k ≤ 4
          · obtain ⟨i, rfl⟩ := Int.eq_ofNat_of_zero_le (show 0 ≤ k by omega)
            exact cols_D2_true w va vb r c i ⟨by omega, by omega⟩ m n a b hma hmb hs ha hb hok
          · exact cols_B2_true w va vb r c k ⟨by omega, by simp [isQ]; omega⟩ m n a b hma hmb hs ha hb hok
    | false =>
      cases h2 : matB 16 ys with
      | false =>
        by_cases a1 : k < 0
        · exact cols_A1_false w va vb r c k a1 m a ys hma h2 ha hb hok
        by_cases a3 : k = 3
        · subst a3; exact cols_E1_false w va vb r c m a ys hma h2 ha hb hok
        by_cases a7 : k = 7
        · subst a7; exact cols_C1_false w va vb r c m a ys hma h2 ha hb hok
        by_cases a11 : k = 11
        · subst a11; exact cols_F1_false w va vb r c m a ys hma h2 ha hb hok
        by_cases a4 : k ≤ 4
        · obtain ⟨i, rfl⟩ := Int.eq_ofNat_of_zero_le (show 0 ≤ k by omega)
          exact cols_D1_false w va vb r c i ⟨by omega, by omega⟩ m a ys hma h2 ha hb hok
        · exact cols_B1_false w va vb r c k ⟨by omega, by simp [isQ]; omega⟩ m a ys hma h2 ha hb hok
      | true =>
        obtain ⟨b, n, rfl, hmb, _, _⟩ := matB_of' (Nat.le_refl _) h2
        by_cases hs : m * n ≤ 16
        · skip
          by_cases a1 : k < 0
          · exact cols_A3_false w va vb r c k a1 m n a b hma hmb hs ha hb hok
          by_cases a3 : k = 3
          · subst a3; exact cols_E3_false w va vb r c m n a b hma hmb hs ha hb hok
          by_cases a7 : k = 7
          · subst a7; exact cols_C3_false w va vb r c m n a b hma hmb hs ha hb hok
          by_cases a11 : k = 11
          · subst a11; exact cols_F3_false w va vb r c m n a b hma hmb hs ha hb hok
          by_cases a4 : k ≤ 4
          · obtain ⟨i, rfl⟩ := Int.eq_ofNat_of_zero_le (show 0 ≤ k by omega)
            exact cols_D3_false w va vb r c i ⟨by omega, by omega⟩ m n a b hma hmb hs ha hb hok
          · exact cols_B3_false w va vb r c k ⟨by omega, by simp [isQ]; omega⟩ m n a b hma hmb hs ha hb hok
        · skip
          by_cases a1 : k < 0
          · exact cols_A2_false w va vb r c k a1 m n a b hma hmb hs ha hb hok
          by_cases a3 : k = 3
          · subst a3; exact cols_E2_false w va vb r c m n a b hma hmb hs ha hb hok
          by_cases a7 : k = 7
          · subst a7; exact cols_C2_false w va vb r c m n a b hma hmb hs ha hb hok
          by_cases a11 : k = 11
          · subst a11; exact cols_F2_false w va vb r c m n a b hma hmb hs ha hb hok
          by_cases a4 : k ≤ 4
          · obtain ⟨i, rfl⟩ := Int.eq_ofNat_of_zero_le (show 0 ≤ k by omega)
            exact cols_D2_false w va vb r c i ⟨by omega, by omega⟩ m n a b hma hmb hs ha hb hok
          · exact cols_B2_false w va vb r c k ⟨by omega, by simp [isQ]; omega⟩ m n a b hma hmb hs ha hb hok
end Go.Proofs.Ytopmdmafameknaa
