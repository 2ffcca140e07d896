/- finite facts of the guests -/
import Derived.Test.YtellnklbkjajbaaDoorGu
import Derived.Test.YtellnklbkjajbaaDoorHt
namespace Go.Proofs.YtellnklbkjajbaaDoor
open Go.RowKit

/-- The seats that are beside each guest. -/
def besL (n : Nat) : List Nat := (List.range n).map fun i => 2 ^ i ||| 2 ^ ((i + 1) % n)
theorem gx2 : ((permsF (otherL 2 (besL 2)) 0 []).length : Int) = guF 2 2 0 0 := by decide +kernel
theorem gx3 : ((permsF (otherL 3 (besL 3)) 0 []).length : Int) = guF 3 3 0 0 := by decide +kernel
theorem gx4 : ((permsF (otherL 4 (besL 4)) 0 []).length : Int) = guF 4 4 0 0 := by decide +kernel
theorem gx5 : ((permsF (otherL 5 (besL 5)) 0 []).length : Int) = guF 5 5 0 0 := by decide +kernel
theorem gx6 : ((permsF (otherL 6 (besL 6)) 0 []).length : Int) = guF 6 6 0 0 := by decide +kernel
theorem gx7 : ((permsF (otherL 7 (besL 7)) 0 []).length : Int) = guF 7 7 0 0 := by decide +kernel
theorem gx8 : ((permsF (otherL 8 (besL 8)) 0 []).length : Int) = guF 8 8 0 0 := by decide +kernel
theorem gh2 : (hitsL (besL 2)).getD 0 0 = guF 2 2 0 0 := by decide +kernel
theorem gh3 : (hitsL (besL 3)).getD 0 0 = guF 3 3 0 0 := by decide +kernel
theorem gh4 : (hitsL (besL 4)).getD 0 0 = guF 4 4 0 0 := by decide +kernel
theorem gh5 : (hitsL (besL 5)).getD 0 0 = guF 5 5 0 0 := by decide +kernel
theorem gh6 : (hitsL (besL 6)).getD 0 0 = guF 6 6 0 0 := by decide +kernel

theorem guests_count (n : Nat) (h1 : 2 ≤ n) (h2 : n ≤ 8) : ((permsF (otherL n (besL n)) 0 []).length : Int) = guF n n 0 0 := by
  rcases (by omega : n = 2 ∨ n = 3 ∨ n = 4 ∨ n = 5 ∨ n = 6 ∨ n = 7 ∨ n = 8) with rfl | rfl | rfl | rfl | rfl | rfl | rfl
  · exact gx2
  · exact gx3
  · exact gx4
  · exact gx5
  · exact gx6
  · exact gx7
  · exact gx8
theorem guests_hits (n : Nat) (h1 : 2 ≤ n) (h2 : n ≤ 6) : (hitsL (besL n)).getD 0 0 = guF n n 0 0 := by
  rcases (by omega : n = 2 ∨ n = 3 ∨ n = 4 ∨ n = 5 ∨ n = 6) with rfl | rfl | rfl | rfl | rfl
  · exact gh2
  · exact gh3
  · exact gh4
  · exact gh5
  · exact gh6
theorem besL_length (n : Nat) : (besL n).length = n := by simp [besL]
theorem besL_get {n k : Nat} (h : k < n) : (besL n).getD k 0 = 2 ^ k ||| 2 ^ ((k + 1) % n) := by simp [besL, h]
theorem besL_lt {n : Nat} (h1 : 2 ≤ n) (h2 : n ≤ 8) : ∀ x ∈ besL n, x < 2 ^ n := by
  rcases (by omega : n = 2 ∨ n = 3 ∨ n = 4 ∨ n = 5 ∨ n = 6 ∨ n = 7 ∨ n = 8) with rfl | rfl | rfl | rfl | rfl | rfl | rfl <;> decide
end Go.Proofs.YtellnklbkjajbaaDoor
