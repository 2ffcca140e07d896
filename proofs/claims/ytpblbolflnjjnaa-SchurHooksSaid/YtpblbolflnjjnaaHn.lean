/- how many fillings have each number once, by hooks, of each shape: reckoned -/
import Derived.Test.YtpblbolflnjjnaaSh
import Derived.Test.YtpblbolflnjjnaaHk
namespace Go.Proofs.Ytpblbolflnjjnaa
open Go.RowKit

/-- by hooks. -/
def stdF (l : List Int) : Int := allW (isum l).toNat / hooksTo l (conjS l) l.length
def stdCheck (l : List Int) : Bool := decide (stdS l = stdF l)
def S6 := allShapes.filter fun l => decide (isum l ≤ 6)
def S7 := allShapes.filter fun l => decide (isum l = 7)
def S8a := (allShapes.filter fun l => decide (isum l = 8)).take 8
def S8b := ((allShapes.filter fun l => decide (isum l = 8)).drop 8).take 8
def S8c := (allShapes.filter fun l => decide (isum l = 8)).drop 16
set_option maxRecDepth 100000 in
theorem std6 : S6.all stdCheck = true := by decide +kernel
set_option maxRecDepth 100000 in
theorem std7 : S7.all stdCheck = true := by decide +kernel
set_option maxRecDepth 100000 in
theorem std8a : S8a.all stdCheck = true := by decide +kernel
set_option maxRecDepth 100000 in
theorem std8b : S8b.all stdCheck = true := by decide +kernel
set_option maxRecDepth 100000 in
theorem std8c : S8c.all stdCheck = true := by decide +kernel

theorem std_eq : ∀ l ∈ allShapes, stdS l = stdF l := by
  intro l hl
  by_cases h6 : isum l ≤ 6
  · exact of_decide_eq_true (List.all_eq_true.1 std6 l (List.mem_filter.2 ⟨hl, by simpa using h6⟩))
  · by_cases h7 : isum l = 7
    · exact of_decide_eq_true (List.all_eq_true.1 std7 l (List.mem_filter.2 ⟨hl, by simpa using h7⟩))
    · have h8 : isum l = 8 := by
        have : (allShapes.all fun l => decide (isum l ≤ 8)) = true := by decide +kernel
        have := of_decide_eq_true (List.all_eq_true.1 this l hl)
        omega
      have hm : l ∈ allShapes.filter fun l => decide (isum l = 8) := List.mem_filter.2 ⟨hl, by simpa using h8⟩
      have hs : l ∈ S8a ++ (S8b ++ S8c) := by
        have e : allShapes.filter (fun l => decide (isum l = 8)) = S8a ++ (S8b ++ S8c) := by decide +kernel
        rw [← e]; exact hm
      rcases List.mem_append.1 hs with hs | hs
      · exact of_decide_eq_true (List.all_eq_true.1 std8a l hs)
      · rcases List.mem_append.1 hs with hs | hs
        · exact of_decide_eq_true (List.all_eq_true.1 std8b l hs)
        · exact of_decide_eq_true (List.all_eq_true.1 std8c l hs)
end Go.Proofs.Ytpblbolflnjjnaa
