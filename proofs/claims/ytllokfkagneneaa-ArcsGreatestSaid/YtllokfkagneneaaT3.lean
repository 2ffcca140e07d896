/- planes: there is a line through two points, and how many points a line has -/
import Derived.Test.YtllokfkagneneaaS
namespace Go.Proofs.Ytllokfkagneneaa
theorem line2 : ∀ a < np 2, ∀ b < np 2, a = b ∨ 0 ≤ joinR 2 a b := by decide +kernel
theorem line3 : ∀ a < np 3, ∀ b < np 3, a = b ∨ 0 ≤ joinR 3 a b := by decide +kernel
theorem line5 : ∀ a < np 5, ∀ b < np 5, a = b ∨ 0 ≤ joinR 5 a b := by decide +kernel
theorem line7a : ∀ a < 29, ∀ b < np 7, a = b ∨ 0 ≤ joinR 7 a b := by decide +kernel
theorem line7b : ∀ a < 28, ∀ b < np 7, a + 29 = b ∨ 0 ≤ joinR 7 (a + 29) b := by decide +kernel
theorem line7 (a b : Nat) (ha : a < np 7) (hb : b < np 7) (h : a ≠ b) : 0 ≤ joinR 7 a b := by
  have hn : np 7 = 57 := rfl
  by_cases h1 : a < 29
  · exact (line7a a h1 b hb).resolve_left h
  · obtain ⟨c, rfl⟩ : ∃ c, a = c + 29 := ⟨a - 29, by omega⟩
    exact (line7b c (by omega) b hb).resolve_left h
theorem line_ge (p a b : Nat) (hp : isPn p) (ha : a < np p) (hb : b < np p) (h : a ≠ b) : 0 ≤ joinR p a b := by
  rcases hp with rfl | rfl | rfl | rfl
  · exact (line2 a ha b hb).resolve_left h
  · exact (line3 a ha b hb).resolve_left h
  · exact (line5 a ha b hb).resolve_left h
  · exact line7 a b ha hb h
def cnt (q a k : Nat) : Nat := ((List.range k).filter fun x => onB q x a).length
theorem cnt_zero (q a : Nat) : cnt q a 0 = 0 := rfl
theorem cnt_yes (q a k : Nat) (h : onB q k a = true) : cnt q a (k+1) = cnt q a k + 1 := by simp [cnt, List.range_succ, List.filter_append, h]
theorem cnt_no (q a k : Nat) (h : onB q k a = false) : cnt q a (k+1) = cnt q a k := by simp [cnt, List.range_succ, List.filter_append, h]
theorem cnt_le (q a k : Nat) : cnt q a k ≤ k := by have := List.length_filter_le (fun x => onB q x a) (List.range k); simpa [cnt] using this
theorem cnt2 : ∀ a < np 2, cnt 2 a (np 2) = 3 := by decide +kernel
theorem cnt3 : ∀ a < np 3, cnt 3 a (np 3) = 4 := by decide +kernel
theorem cnt5 : ∀ a < np 5, cnt 5 a (np 5) = 6 := by decide +kernel
theorem cnt7 : ∀ a < np 7, cnt 7 a (np 7) = 8 := by decide +kernel
theorem cnt_all (p a : Nat) (hp : isPn p) (ha : a < np p) : cnt p a (np p) = p + 1 := by
  rcases hp with rfl | rfl | rfl | rfl
  · exact cnt2 a ha
  · exact cnt3 a ha
  · exact cnt5 a ha
  · exact cnt7 a ha
theorem dotS_comm (a b : T3) : dotS a b = dotS b a := by unfold dotS; rw [Int.mul_comm a.1, Int.mul_comm a.2.1, Int.mul_comm a.2.2]
theorem onB_comm (p i j : Nat) : onB p i j = onB p j i := by unfold onB; rw [dotS_comm]
/-- The line through two points, as a number. -/
theorem joinR_on (p a b : Nat) (hp : isPn p) (ha : a < np p) (hb : b < np p) (h : a ≠ b) : ∃ l : Nat, joinR p a b = l ∧ l < np p ∧ onB p a l = true ∧ onB p b l = true := by
  have h0 := line_ge p a b hp ha hb h
  unfold joinR at *
  cases hf : (List.range (np p)).find? (fun (l : Nat) => onB p a l && onB p b l) with
  | none => rw [hf] at h0; simp at h0
  | some l =>
    have h1 := List.find?_some hf
    have h2 := List.mem_of_find?_eq_some hf
    simp at h1 h2
    exact ⟨l, rfl, h2, h1.1, h1.2⟩
end Go.Proofs.Ytllokfkagneneaa
