/- planes: two points are on one line alone -/
import Derived.Test.YtllokfkagneneaaT3
namespace Go.Proofs.Ytllokfkagneneaa
def both (q a b : Nat) : Nat := ((List.range (np q)).filter fun l => onB q a l && onB q b l).length
theorem both2 : ∀ a < np 2, ∀ b < np 2, a = b ∨ both 2 a b = 1 := by decide +kernel
theorem both3 : ∀ a < np 3, ∀ b < np 3, a = b ∨ both 3 a b = 1 := by decide +kernel
theorem both5 : ∀ a < np 5, ∀ b < np 5, a = b ∨ both 5 a b = 1 := by decide +kernel
theorem both7a : ∀ a < 19, ∀ b < np 7, a = b ∨ both 7 a b = 1 := by decide +kernel
theorem both7b : ∀ a < 19, ∀ b < np 7, a + 19 = b ∨ both 7 (a + 19) b = 1 := by decide +kernel
theorem both7c : ∀ a < 19, ∀ b < np 7, a + 38 = b ∨ both 7 (a + 38) b = 1 := by decide +kernel
theorem both7 (a b : Nat) (ha : a < np 7) (hb : b < np 7) (h : a ≠ b) : both 7 a b = 1 := by
  have hn : np 7 = 57 := rfl
  by_cases h1 : a < 19
  · exact (both7a a h1 b hb).resolve_left h
  by_cases h2 : a < 38
  · obtain ⟨c, rfl⟩ : ∃ c, a = c + 19 := ⟨a - 19, by omega⟩
    exact (both7b c (by omega) b hb).resolve_left h
  · obtain ⟨c, rfl⟩ : ∃ c, a = c + 38 := ⟨a - 38, by omega⟩
    exact (both7c c (by omega) b hb).resolve_left h
theorem both_one (p a b : Nat) (hp : isPn p) (ha : a < np p) (hb : b < np p) (h : a ≠ b) : both p a b = 1 := by
  rcases hp with rfl | rfl | rfl | rfl
  · exact (both2 a ha b hb).resolve_left h
  · exact (both3 a ha b hb).resolve_left h
  · exact (both5 a ha b hb).resolve_left h
  · exact both7 a b ha hb h
theorem both_same (p a : Nat) (hp : isPn p) (ha : a < np p) : both p a a = p + 1 := by
  have := cnt_all p a hp ha
  unfold cnt at this
  unfold both
  rw [← this]
  congr 1
  refine List.filter_congr fun l _ => ?_
  rw [Bool.and_self, onB_comm]
end Go.Proofs.Ytllokfkagneneaa
