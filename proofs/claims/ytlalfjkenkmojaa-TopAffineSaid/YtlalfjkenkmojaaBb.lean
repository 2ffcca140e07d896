/- blocks of bools, and what they say of a list -/
import Derived.Test.YtlalfjkenkmojaaKe
namespace Go.Proofs.Ytlalfjkenkmojaa
open Go.RowKit

/-- Block g is a row of bools of type t. -/
def BB (t : TypeId) (w : World) (g : Nat) (bs : List Bool) : Prop := w.heap[g]? = some (.cells (bs.map Value.bool).toArray t (0, 0))
theorem heap_set_at {w : World} {b k : Nat} {cs : Array Value} {t : TypeId} {fr : Nat × Nat} (h : w.heap[b]? = some (.cells cs t fr)) (v : Value) :
    (w.setCell ⟨b, k, none⟩ v).heap[b]? = some (.cells (cs.setIfInBounds k v) t fr) := by
  simp [World.setCell, Array.getElem?_modify, h]
theorem BB.lt {t : TypeId} {w : World} {g : Nat} {bs : List Bool} (h : BB t w g bs) : g < w.heap.size := lt_of_block h
theorem BB.cell {t : TypeId} {w : World} {g : Nat} {bs : List Bool} (h : BB t w g bs) {k : Nat} (hk : k < bs.length) : w.cell? ⟨g, k, none⟩ = some (.bool (bs.getD k false)) ∧ w.frozen? ⟨g, k, none⟩ = false := by
  constructor
  · simp only [World.cell?, show w.heap[g]? = _ from h]
    simp [hk]
  · simp [World.frozen?, show w.heap[g]? = _ from h]
theorem BB.set {t : TypeId} {w : World} {g : Nat} {bs : List Bool} (h : BB t w g bs) (k : Nat) (b : Bool) : BB t (w.setCell ⟨g, k, none⟩ (.bool b)) g (bs.set k b) := by
  unfold BB
  rw [heap_set_at h]
  simp [List.map_set]
theorem BB.below {t : TypeId} {w w' : World} {g : Nat} {bs : List Bool} (h : BB t w g bs) (hb : Below w.heap.size w w') : BB t w' g bs := (hb.block g h.lt).trans h
theorem BB.drewN {t : TypeId} {w : World} {g : Nat} {bs : List Bool} (h : BB t w g bs) (n : Nat) : BB t (w.drewN n) g bs := h
theorem bb40 (w : World) : BB 72 (w.alloc (.cells #[.bool false, .bool false, .bool false, .bool false, .bool false, .bool false, .bool false, .bool false, .bool false, .bool false, .bool false, .bool false, .bool false, .bool false, .bool false, .bool false, .bool false, .bool false, .bool false, .bool false, .bool false, .bool false, .bool false, .bool false, .bool false, .bool false, .bool false, .bool false, .bool false, .bool false, .bool false, .bool false, .bool false, .bool false, .bool false, .bool false, .bool false, .bool false, .bool false, .bool false] 72)) w.heap.size (List.replicate 40 false) := heap_alloc_new w _

/-- The first n bools tell what is in the list. -/
def Met (n : Nat) (bs : List Bool) (L : List Nat) : Prop := bs.length = n ∧ ∀ s, s < n → bs.getD s false = decide (s ∈ L)
theorem Met.start (n : Nat) : Met n (List.replicate n false) [] := ⟨by simp, fun s hs => by simp [hs]⟩
theorem Met.step {n : Nat} {bs : List Bool} {L : List Nat} (h : Met n bs L) (s : Nat) (hs : s < n) : Met n (bs.set s true) (L ++ [s]) := by
  refine ⟨by simp [h.1], fun u hu => ?_⟩
  by_cases e : s = u
  · subst e; simp [h.1, hs]
  · have := h.2 u hu
    rw [List.getD_eq_getElem?_getD, List.getElem?_set_ne e, ← List.getD_eq_getElem?_getD, this]
    have : (u ∈ L ++ [s]) ↔ u ∈ L := by simp; omega
    simp only [this]
end Go.Proofs.Ytlalfjkenkmojaa
