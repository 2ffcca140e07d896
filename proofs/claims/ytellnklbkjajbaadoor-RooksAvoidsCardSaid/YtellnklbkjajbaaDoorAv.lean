/- the permutations that hit nothing: those of all that have no hit -/
import Derived.Test.YtellnklbkjajbaaDoorHp
namespace Go.Proofs.YtellnklbkjajbaaDoor
open Go.RowKit

theorem flatMap_filter {α β : Type} (l : List α) (p : α → Bool) (f : α → List β) : (l.filter p).flatMap f = l.flatMap fun x => if p x then f x else [] := by
  induction l with
  | nil => rfl
  | cons a l ih => rw [List.filter_cons, List.flatMap_cons, ← ih]; cases p a <;> simp
theorem elem8_sub (full r tk : Nat) : elem8 (sub (sub full r) tk) = (elem8 (sub full tk)).filter fun j => !r.testBit j := by
  unfold elem8
  rw [List.filter_filter]
  congr 1
  funext j
  rw [sub_bit, sub_bit, sub_bit]
  cases full.testBit j <;> cases r.testBit j <;> cases tk.testBit j <;> rfl
theorem permsF_avoid (full : Nat) : ∀ (rs : List Nat) (tk : Nat) (q : List Nat), permsF (rs.map fun r => sub full r) tk q = ((comps full rs.length tk).filter fun p => sufH rs p == 0).map fun p => q ++ p
  | [], tk, q => by simp [permsF, comps, sufH]
  | r :: rs, tk, q => by
    rw [List.map_cons, permsF, elem8_sub, flatMap_filter, List.length_cons, comps, List.filter_flatMap, List.map_flatMap]
    congr 1
    funext j
    rw [List.filter_map, List.map_map]
    cases h : r.testBit j with
    | true =>
      have : (comps full rs.length (tk ||| 2 ^ j)).filter ((fun p => sufH (r :: rs) p == 0) ∘ fun p => j :: p) = [] := by
        rw [List.filter_eq_nil_iff]
        intro p _
        simp [sufH, h]
      rw [this]; rfl
    | false =>
      have : (comps full rs.length (tk ||| 2 ^ j)).filter ((fun p => sufH (r :: rs) p == 0) ∘ fun p => j :: p) = (comps full rs.length (tk ||| 2 ^ j)).filter fun p => sufH rs p == 0 := by
        congr 1
        funext p
        simp [sufH, h]
      rw [this]
      simp only [Bool.not_false, if_true]
      rw [permsF_avoid full rs]
      refine List.map_congr_left fun p _ => ?_
      simp

/-- The permutations that hit no square of a board. -/
def freeL (n : Nat) (bs : List Nat) : List (List Nat) := permsF (otherL n bs) 0 []
theorem freeL_filter {n : Nat} {bs : List Nat} (hb : Brd n bs) : freeL n bs = (allP n).filter fun p => hitK bs p n == 0 := by
  have hl := hb.len
  unfold freeL otherL
  rw [permsF_avoid, allP_comps, hl]
  simp only [List.nil_append, List.map_id']
  refine List.filter_congr fun p hp => ?_
  have h2 := comps_length _ _ _ _ hp
  have := hitK_suf bs p (by omega)
  rw [hl] at this
  rw [this]
end Go.Proofs.YtellnklbkjajbaaDoor
