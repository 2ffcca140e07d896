/- the reference's fillings are the search's -/
import Derived.Test.YtpblbolflnjjnaaRg
namespace Go.Proofs.Ytpblbolflnjjnaa
open Go.RowKit

/-- the rows before row i are full. -/
def Full (caps : List Nat) (i : Nat) (rs : List (List Int)) : Prop := ∀ j, j < i → (rs.getD j []).length = caps.getD j 0

theorem Full.set {caps : List Nat} {i : Nat} {rs : List (List Int)} (h : Full caps i rs) (row : List Int) (hi : i < rs.length) : Full caps i (rs.set i row) := fun j hj => by
  rw [getD_set _ _ _ _ _ hi, if_neg (by omega)]; exact h j hj

def Falls (caps : List Nat) : Prop := ∀ i, 0 < i → i < caps.length → caps.getD i 0 ≤ caps.getD (i - 1) 0

theorem tallyS_getD (m : List Int) (k : Nat) (hk : k < 8) : (tallyS m).getD k 0 = m.getD k 0 := by simp [tallyS, List.getD, hk]
theorem tallyS_len (m : List Int) : (tallyS m).length = 8 := by simp [tallyS]
theorem tallyS_set (m : List Int) (k : Nat) (x : Int) (hk : k < m.length) : tallyS (m.set k x) = (tallyS m).set k x := by
  refine List.ext_getElem (by simp [tallyS]) fun j h1 h2 => ?_
  have hj : j < 8 := by simpa [tallyS] using h1
  rw [List.getElem_set]
  simp only [tallyS, List.getElem_map, List.getElem_range]
  rw [getD_set _ _ _ _ _ hk]

theorem atS_prev (rs : List (List Int)) (i j : Nat) : atS rs i ((j : Int) - 1) = if 0 < j then (rs.getD i []).getD (j - 1) 0 else 0 := by
  unfold atS
  by_cases h : 0 < j
  · rw [if_pos (by omega), if_pos h, Int.toNat_natCast, show ((j : Int) - 1).toNat = j - 1 by omega]
  · rw [if_neg (by omega), if_neg h]
theorem atS_up (rs : List (List Int)) (i j : Nat) : atS rs ((i : Int) - 1) j = if 0 < i then (rs.getD (i - 1) []).getD j 0 else 0 := by
  unfold atS
  by_cases h : 0 < i
  · rw [if_pos (by omega), if_pos h, Int.toNat_natCast, show ((i : Int) - 1).toNat = i - 1 by omega]
  · rw [if_neg (by omega), if_neg h]

theorem bad_iff (rs : List (List Int)) (left : List Int) (i j x : Nat) (hx : 1 ≤ x) : badB rs left i j x = true ↔ (left.getD (x - 1) 0 = 0 ∨ (x : Int) < leastS rs i j) := by
  unfold badB leastS
  rw [decide_eq_true_eq, atS_prev, atS_up]
  by_cases h1 : 0 < j <;> by_cases h2 : 0 < i <;> simp only [h1, h2, true_and, false_and, if_true, if_false, or_false, false_or] <;> omega

theorem flatMap_nil {α β : Type} {l : List α} {g : α → List β} (h : ∀ x ∈ l, g x = []) : l.flatMap g = [] := by
  induction l with
  | nil => rfl
  | cons a t ih => rw [List.flatMap_cons, h a (by simp), ih fun x hx => h x (by simp [hx])]; rfl

theorem flatMap_congr' {α β : Type} {l : List α} {g k : α → List β} (h : ∀ x ∈ l, g x = k x) : l.flatMap g = l.flatMap k := by
  induction l with
  | nil => rfl
  | cons a t ih => rw [List.flatMap_cons, List.flatMap_cons, h a (by simp), ih fun x hx => h x (by simp [hx])]

theorem rsrch_eq (caps : List Nat) : ∀ (fuel i : Nat) (rs : List (List Int)) (left : List Int), RIn caps rs left → i ≤ caps.length → rsrch caps fuel i rs left = srch caps fuel i rs (tallyS left) := by
  intro fuel
  induction fuel with
  | zero => intro i rs left _ _; rfl
  | succ fuel ih =>
    intro i rs left h hi
    simp only [rsrch, srch]
    split
    · rfl
    · rename_i h1
      split
      · exact ih _ _ _ h (by omega)
      · rename_i h2
        have hil : i < caps.length := by omega
        have hir : i < rs.length := by rw [h.rl]; exact hil
        have hlt : (rs.getD i []).length < caps.getD i 0 := by have := h.rb i hir; omega
        have hb := leastS_bd h.rx (i : Int) ((rs.getD i []).length : Int)
        obtain ⟨lo, hlo⟩ := Int.eq_ofNat_of_zero_le (show 0 ≤ leastS rs i (rs.getD i []).length by omega)
        have hll := h.ll
        rw [hlo] at hb ⊢
        rw [Int.toNat_natCast]
        have hbad : ∀ x, 1 ≤ x → (badB rs left i (rs.getD i []).length x = true ↔ (left.getD (x - 1) 0 = 0 ∨ x < lo)) := fun x hx => by
          rw [bad_iff rs left i _ x hx, hlo]; omega
        -- both are of 1 to 8
        have e1 : (List.range' 1 left.length).flatMap (fun x => if badB rs left i (rs.getD i []).length x = true then [] else rsrch caps fuel i (rs.set i (rs.getD i [] ++ [(x : Int)])) (left.set (x - 1) (left.getD (x - 1) 0 - 1))) =
            (List.range' 1 left.length).flatMap (fun x => if x < lo then [] else if (tallyS left).getD (x - 1) 0 = 0 then [] else srch caps fuel i (rs.set i (rs.getD i [] ++ [(x : Int)])) ((tallyS left).set (x - 1) ((tallyS left).getD (x - 1) 0 - 1))) := by
          refine flatMap_congr' fun x hx => ?_
          have hx' := List.mem_range'_1.1 hx
          rw [tallyS_getD _ _ (by omega)]
          by_cases hz : left.getD (x - 1) 0 = 0
          · rw [if_pos ((hbad x (by omega)).2 (.inl hz)), if_pos hz, ite_self]
          · by_cases hl : x < lo
            · rw [if_pos ((hbad x (by omega)).2 (.inr hl)), if_pos hl]
            · rw [if_neg (fun hb => by rcases (hbad x (by omega)).1 hb with h | h <;> contradiction), if_neg hl, if_neg hz, ih i _ _ (h.push hil hlt (by omega) hz) hi, tallyS_set _ _ _ (by omega)]
        have e2 : (List.range' (left.length + 1) (8 - left.length)).flatMap (fun x => if x < lo then [] else if (tallyS left).getD (x - 1) 0 = 0 then [] else srch caps fuel i (rs.set i (rs.getD i [] ++ [(x : Int)])) ((tallyS left).set (x - 1) ((tallyS left).getD (x - 1) 0 - 1))) = [] := by
          refine flatMap_nil fun x hx => ?_
          have hx' := List.mem_range'_1.1 hx
          rw [tallyS_getD _ _ (by omega), getD_over (l := left) (by omega), if_pos rfl, ite_self]
        have e3 : List.range' 1 left.length ++ List.range' (left.length + 1) (8 - left.length) = List.range' 1 (lo - 1) ++ List.range' lo (9 - lo) := by
          have a := List.range'_append_1 (s := 1) (m := left.length) (n := 8 - left.length)
          have b := List.range'_append_1 (s := 1) (m := lo - 1) (n := 9 - lo)
          rw [show 1 + left.length = left.length + 1 by omega, show left.length + (8 - left.length) = 8 by omega] at a
          rw [show 1 + (lo - 1) = lo by omega, show lo - 1 + (9 - lo) = 8 by omega] at b
          rw [a, b]
        have e4 : ∀ g : Nat → List (List (List Int)), (List.range' (left.length + 1) (8 - left.length)).flatMap g = [] → (List.range' 1 (lo - 1)).flatMap g = [] → (List.range' 1 left.length).flatMap g = (List.range' lo (9 - lo)).flatMap g := by
          intro g g1 g2
          have h := congrArg (List.flatMap g) e3
          rw [List.flatMap_append, List.flatMap_append, g1, g2, List.append_nil, List.nil_append] at h
          exact h
        rw [e1, e4 _ e2 (flatMap_nil fun x hx => by
          have hx' := List.mem_range'_1.1 hx
          rw [if_pos (by omega)])]
        refine flatMap_congr' fun x hx => ?_
        have hx' := List.mem_range'_1.1 hx
        rw [if_neg (by omega)]
end Go.Proofs.Ytpblbolflnjjnaa
