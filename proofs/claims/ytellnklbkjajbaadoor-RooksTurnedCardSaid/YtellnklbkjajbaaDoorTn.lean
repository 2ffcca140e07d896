/- a board with two rows exchanged, with two columns exchanged, and turned over: its numbers and heights -/
import Derived.Test.YtellnklbkjajbaaDoorTm
import Derived.Test.YtellnklbkjajbaaDoorHx
namespace Go.Proofs.YtellnklbkjajbaaDoor
open Go.RowKit

def swp (i j x : Nat) : Nat := if x = i then j else if x = j then i else x
theorem swp_back (i j x : Nat) : swp i j (swp i j x) = x := by
  unfold swp
  by_cases h : x = i
  · subst h; by_cases h2 : j = x
    · simp [h2]
    · simp [h2]
  · by_cases h2 : x = j
    · subst h2; simp [h]
    · simp [h, h2]
theorem swp_ne (i j x y : Nat) : (swp i j x ≠ swp i j y) = (x ≠ y) := propext ⟨fun h e => h (by rw [e]), fun h e => h (by rw [← swp_back i j x, e, swp_back])⟩
def swapL (bs : List Nat) (i j : Nat) : List Nat := (bs.set i (bs.getD j 0)).set j (bs.getD i 0)
theorem swapL_length (bs : List Nat) (i j : Nat) : (swapL bs i j).length = bs.length := by simp [swapL]
theorem swapL_get {bs : List Nat} {i j : Nat} (hi : i < bs.length) (hj : j < bs.length) (x : Nat) : (swapL bs i j).getD x 0 = bs.getD (swp i j x) 0 := by
  unfold swapL swp
  by_cases h2 : j = x
  · subst h2
    rw [show ((bs.set i (bs.getD j 0)).set j (bs.getD i 0)).getD j 0 = bs.getD i 0 by simp [hj]]
    by_cases h : j = i
    · rw [if_pos h, h]
    · rw [if_neg h, if_pos rfl]
  · have e1 : ((bs.set i (bs.getD j 0)).set j (bs.getD i 0)).getD x 0 = (bs.set i (bs.getD j 0)).getD x 0 := by
      simp [List.getD_eq_getElem?_getD, List.getElem?_set_ne h2]
    rw [e1]
    by_cases h : i = x
    · subst h
      rw [if_pos rfl]; simp [hi]
    · rw [if_neg (fun e => h e.symm), if_neg (fun e => h2 e.symm)]
      simp [List.getD_eq_getElem?_getD, List.getElem?_set_ne h]
theorem swapL_perm {bs : List Nat} {i j : Nat} (hi : i < bs.length) (hj : j < bs.length) : (swapL bs i j).Perm bs := by
  have h := @List.set_set_perm _ bs i j hi hj
  unfold swapL
  simpa [hi, hj] using h
theorem swapL_brd {n : Nat} {bs : List Nat} (h : Brd n bs) {i j : Nat} (hi : i < n) (hj : j < n) : Brd n (swapL bs i j) :=
  ⟨by rw [swapL_length, h.len], h.pos, h.le, fun x hx => h.lt x ((swapL_perm (by rw [h.len]; exact hi) (by rw [h.len]; exact hj)).mem_iff.1 hx)⟩
theorem swapL_moved {bs : List Nat} {i j : Nat} (hi : i < bs.length) (hj : j < bs.length) : Moved (fun s => (swp i j s.1, s.2)) bs (swapL bs i j) :=
  ⟨fun s => by rw [swp_back], fun s t => by unfold freeB; rw [decide_eq_decide.2 (iff_of_eq (swp_ne i j s.1 t.1))], fun s => by unfold onB; rw [swapL_get hi hj]⟩

/-- A row with the columns i and j exchanged. -/
def swC (i j r : Nat) : Nat := if r.testBit i = r.testBit j then r else r ^^^ (2 ^ i ||| 2 ^ j)
theorem swC_bit (i j r b : Nat) : (swC i j r).testBit b = r.testBit (swp i j b) := by
  unfold swC swp
  by_cases h : r.testBit i = r.testBit j
  · rw [if_pos h]
    by_cases h1 : b = i
    · subst h1; rw [if_pos rfl, h]
    · rw [if_neg h1]
      by_cases h2 : b = j
      · subst h2; rw [if_pos rfl, h]
      · rw [if_neg h2]
  · rw [if_neg h, Nat.testBit_xor, Nat.testBit_or, Nat.testBit_two_pow, Nat.testBit_two_pow]
    by_cases h1 : b = i
    · subst h1
      rw [if_pos rfl]
      cases h3 : r.testBit b <;> cases h4 : r.testBit j <;> simp_all
    · rw [if_neg h1]
      by_cases h2 : b = j
      · subst h2
        rw [if_pos rfl]
        cases h3 : r.testBit b <;> cases h4 : r.testBit i <;> simp_all
      · rw [if_neg h2]
        have a1 : ¬ i = b := fun e => h1 e.symm
        have a2 : ¬ j = b := fun e => h2 e.symm
        simp [a1, a2]
theorem swC_lt {n i j r : Nat} (hi : i < n) (hj : j < n) (hr : r < 2 ^ n) : swC i j r < 2 ^ n := by
  unfold swC
  split
  · exact hr
  · exact Nat.xor_lt_two_pow hr (Nat.or_lt_two_pow (Nat.pow_lt_pow_right (by decide) hi) (Nat.pow_lt_pow_right (by decide) hj))
theorem swC_fl : ∀ r < 64, ∀ i < 6, ∀ j < 6, fl (swC i j r) = fl r := by decide +kernel
def colsL (bs : List Nat) (i j : Nat) : List Nat := bs.map (swC i j)
theorem colsL_length (bs : List Nat) (i j : Nat) : (colsL bs i j).length = bs.length := by simp [colsL]
theorem swC_zero (i j : Nat) : swC i j 0 = 0 := by unfold swC; simp
theorem colsL_get (bs : List Nat) (i j x : Nat) : (colsL bs i j).getD x 0 = swC i j (bs.getD x 0) := by
  unfold colsL
  by_cases h : x < bs.length
  · simp [h]
  · simp [show bs.length ≤ x by omega, swC_zero]
theorem colsL_brd {n : Nat} {bs : List Nat} (h : Brd n bs) {i j : Nat} (hi : i < n) (hj : j < n) : Brd n (colsL bs i j) :=
  ⟨by rw [colsL_length, h.len], h.pos, h.le, fun x hx => by obtain ⟨y, hy, rfl⟩ := List.mem_map.1 hx; exact swC_lt hi hj (h.lt y hy)⟩
theorem colsL_moved (bs : List Nat) (i j : Nat) : Moved (fun s => (s.1, swp i j s.2)) bs (colsL bs i j) :=
  ⟨fun s => by rw [swp_back], fun s t => by unfold freeB; rw [decide_eq_decide.2 (iff_of_eq (swp_ne i j s.2 t.2))], fun s => by unfold onB; rw [colsL_get, swC_bit]⟩
theorem colsL_sz {n : Nat} {bs : List Nat} (h : Brd n bs) {i j : Nat} (hi : i < n) (hj : j < n) : szL (colsL bs i j) = szL bs := by
  unfold szL colsL
  rw [List.map_map]
  congr 1
  refine List.map_congr_left fun r hr => ?_
  have h1 := h.lt r hr
  have h2 := pw6 n h.le
  have h3 := h.le
  exact swC_fl r (by omega) i (by omega) j (by omega)

/-- The rows of the first k that have column c. -/
def ovK (bs : List Nat) (c : Nat) : Nat → Nat
  | 0 => 0
  | k + 1 => ovK bs c k ||| (if (bs.getD k 0).testBit c then 2 ^ k else 0)
theorem ovK_bit (bs : List Nat) (c b : Nat) : ∀ k, (ovK bs c k).testBit b = (decide (b < k) && (bs.getD b 0).testBit c)
  | 0 => by simp [ovK]
  | k + 1 => by
    rw [ovK, Nat.testBit_or, ovK_bit bs c b k]
    by_cases e : b = k
    · subst e
      cases h : (bs.getD b 0).testBit c <;> simp
    · have hk : (if (bs.getD k 0).testBit c then 2 ^ k else 0).testBit b = false := by
        split
        · rw [Nat.testBit_two_pow]; exact decide_eq_false fun h => e h.symm
        · exact Nat.zero_testBit b
      rw [hk, Bool.or_false]
      congr 1
      exact decide_eq_decide.2 (by omega)
theorem ovK_lt (bs : List Nat) (c : Nat) : ∀ k, ovK bs c k < 2 ^ k
  | 0 => by simp [ovK]
  | k + 1 => by
    rw [ovK]
    refine Nat.or_lt_two_pow (Nat.lt_of_lt_of_le (ovK_lt bs c k) (Nat.pow_le_pow_right (by decide) (by omega))) ?_
    split
    · exact Nat.pow_lt_pow_right (by decide) (by omega)
    · exact Nat.two_pow_pos _
def overL (n : Nat) (bs : List Nat) : List Nat := (List.range n).map fun c => ovK bs c n
theorem overL_length (n : Nat) (bs : List Nat) : (overL n bs).length = n := by simp [overL]
theorem overL_get {n : Nat} (bs : List Nat) {c : Nat} (h : c < n) : (overL n bs).getD c 0 = ovK bs c n := by simp [overL, h]
theorem overL_brd {n : Nat} {bs : List Nat} (h : Brd n bs) : Brd n (overL n bs) :=
  ⟨overL_length _ _, h.pos, h.le, fun x hx => by obtain ⟨y, _, rfl⟩ := List.mem_map.1 hx; exact ovK_lt _ _ _⟩
theorem overL_on {n : Nat} {bs : List Nat} (h : Brd n bs) (s : Nat × Nat) : onB (overL n bs) s = onB bs (s.2, s.1) := by
  obtain ⟨a, b⟩ := s
  unfold onB
  dsimp only
  by_cases ha : a < n
  · rw [overL_get bs ha, ovK_bit]
    by_cases hb : b < n
    · simp [hb]
    · have : bs.getD b 0 = 0 := by have := h.len; simp [show bs.length ≤ b by omega]
      rw [this]; simp
  · have : (overL n bs).getD a 0 = 0 := by have := overL_length n bs; simp [show (overL n bs).length ≤ a by omega]
    rw [this, Nat.zero_testBit, Nat.testBit_lt_two_pow (Nat.lt_of_lt_of_le (h.get b) (Nat.pow_le_pow_right (by decide) (by omega)))]
theorem overL_moved {n : Nat} {bs : List Nat} (h : Brd n bs) : Moved (fun s => (s.2, s.1)) bs (overL n bs) :=
  ⟨fun _ => rfl, fun s t => by unfold freeB; rw [Bool.and_comm], fun s => overL_on h s⟩

/-- Rows are nested exactly if no two of them cross. -/
def Uncrossed (T : Nat × Nat → Bool) : Prop := ∀ p q a b, ¬ (T (p, a) = true ∧ T (p, b) = false ∧ T (q, b) = true ∧ T (q, a) = false)
theorem okB_iff (bs : List Nat) : okB bs = true ↔ Uncrossed (onB bs) := by
  constructor
  · intro h p q a b ⟨h1, h2, h3, h4⟩
    have h := of_decide_eq_true h
    unfold onB at *
    dsimp only at *
    have hp : p < bs.length := Nat.lt_of_not_le fun hle => by rw [show bs.getD p 0 = 0 by simp [hle]] at h1; simp at h1
    have hq : q < bs.length := Nat.lt_of_not_le fun hle => by rw [show bs.getD q 0 = 0 by simp [hle]] at h3; simp at h3
    rcases h _ (natD_mem hp) _ (natD_mem hq) with h | h
    · rw [← h, Nat.testBit_and, h4, Bool.and_false] at h1; cases h1
    · rw [← h, Nat.testBit_and, h2, Bool.false_and] at h3; cases h3
  · intro h
    refine decide_eq_true fun r hr s hs => ?_
    obtain ⟨p, hp, rfl⟩ := List.mem_iff_getElem.1 hr
    obtain ⟨q, hq, rfl⟩ := List.mem_iff_getElem.1 hs
    have gp : bs.getD p 0 = bs[p] := by simp [hp]
    have gq : bs.getD q 0 = bs[q] := by simp [hq]
    by_cases c : bs[p] &&& bs[q] = bs[p]
    · exact .inl c
    · right
      refine Nat.eq_of_testBit_eq fun b => ?_
      rw [Nat.testBit_and]
      cases hb : bs[q].testBit b with
      | false => rw [Bool.and_false]
      | true =>
        rw [Bool.and_true]
        cases hpb : bs[p].testBit b with
        | true => rfl
        | false =>
          exfalso
          refine c (Nat.eq_of_testBit_eq fun a => ?_)
          rw [Nat.testBit_and]
          cases ha : bs[p].testBit a with
          | false => rfl
          | true =>
            cases hqa : bs[q].testBit a with
            | true => rfl
            | false => exact absurd ⟨by unfold onB; rw [gp]; exact ha, by unfold onB; rw [gp]; exact hpb, by unfold onB; rw [gq]; exact hb, by unfold onB; rw [gq]; exact hqa⟩ (h p q a b)
theorem bool_iff {a b : Bool} (h : a = true ↔ b = true) : a = b := by cases a <;> cases b <;> simp_all
theorem okB_rows {bs : List Nat} {i j : Nat} (hi : i < bs.length) (hj : j < bs.length) : okB (swapL bs i j) = okB bs := okB_perm (swapL_perm hi hj)
theorem okB_cols (bs : List Nat) (i j : Nat) : okB (colsL bs i j) = okB bs := by
  refine bool_iff ?_
  rw [okB_iff, okB_iff]
  have hm := (colsL_moved bs i j).on
  constructor
  · intro h p q a b ⟨h1, h2, h3, h4⟩
    refine h p q (swp i j a) (swp i j b) ⟨?_, ?_, ?_, ?_⟩ <;> (rw [hm]; dsimp only; rw [swp_back]; assumption)
  · intro h p q a b ⟨h1, h2, h3, h4⟩
    rw [hm] at h1 h2 h3 h4
    exact h p q _ _ ⟨h1, h2, h3, h4⟩
theorem okB_over {n : Nat} {bs : List Nat} (hb : Brd n bs) : okB (overL n bs) = okB bs := by
  refine bool_iff ?_
  rw [okB_iff, okB_iff]
  have hm := overL_on hb
  constructor
  · intro h p q a b ⟨h1, h2, h3, h4⟩
    exact h a b p q ⟨by rw [hm]; exact h1, by rw [hm]; exact h4, by rw [hm]; exact h3, by rw [hm]; exact h2⟩
  · intro h p q a b ⟨h1, h2, h3, h4⟩
    rw [hm] at h1 h2 h3 h4
    exact h a b p q ⟨h1, h4, h3, h2⟩

theorem htL_rows {bs : List Nat} {i j : Nat} (hi : i < bs.length) (hj : j < bs.length) : htL (swapL bs i j) = htL bs := by
  unfold htL szL nats
  exact risL_perm (((swapL_perm hi hj).map _).map _)
theorem htL_cols {n : Nat} {bs : List Nat} (hb : Brd n bs) {i j : Nat} (hi : i < n) (hj : j < n) : htL (colsL bs i j) = htL bs := by unfold htL; rw [colsL_sz hb hi hj]
end Go.Proofs.YtellnklbkjajbaaDoor
