/- polynomials as lists: sums, products, zeros at the end -/
import Derived.Test.YtlnbodpdgebflaaPm
namespace Go.Proofs.Ytlnbodpdgebflaa
open Go.RowKit
theorem trL_zero : ∀ l : List Int, trL (l ++ [0]) = trL l
  | [] => rfl
  | x :: l => by
    have ih := trL_zero l
    simp only [List.cons_append, trL, ih]
theorem trL_ne : ∀ (l : List Int) (x : Int), x ≠ 0 → trL (l ++ [x]) = l ++ [x]
  | [], x, h => by simp [trL, h]
  | y :: l, x, h => by
    have ih := trL_ne l x h
    simp only [List.cons_append, trL, ih]
    cases l <;> rfl
theorem trL_take {l : List Int} {k : Nat} (hk : k < l.length) (h0 : l.getD k 0 = 0) : trL (l.take (k + 1)) = trL (l.take k) := by
  have e : l.take (k + 1) = l.take k ++ [l.getD k 0] := by rw [List.take_succ_eq_append_getElem hk]; simp [hk]
  rw [e, h0, trL_zero]
theorem trL_stop {l : List Int} {k : Nat} (hk : k < l.length) (h0 : l.getD k 0 ≠ 0) : trL (l.take (k + 1)) = l.take (k + 1) := by
  have e : l.take (k + 1) = l.take k ++ [l.getD k 0] := by rw [List.take_succ_eq_append_getElem hk]; simp [hk]
  rw [e, trL_ne _ _ h0]
theorem adL_get : ∀ (a b : List Int) (i : Nat), (adL a b).getD i 0 = a.getD i 0 + b.getD i 0
  | [], b, i => by simp [adL]
  | x :: a, [], i => by simp [adL]
  | x :: a, y :: b, 0 => by simp [adL]
  | x :: a, y :: b, i + 1 => by
    have := adL_get a b i
    simpa [adL] using this
theorem adL_len : ∀ (a b : List Int), (adL a b).length = max a.length b.length
  | [], b => by simp [adL]
  | x :: a, [] => by simp [adL]
  | x :: a, y :: b => by simp [adL, adL_len a b]
theorem list_ext {a b : List Int} (hl : a.length = b.length) (h : ∀ i, i < a.length → a.getD i 0 = b.getD i 0) : a = b := by
  refine List.ext_getElem hl fun i h1 h2 => ?_
  have := h i h1
  simpa [h1, h2] using this
/-- A list by its places. -/
def tab (n : Nat) (F : Nat → Int) : List Int := (List.range n).map F
theorem tab_len (n : Nat) (F : Nat → Int) : (tab n F).length = n := by simp [tab]
theorem tab_get {n i : Nat} (F : Nat → Int) (h : i < n) : (tab n F).getD i 0 = F i := by simp [tab, h]
theorem tab_congr {n : Nat} {F G : Nat → Int} (h : ∀ i, i < n → F i = G i) : tab n F = tab n G := List.map_congr_left fun i hi => h i (List.mem_range.1 hi)
theorem tab_self (l : List Int) : tab l.length (fun i => l.getD i 0) = l := list_ext (tab_len _ _) fun i hi => by rw [tab_len] at hi; exact tab_get _ hi
/-- The sum as it grows: k of the second one are added. -/
def adF (f h : List Int) (k : Nat) : Nat → Int := fun i => f.getD i 0 + if i < k then h.getD i 0 else 0
theorem adF_end (f h : List Int) : tab (max f.length h.length) (adF f h h.length) = adL f h := by
  refine list_ext (by rw [tab_len, adL_len]) fun i hi => ?_
  rw [tab_len] at hi
  rw [tab_get _ hi, adL_get]
  unfold adF
  split
  · rfl
  · rename_i q; rw [List.getD_eq_getElem?_getD (l := h), List.getElem?_eq_none (by omega)]; rfl
theorem adF_succ (f h : List Int) (k i : Nat) : adF f h (k + 1) i = if i = k then adF f h k i + h.getD k 0 else adF f h k i := by
  unfold adF
  by_cases e : i = k
  · subst e; rw [if_pos (Nat.lt_succ_self _), if_pos rfl, if_neg (Nat.lt_irrefl _)]; omega
  · rw [if_neg e]
    by_cases c : i < k
    · rw [if_pos (by omega), if_pos c]
    · rw [if_neg (by omega), if_neg c]
/-- The product as it grows: the first i of f are through, and of the next one j. -/
def muF (f h : List Int) (i j : Nat) : Nat → Int := fun k => (muL (f.take i) h).getD k 0 + if i ≤ k ∧ k < i + j then f.getD i 0 * h.getD (k - i) 0 else 0
theorem map_get (x : Int) (h : List Int) (k : Nat) : (h.map (x * ·)).getD k 0 = x * h.getD k 0 := by
  rw [List.getD_eq_getElem?_getD, List.getD_eq_getElem?_getD, List.getElem?_map]
  cases h[k]? <;> simp
theorem muL_step : ∀ (i : Nat) (f h : List Int) (k : Nat), i < f.length → (muL (f.take (i + 1)) h).getD k 0 = (muL (f.take i) h).getD k 0 + if i ≤ k ∧ k < i + h.length then f.getD i 0 * h.getD (k - i) 0 else 0
  | _, [], _, _, hi => by simp at hi
  | 0, x :: f, h, k, _ => by
    simp only [List.take_succ_cons, List.take_zero, muL]
    rw [adL_get, map_get]
    have e0 : ([] : List Int).getD k 0 = 0 := rfl
    have e1 : ([0] : List Int).getD k 0 = 0 := by cases k <;> rfl
    rw [e0, e1]
    simp only [List.getD_cons_zero, Nat.zero_le, true_and, Nat.zero_add, Nat.sub_zero]
    split
    · omega
    · rename_i q
      rw [List.getD_eq_getElem?_getD (l := h), List.getElem?_eq_none (by omega)]; simp
  | i + 1, x :: f, h, k, hi => by
    have hi' : i < f.length := by simpa using hi
    simp only [List.take_succ_cons, muL]
    rw [adL_get, adL_get]
    cases k with
    | zero => simp
    | succ k =>
      have ih := muL_step i f h k hi'
      simp only [List.getD_cons_succ]
      rw [ih]
      by_cases c : i ≤ k ∧ k < i + h.length
      · rw [if_pos c, if_pos (by omega), show k + 1 - (i + 1) = k - i by omega]; omega
      · rw [if_neg c, if_neg (by omega)]; omega
theorem muL_len : ∀ (f h : List Int), f ≠ [] → h ≠ [] → (muL f h).length = f.length + h.length - 1
  | [], _, h, _ => absurd rfl h
  | [x], h, _, h2 => by
    have : 0 < h.length := List.length_pos_iff.2 h2
    simp only [muL]
    rw [adL_len]; simp; omega
  | x :: y :: f, h, _, h2 => by
    have ih := muL_len (y :: f) h (by simp) h2
    have : 0 < h.length := List.length_pos_iff.2 h2
    unfold muL
    rw [adL_len]
    simp only [List.length_map, List.length_cons] at ih ⊢
    omega
theorem muF_row (f h : List Int) {i : Nat} (hi : i < f.length) (k : Nat) : muF f h i h.length k = muF f h (i + 1) 0 k := by
  unfold muF
  rw [muL_step i f h k hi, if_neg (show ¬ (i + 1 ≤ k ∧ k < i + 1 + 0) by omega)]; omega
theorem muF_succ (f h : List Int) (i j k : Nat) : muF f h i (j + 1) k = if k = i + j then muF f h i j k + f.getD i 0 * h.getD j 0 else muF f h i j k := by
  unfold muF
  by_cases e : k = i + j
  · subst e
    rw [if_pos rfl, if_pos (by omega), if_neg (by omega), show i + j - i = j by omega]; omega
  · rw [if_neg e]
    by_cases c : i ≤ k ∧ k < i + j
    · rw [if_pos c, if_pos (by omega)]
    · rw [if_neg c, if_neg (by omega)]
theorem muF_end (f h : List Int) (h1 : f ≠ []) (h2 : h ≠ []) : tab (f.length + h.length - 1) (muF f h f.length 0) = muL f h := by
  refine list_ext (by rw [tab_len, muL_len f h h1 h2]) fun i hi => ?_
  rw [tab_len] at hi
  rw [tab_get _ hi]
  unfold muF
  rw [List.take_length, if_neg (by omega)]; omega
theorem muF_zero (f h : List Int) (k : Nat) : muF f h 0 0 k = 0 := by
  unfold muF
  simp [muL]
/-- Small numbers: no sum leaves an int. -/
def Bnd (M : Nat) (l : List Int) : Prop := ∀ c ∈ l, -(M : Int) ≤ c ∧ c ≤ M
theorem Bnd.get {M : Nat} {l : List Int} (h : Bnd M l) (i : Nat) : -(M : Int) ≤ l.getD i 0 ∧ l.getD i 0 ≤ M := by
  by_cases hi : i < l.length
  · exact h _ (by simp [hi])
  · rw [List.getD_eq_getElem?_getD, List.getElem?_eq_none (by omega)]; simp
theorem bnd_of {M : Nat} {l : List Int} (h : ∀ i, i < l.length → -(M : Int) ≤ l.getD i 0 ∧ l.getD i 0 ≤ M) : Bnd M l := fun c hc => by
  obtain ⟨i, hi, rfl⟩ := List.mem_iff_getElem.1 hc
  have := h i hi
  simpa [hi] using this
theorem Bnd.add {M K : Nat} {a b : List Int} (h : Bnd M a) (k : Bnd K b) : Bnd (M + K) (adL a b) := bnd_of fun i _ => by
  rw [adL_get]
  have := h.get i
  have := k.get i
  omega
theorem trL_pre : ∀ l : List Int, trL l = l.take (trL l).length
  | [] => rfl
  | x :: l => by
    have ih := trL_pre l
    unfold trL
    cases h : trL l with
    | nil =>
      by_cases hx : x = 0
      · simp [hx]
      · simp [hx]
    | cons y t =>
      rw [h] at ih
      simp only [List.length_cons, List.take_succ_cons, List.cons.injEq, true_and] at ih ⊢
      exact ih
theorem trL_mem {l : List Int} {c : Int} (h : c ∈ trL l) : c ∈ l := by rw [trL_pre] at h; exact List.mem_of_mem_take h
theorem Bnd.trim {M : Nat} {l : List Int} (h : Bnd M l) : Bnd M (trL l) := fun c hc => h c (trL_mem hc)
theorem trL_le (l : List Int) : (trL l).length ≤ l.length := by rw [trL_pre, List.length_take]; omega
theorem mul_bd' {a b : Int} {M K : Nat} (h1 : -(M : Int) ≤ a ∧ a ≤ M) (h2 : -(K : Int) ≤ b ∧ b ≤ K) : -((M * K : Nat) : Int) ≤ a * b ∧ a * b ≤ ((M * K : Nat) : Int) := by
  have e : (a * b).natAbs ≤ M * K := by
    rw [Int.natAbs_mul]
    exact Nat.mul_le_mul (by omega) (by omega)
  omega
theorem Bnd.mul {M K : Nat} {h : List Int} (k : Bnd K h) : ∀ {f : List Int}, Bnd M f → Bnd (f.length * (M * K)) (muL f h)
  | [], _ => by intro c hc; cases hc
  | x :: f, hf => by
    have ih := Bnd.mul k (f := f) fun c hc => hf c (by simp [hc])
    have h1 : Bnd (M * K) (h.map (x * ·)) := fun c hc => by
      obtain ⟨y, hy, rfl⟩ := List.mem_map.1 hc
      exact mul_bd' (hf x (by simp)) (k y hy)
    have h2 : Bnd (f.length * (M * K)) (0 :: muL f h) := fun c hc => by
      rcases List.mem_cons.1 hc with rfl | hc
      · omega
      · exact ih c hc
    have h3 := h1.add h2
    unfold muL
    rw [List.length_cons, Nat.succ_mul, Nat.add_comm]
    exact h3
theorem muF_bd {M K : Nat} {f h : List Int} (h1 : Bnd M f) (h2 : Bnd K h) {i : Nat} (hi : i ≤ f.length) (j k : Nat) : -(((f.length + 1) * (M * K) : Nat) : Int) ≤ muF f h i j k ∧ muF f h i j k ≤ (((f.length + 1) * (M * K) : Nat) : Int) := by
  unfold muF
  have a := (Bnd.mul h2 (f := f.take i) (fun c hc => h1 c (List.mem_of_mem_take hc))).get k
  have b := mul_bd' (h1.get i) (h2.get (k - i))
  have e : (f.take i).length * (M * K) ≤ f.length * (M * K) := Nat.mul_le_mul_right _ (by rw [List.length_take]; omega)
  rw [Nat.succ_mul]
  split <;> omega
end Go.Proofs.Ytlnbodpdgebflaa
