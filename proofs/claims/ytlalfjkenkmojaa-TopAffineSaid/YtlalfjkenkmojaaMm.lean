/- the greatest number without progressions, and slices read backward, in plain numbers -/
import Derived.Test.YtlalfjkenkmojaaTm
namespace Go.Proofs.Ytlalfjkenkmojaa

/-- Numbers that rise from a on are numbers left of all. -/
theorem up_sub (n : Nat) : ∀ (l : List Nat) (a : Nat), Up l → (∀ x ∈ l, a ≤ x ∧ x < a + n) → List.Sublist l (List.range' a n) := by
  induction n with
  | zero =>
    intro l a _ h
    cases l with
    | nil => exact List.nil_sublist _
    | cons x t => have := h x (by simp); omega
  | succ n ih =>
    intro l a hu h
    rw [List.range'_succ]
    cases l with
    | nil => exact List.nil_sublist _
    | cons x t =>
      have hx := h x (by simp)
      have hp := List.pairwise_cons.1 hu
      by_cases e : x = a
      · subst e
        exact List.Sublist.cons_cons x (ih t (x + 1) hp.2 fun y hy => by have := hp.1 y hy; have := h y (by simp [hy]); omega)
      · exact List.Sublist.cons a (ih (x :: t) (a + 1) hu fun y hy => by
          have := h y hy
          rcases List.mem_cons.1 hy with rfl | hy
          · omega
          · have := hp.1 y hy; omega)
theorem up_range' (a n : Nat) : Up (List.range' a n) := List.pairwise_lt_range'
theorem sub_up {l m : List Nat} (h : List.Sublist l m) (hu : Up m) : Up l := List.Pairwise.sublist h hu

/-- No three numbers are a progression. -/
theorem stepsR_mem {l : List Nat} (hu : Up l) : stepsR l = true ↔ ∀ x ∈ l, ∀ y ∈ l, y < x → 2 * x - y ∉ l := by
  rw [stepsR_iff]
  constructor
  · intro h x hx y hy hlt
    obtain ⟨i, hi, rfl⟩ := mem_at hx
    obtain ⟨j, hj, rfl⟩ := mem_at hy
    exact h i j hi ((up_lt_iff hu hj hi).1 hlt)
  · intro h i j hi hj
    exact h _ (at_mem hi) _ (at_mem (by omega)) (up_lt hu hj hi)
theorem stepsR_sub {l s : List Nat} (hu : Up l) (hs : List.Sublist s l) (h : stepsR l = true) : stepsR s = true := by
  rw [stepsR_mem hu] at h
  rw [stepsR_mem (sub_up hs hu)]
  exact fun x hx y hy hlt hc => h x (hs.subset hx) y (hs.subset hy) hlt (hs.subset hc)

/-- The greatest number of numbers from 1 to n without a progression. -/
def longN (n : Nat) : Nat := (longL endsB (List.range' 1 n)).length
theorem longN_most {n : Nat} {l : List Nat} (hu : Up l) (hb : ∀ x ∈ l, 1 ≤ x ∧ x < n + 1) (h : stepsR l = true) : l.length ≤ longN n :=
  long_most (up_sub n l 1 hu fun x hx => by have := hb x hx; omega) (by rw [keeps_steps l hu]; exact h)
theorem longN_has (n : Nat) : ∃ l, l.length = longN n ∧ Up l ∧ (∀ x ∈ l, 1 ≤ x ∧ x < n + 1) ∧ stepsR l = true := by
  obtain ⟨h1, h2⟩ := long_keeps endsB (List.range' 1 n)
  have hu := sub_up h2 (up_range' 1 n)
  refine ⟨_, rfl, hu, fun x hx => ?_, by rw [← keeps_steps _ hu]; exact h1⟩
  have := h2.subset hx
  rw [List.mem_range'_1] at this
  omega
theorem filter_ne_len (n : Nat) : ∀ l : List Nat, Up l → l.length ≤ (l.filter fun x => decide (x ≠ n)).length + 1 := by
  intro l
  induction l with
  | nil => intro _; simp
  | cons x t ih =>
    intro hu
    have hp := List.pairwise_cons.1 hu
    by_cases e : x = n
    · subst e
      have : t.filter (fun y => decide (y ≠ x)) = t := List.filter_eq_self.2 fun y hy => decide_eq_true (by have := hp.1 y hy; omega)
      rw [List.filter_cons, if_neg (by simp), this]
      simp
    · rw [List.filter_cons, if_pos (by simpa using e)]
      have := ih hp.2
      simp only [List.length_cons]
      omega
theorem longN_step (n : Nat) : longN (n + 1) = longN n ∨ longN (n + 1) = longN n + 1 := by
  have h1 : longN n ≤ longN (n + 1) := by
    obtain ⟨l, hl, hu, hb, hs⟩ := longN_has n
    rw [← hl]
    exact longN_most hu (fun x hx => by have := hb x hx; omega) hs
  have h2 : longN (n + 1) ≤ longN n + 1 := by
    obtain ⟨l, hl, hu, hb, hs⟩ := longN_has (n + 1)
    have hsub : List.Sublist (l.filter fun x => decide (x ≠ n + 1)) l := List.filter_sublist
    have h3 := filter_ne_len (n + 1) l hu
    have h4 := longN_most (n := n) (sub_up hsub hu) (fun x hx => by
      obtain ⟨h5, h6⟩ := List.mem_filter.1 hx
      have := hb x h5
      have : x ≠ n + 1 := of_decide_eq_true h6
      omega) (stepsR_sub hu hsub hs)
    omega
  omega

/-- The slice backward: each number taken from n + 1. -/
def mirL (n : Nat) (l : List Nat) : List Nat := l.reverse.map fun x => n + 1 - x
theorem mirL_length (n : Nat) (l : List Nat) : (mirL n l).length = l.length := by simp [mirL]
theorem mirL_up {n : Nat} {l : List Nat} (hu : Up l) (hb : ∀ x ∈ l, 1 ≤ x ∧ x < n + 1) : Up (mirL n l) := by
  unfold Up mirL
  rw [List.pairwise_map, List.pairwise_reverse]
  refine List.Pairwise.imp_of_mem ?_ hu
  intro a b ha hb' h
  have := hb a ha
  have := hb b hb'
  omega
theorem mirL_mem {n : Nat} {l : List Nat} {x : Nat} : x ∈ mirL n l ↔ ∃ y ∈ l, n + 1 - y = x := by simp [mirL]
theorem mirL_bd {n : Nat} {l : List Nat} (hb : ∀ x ∈ l, 1 ≤ x ∧ x < n + 1) : ∀ x ∈ mirL n l, 1 ≤ x ∧ x < n + 1 := by
  intro x hx
  obtain ⟨y, hy, rfl⟩ := mirL_mem.1 hx
  have := hb y hy
  omega
theorem mirL_one {n : Nat} {l : List Nat} (hu : Up l) (hb : ∀ x ∈ l, 1 ≤ x ∧ x < n + 1) (h : stepsR l = true) : stepsR (mirL n l) = true := by
  rw [stepsR_mem hu] at h
  rw [stepsR_mem (mirL_up hu hb)]
  intro x hx y hy hlt hc
  obtain ⟨a, ha, rfl⟩ := mirL_mem.1 hx
  obtain ⟨b, hb', rfl⟩ := mirL_mem.1 hy
  obtain ⟨c, hc', e⟩ := mirL_mem.1 hc
  have h1 := hb a ha
  have h2 := hb b hb'
  have h3 := hb c hc'
  -- c, a, b rise with the same step
  have e2 : 2 * a - c = b := by omega
  exact h a ha c hc' (by omega) (by rw [e2]; exact hb')
theorem mirL_twice {n : Nat} {l : List Nat} (hb : ∀ x ∈ l, 1 ≤ x ∧ x < n + 1) : mirL n (mirL n l) = l := by
  unfold mirL
  rw [← List.map_reverse, List.reverse_reverse, List.map_map]
  refine (List.map_congr_left fun x hx => ?_).trans (List.map_id' l)
  have := hb x hx
  simp only [Function.comp]
  omega
theorem mirL_steps {n : Nat} {l : List Nat} (hu : Up l) (hb : ∀ x ∈ l, 1 ≤ x ∧ x < n + 1) : stepsR (mirL n l) = stepsR l := by
  cases h : stepsR l with
  | true => exact mirL_one hu hb h
  | false =>
    cases h2 : stepsR (mirL n l) with
    | false => rfl
    | true =>
      have := mirL_one (mirL_up hu hb) (mirL_bd hb) h2
      rw [mirL_twice hb, h] at this
      cases this
/-- The first k elements of the slice backward are of the last k ones. -/
theorem mirL_snoc {n : Nat} {l : List Nat} {k : Nat} (hk : k < l.length) : (mirL n l).take (k + 1) = (mirL n l).take k ++ [n + 1 - l.getD (l.length - 1 - k) 0] := by
  rw [List.take_succ_eq_append_getElem (by rw [mirL_length]; exact hk)]
  congr 1
  simp [mirL, show l.length - 1 - k < l.length by omega]
end Go.Proofs.Ytlalfjkenkmojaa
