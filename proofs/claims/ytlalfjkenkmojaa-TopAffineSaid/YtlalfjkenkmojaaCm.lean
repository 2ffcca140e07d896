/- cards: thirds, sets, caps, in plain numbers -/
import Derived.Test.YtlalfjkenkmojaaSk
namespace Go.Proofs.Ytlalfjkenkmojaa

/-- The third card of dimension d, digit by digit. -/
def thirdN : Nat → Nat → Nat → Nat
  | 0, _, _ => 0
  | d + 1, a, b => (6 - a % 3 - b % 3) % 3 + 3 * thirdN d (a / 3) (b / 3)
theorem thirdN_lt (d a b : Nat) : thirdN d a b < 3 ^ d := by
  induction d generalizing a b with
  | zero => exact Nat.one_pos
  | succ d ih => rw [thirdN, Nat.pow_succ]; have := ih (a / 3) (b / 3); omega
theorem thirdN_comm (d a b : Nat) : thirdN d a b = thirdN d b a := by
  induction d generalizing a b with
  | zero => rfl
  | succ d ih =>
    rw [thirdN, thirdN, ih (a / 3) (b / 3)]
    have : (6 - a % 3 - b % 3) = (6 - b % 3 - a % 3) := by omega
    rw [this]
theorem thirdN_back (d a b : Nat) (hb : b < 3 ^ d) : thirdN d a (thirdN d a b) = b := by
  induction d generalizing a b with
  | zero => rw [thirdN]; simp at hb; omega
  | succ d ih =>
    rw [Nat.pow_succ] at hb
    have h1 := ih (a / 3) (b / 3) (by omega)
    rw [thirdN, thirdN]
    have e : ((6 - a % 3 - b % 3) % 3 + 3 * thirdN d (a / 3) (b / 3)) / 3 = thirdN d (a / 3) (b / 3) := by omega
    rw [e, h1]
    generalize thirdN d (a / 3) (b / 3) = t
    omega
theorem thirdN_self (d a : Nat) (ha : a < 3 ^ d) : thirdN d a a = a := by
  induction d generalizing a with
  | zero => rw [thirdN]; simp at ha; omega
  | succ d ih =>
    rw [Nat.pow_succ] at ha
    rw [thirdN, ih (a / 3) (by omega)]
    omega
theorem thirdN_eq (d a b : Nat) (ha : a < 3 ^ d) (hb : b < 3 ^ d) (h : thirdN d a b = a) : a = b := by
  have := thirdN_back d a b hb
  rw [h, thirdN_self d a ha] at this
  exact this

/-- A card may be added to a cap. -/
def mayB (d : Nat) (l : List Nat) (c : Nat) : Bool := l.all fun a => !l.contains (thirdN d a c)
theorem mayB_iff (d : Nat) (l : List Nat) (c : Nat) : mayB d l c = true ↔ ∀ a ∈ l, thirdN d a c ∉ l := by
  unfold mayB
  rw [List.all_eq_true]
  simp
theorem mayB_mono (d : Nat) : Mono (mayB d) := by
  intro l x y h
  rw [mayB_iff] at h ⊢
  intro a ha hc
  exact h a (by simp [ha]) (by simp [hc])

/-- A rule that is told for each place. -/
theorem keepsL_iff (f : List Nat → Nat → Bool) (l : List Nat) : keepsL f l = true ↔ ∀ i, i < l.length → f (l.take i) (l.getD i 0) = true := by
  unfold keepsL
  rw [List.all_eq_true]
  exact ⟨fun h i hi => h i (List.mem_range.2 hi), fun h i hi => h i (List.mem_range.1 hi)⟩

theorem up_lt {l : List Nat} (h : Up l) {i j : Nat} (hij : i < j) (hj : j < l.length) : l.getD i 0 < l.getD j 0 := by
  have := List.pairwise_iff_getElem.1 h i j (by omega) hj hij
  simpa [hj, show i < l.length by omega] using this
theorem up_inj {l : List Nat} (h : Up l) {i j : Nat} (hi : i < l.length) (hj : j < l.length) (e : l.getD i 0 = l.getD j 0) : i = j := by
  rcases Nat.lt_trichotomy i j with g | g | g
  · have := up_lt h g hj; omega
  · exact g
  · have := up_lt h g hi; omega
theorem up_lt_iff {l : List Nat} (h : Up l) {i j : Nat} (hi : i < l.length) (hj : j < l.length) : l.getD i 0 < l.getD j 0 ↔ i < j := by
  constructor
  · intro hl
    rcases Nat.lt_trichotomy i j with g | g | g
    · exact g
    · subst g; omega
    · have := up_lt h g hi; omega
  · intro g; exact up_lt h g hj
theorem mem_at {l : List Nat} {x : Nat} (h : x ∈ l) : ∃ k, k < l.length ∧ l.getD k 0 = x := by
  obtain ⟨k, hk, e⟩ := List.mem_iff_getElem.1 h
  exact ⟨k, hk, by simp [hk, e]⟩
theorem at_mem {l : List Nat} {k : Nat} (h : k < l.length) : l.getD k 0 ∈ l := by simp [h]
theorem mem_take_at {l : List Nat} {x i : Nat} (hi : i ≤ l.length) : x ∈ l.take i ↔ ∃ k, k < i ∧ l.getD k 0 = x := by
  constructor
  · intro h
    obtain ⟨k, hk, e⟩ := mem_at h
    rw [List.length_take] at hk
    refine ⟨k, by omega, ?_⟩
    rw [← e]
    simp [List.getElem?_take_of_lt (show k < i by omega)]
  · rintro ⟨k, hk, rfl⟩
    refine List.mem_iff_getElem.2 ⟨k, by rw [List.length_take]; omega, ?_⟩
    simp [show k < l.length by omega]

/-- How many pairs of places, the second one before the first one, have g. -/
def pairs (l : List Nat) (g : Nat → Nat → Bool) : Nat := ((List.range l.length).map fun i => ((List.range i).filter fun j => g i j).length).sum

theorem sum_map_congr {α : Type} {l : List α} {f g : α → Nat} (h : ∀ x ∈ l, f x = g x) : (l.map f).sum = (l.map g).sum := by rw [List.map_congr_left h]
theorem pairs_congr {l : List Nat} {g h : Nat → Nat → Bool} (e : ∀ i j, i < l.length → j < i → g i j = h i j) : pairs l g = pairs l h := by
  refine sum_map_congr fun i hi => ?_
  have hi := List.mem_range.1 hi
  congr 1
  exact List.filter_congr fun j hj => e i j hi (List.mem_range.1 hj)
theorem sum_zero {l : List Nat} : l.sum = 0 ↔ ∀ x ∈ l, x = 0 := by
  induction l with
  | nil => simp
  | cons x l ih => simp [ih]
theorem pairs_zero {l : List Nat} {g : Nat → Nat → Bool} : pairs l g = 0 ↔ ∀ i j, i < l.length → j < i → g i j = false := by
  unfold pairs
  rw [sum_zero]
  constructor
  · intro h i j hi hj
    have := h _ (List.mem_map.2 ⟨i, List.mem_range.2 hi, rfl⟩)
    have := List.eq_nil_of_length_eq_zero this
    rw [List.filter_eq_nil_iff] at this
    simpa using this j (List.mem_range.2 hj)
  · intro h x hx
    obtain ⟨i, hi, rfl⟩ := List.mem_map.1 hx
    have hi := List.mem_range.1 hi
    rw [List.length_eq_zero_iff, List.filter_eq_nil_iff]
    intro j hj
    rw [h i j hi (List.mem_range.1 hj)]
    decide

/-- The sets as the program counts them, and as the reference does. -/
def setP (d : Nat) (l : List Nat) (i j : Nat) : Bool := (l.take j).contains (thirdN d (l.getD i 0) (l.getD j 0))
def setR (d : Nat) (l : List Nat) (i j : Nat) : Bool := decide (thirdN d (l.getD i 0) (l.getD j 0) < l.getD j 0) && l.contains (thirdN d (l.getD i 0) (l.getD j 0))
def setsN (d : Nat) (l : List Nat) : Nat := pairs l (setP d l)
theorem setP_setR (d : Nat) (l : List Nat) (h : Up l) (i j : Nat) (hi : i < l.length) (hj : j < i) : setP d l i j = setR d l i j := by
  unfold setP setR
  generalize thirdN d (l.getD i 0) (l.getD j 0) = t
  rw [Bool.eq_iff_iff]
  simp only [List.contains_eq_mem, decide_eq_true_eq, Bool.and_eq_true]
  rw [mem_take_at (by omega)]
  constructor
  · rintro ⟨k, hk, rfl⟩
    exact ⟨up_lt h hk (by omega), at_mem (by omega)⟩
  · rintro ⟨hlt, hm⟩
    obtain ⟨k, hk, rfl⟩ := mem_at hm
    exact ⟨k, (up_lt_iff h hk (by omega)).1 hlt, rfl⟩
theorem setsN_R (d : Nat) (l : List Nat) (h : Up l) : setsN d l = pairs l (setR d l) := pairs_congr fun i j hi hj => setP_setR d l h i j hi hj

/-- The cards of l are cards. -/
def Deck (d : Nat) (l : List Nat) : Prop := Up l ∧ ∀ x ∈ l, x < 3 ^ d

theorem caps_sets (d : Nat) (l : List Nat) (h : Deck d l) : keepsL (mayB d) l = true ↔ setsN d l = 0 := by
  obtain ⟨hu, hb⟩ := h
  rw [keepsL_iff]
  unfold setsN
  rw [pairs_zero]
  constructor
  · intro hk i j hi hj
    have h1 := (mayB_iff d _ _).1 (hk i hi) (l.getD j 0) ((mem_take_at (by omega)).2 ⟨j, hj, rfl⟩)
    unfold setP
    cases hc : (l.take j).contains (thirdN d (l.getD i 0) (l.getD j 0)) with
    | false => rfl
    | true =>
      refine absurd ?_ h1
      rw [List.contains_eq_mem, decide_eq_true_eq, mem_take_at (by omega)] at hc
      obtain ⟨k, hk, e⟩ := hc
      rw [thirdN_comm, mem_take_at (by omega)]
      exact ⟨k, by omega, e⟩
  · intro hk i hi
    rw [mayB_iff]
    intro a ha hc
    rw [mem_take_at (by omega)] at ha hc
    obtain ⟨j, hj, rfl⟩ := ha
    obtain ⟨k, hk', e⟩ := hc
    have hbi := hb _ (at_mem hi)
    have hbj := hb _ (at_mem (show j < l.length by omega))
    rcases Nat.lt_trichotomy k j with g | g | g
    · have := hk i j hi hj
      unfold setP at this
      rw [thirdN_comm, ← e] at this
      simp only [List.contains_eq_mem, decide_eq_false_iff_not] at this
      exact this ((mem_take_at (by omega)).2 ⟨k, g, rfl⟩)
    · subst g
      have := thirdN_eq d _ _ hbj hbi e.symm
      have := up_inj hu (by omega) hi this
      omega
    · have := hk i k hi hk'
      unfold setP at this
      rw [e, thirdN_comm d _ (l.getD i 0), thirdN_back d _ _ hbj] at this
      simp only [List.contains_eq_mem, decide_eq_false_iff_not] at this
      exact this ((mem_take_at (by omega)).2 ⟨j, g, rfl⟩)

/-- A card can be added to a cap, as the reference says it. -/
def fitsB (d : Nat) (l : List Nat) (x : Nat) : Bool := (List.range l.length).all fun i => !(l.getD i 0 == x) && (List.range i).all fun j => !(thirdN d (l.getD i 0) (l.getD j 0) == x)
theorem fitsB_iff (d : Nat) (l : List Nat) (x : Nat) : fitsB d l x = true ↔ ∀ i, i < l.length → l.getD i 0 ≠ x ∧ ∀ j, j < i → thirdN d (l.getD i 0) (l.getD j 0) ≠ x := by
  unfold fitsB
  rw [List.all_eq_true]
  constructor
  · intro h i hi
    have := h i (List.mem_range.2 hi)
    simp only [Bool.and_eq_true, Bool.not_eq_true', beq_eq_false_iff_ne, List.all_eq_true] at this
    exact ⟨this.1, fun j hj => this.2 j (List.mem_range.2 hj)⟩
  · intro h i hi
    have := h i (List.mem_range.1 hi)
    simp only [Bool.and_eq_true, Bool.not_eq_true', beq_eq_false_iff_ne, List.all_eq_true]
    exact ⟨this.1, fun j hj => this.2 j (List.mem_range.1 hj)⟩
theorem fits_may (d : Nat) (l : List Nat) (x : Nat) (hb : ∀ y ∈ l, y < 3 ^ d) (hx : x < 3 ^ d) : fitsB d l x = mayB d l x := by
  rw [Bool.eq_iff_iff, fitsB_iff, mayB_iff]
  constructor
  · intro h a ha hc
    obtain ⟨i, hi, rfl⟩ := mem_at ha
    obtain ⟨j, hj, e⟩ := mem_at hc
    have hbi := hb _ ha
    rcases Nat.lt_trichotomy j i with g | g | g
    · refine (h i hi).2 j g ?_
      rw [e, thirdN_back d _ _ hx]
    · subst g
      exact (h j hj).1 (thirdN_eq d _ _ hbi hx e.symm)
    · refine (h j hj).2 i g ?_
      rw [thirdN_comm, e, thirdN_back d _ _ hx]
  · intro h i hi
    refine ⟨fun e => ?_, fun j hj e => ?_⟩
    · subst e
      refine h _ (at_mem hi) ?_
      rw [thirdN_self d _ hx]
      exact at_mem hi
    · refine h (l.getD i 0) (at_mem hi) ?_
      rw [← e, thirdN_back d _ _ (hb _ (at_mem (show j < l.length by omega)))]
      exact at_mem (by omega)
end Go.Proofs.Ytlalfjkenkmojaa
