/- residues and steps: different sums, free of sums, no progressions, in plain numbers -/
import Derived.Test.YtlalfjkenkmojaaCm
namespace Go.Proofs.Ytlalfjkenkmojaa

/-- A rule that tells whether the slice with one number more is right. -/
def ruleOf (g : List Nat → Bool) (l : List Nat) (x : Nat) : Bool := g (l ++ [x])
theorem snoc_cases (l : List Nat) : l = [] ∨ ∃ m x, l = m ++ [x] := by
  cases h : l with
  | nil => exact .inl rfl
  | cons a t => exact .inr ⟨(a :: t).dropLast, (a :: t).getLast (by simp), (List.dropLast_concat_getLast (by simp)).symm⟩
theorem keepsL_rule (g : List Nat → Bool) (h0 : g [] = true) (h : ∀ l x, g (l ++ [x]) = true → g l = true) (l : List Nat) : keepsL (ruleOf g) l = g l := by
  obtain ⟨n, hn⟩ : ∃ n, n = l.length := ⟨_, rfl⟩
  induction n generalizing l with
  | zero => rw [List.eq_nil_of_length_eq_zero hn.symm, h0]; rfl
  | succ n ih =>
    rcases snoc_cases l with rfl | ⟨m, x, rfl⟩
    · simp at hn
    · rw [keepsL_snoc, ih m (by simp at hn; omega)]
      show (g m && g (m ++ [x])) = _
      cases hx : g (m ++ [x]) with
      | false => simp
      | true => rw [h m x hx]; rfl

/-- The sums of two numbers, in the order in which they are met. -/
def sumsP (n : Nat) (l : List Nat) (i : Nat) : List Nat := (List.range i).flatMap fun i => (List.range (i + 1)).map fun j => (l.getD i 0 + l.getD j 0) % n
def sumsQ (n : Nat) (l : List Nat) (i j : Nat) : List Nat := sumsP n l i ++ (List.range j).map fun j => (l.getD i 0 + l.getD j 0) % n
def sumsB (n : Nat) (l : List Nat) : Bool := decide (sumsP n l l.length).Nodup
theorem sumsQ_zero (n : Nat) (l : List Nat) (i : Nat) : sumsQ n l i 0 = sumsP n l i := by simp [sumsQ]
theorem sumsQ_end (n : Nat) (l : List Nat) (i : Nat) : sumsQ n l i (i + 1) = sumsP n l (i + 1) := by
  unfold sumsQ sumsP
  rw [List.range_succ (n := i), List.flatMap_append, List.flatMap_singleton, List.range_succ (n := i)]
theorem sumsQ_succ (n : Nat) (l : List Nat) (i j : Nat) : sumsQ n l i (j + 1) = sumsQ n l i j ++ [(l.getD i 0 + l.getD j 0) % n] := by
  unfold sumsQ
  rw [List.range_succ, List.map_append, ← List.append_assoc]
  rfl
theorem nodup_snoc {l : List Nat} {x : Nat} (h : l.Nodup) (hx : x ∉ l) : (l ++ [x]).Nodup := by
  rw [List.nodup_append]
  exact ⟨h, by simp, fun a ha b hb => by simp at hb; subst hb; exact fun e => hx (e ▸ ha)⟩
theorem sumsQ_pre (n : Nat) (l : List Nat) {i j : Nat} (hi : i < l.length) (hj : j ≤ i) : ∃ t, sumsP n l l.length = sumsQ n l i (j + 1) ++ t := by
  have h1 : ∀ k, i + 1 ≤ k → ∃ t, sumsP n l k = sumsP n l (i + 1) ++ t := by
    intro k hk
    induction k with
    | zero => omega
    | succ k ih =>
      by_cases e : i = k
      · subst e; exact ⟨[], by simp⟩
      · obtain ⟨t, ht⟩ := ih (by omega)
        have hs := sumsQ_end n l k
        unfold sumsQ at hs
        exact ⟨_, by rw [← hs, ht, List.append_assoc]⟩
  have h2 : ∀ k, j + 1 ≤ k → ∃ t, sumsQ n l i k = sumsQ n l i (j + 1) ++ t := by
    intro k hk
    induction k with
    | zero => omega
    | succ k ih =>
      by_cases e : j = k
      · subst e; exact ⟨[], by simp⟩
      · obtain ⟨t, ht⟩ := ih (by omega)
        exact ⟨_, by rw [sumsQ_succ, ht, List.append_assoc]⟩
  obtain ⟨t, ht⟩ := h1 l.length (by omega)
  obtain ⟨u, hu⟩ := h2 (i + 1) (by omega)
  rw [ht, ← sumsQ_end, hu, List.append_assoc]
  exact ⟨_, rfl⟩
theorem sumsB_bad {n : Nat} {l : List Nat} {i j : Nat} (hi : i < l.length) (hj : j ≤ i) (h : (l.getD i 0 + l.getD j 0) % n ∈ sumsQ n l i j) : sumsB n l = false := by
  obtain ⟨t, ht⟩ := sumsQ_pre n l hi hj
  unfold sumsB
  refine decide_eq_false fun hn => ?_
  rw [ht, sumsQ_succ, List.nodup_append, List.nodup_append] at hn
  exact hn.1.2.2 _ h _ (by simp) rfl

theorem mem_sumsP {n : Nat} {l : List Nat} {k s : Nat} : s ∈ sumsP n l k ↔ ∃ i j, i < k ∧ j ≤ i ∧ (l.getD i 0 + l.getD j 0) % n = s := by
  unfold sumsP
  simp only [List.mem_flatMap, List.mem_range, List.mem_map]
  constructor
  · rintro ⟨i, hi, j, hj, e⟩; exact ⟨i, j, hi, by omega, e⟩
  · rintro ⟨i, j, hi, hj, e⟩; exact ⟨i, hi, j, by omega, e⟩
theorem mem_sumsQ {n : Nat} {l : List Nat} {k m s : Nat} : s ∈ sumsQ n l k m ↔ (∃ i j, i < k ∧ j ≤ i ∧ (l.getD i 0 + l.getD j 0) % n = s) ∨ ∃ j, j < m ∧ (l.getD k 0 + l.getD j 0) % n = s := by
  unfold sumsQ
  rw [List.mem_append, mem_sumsP]
  simp
/-- No two pairs of places have the same sum. -/
theorem sumsB_iff (n : Nat) (l : List Nat) : sumsB n l = true ↔ ∀ i j i' j', i < l.length → j ≤ i → i' < l.length → j' ≤ i' → (l.getD i 0 + l.getD j 0) % n = (l.getD i' 0 + l.getD j' 0) % n → i = i' ∧ j = j' := by
  constructor
  · intro h
    -- no later pair has the sum of an earlier one
    have key : ∀ i j i' j', i < l.length → j ≤ i → j' ≤ i' → (i' < i ∨ i' = i ∧ j' < j) → (l.getD i 0 + l.getD j 0) % n ≠ (l.getD i' 0 + l.getD j' 0) % n := by
      intro i j i' j' hi hj hj' ho e
      have hm : (l.getD i 0 + l.getD j 0) % n ∈ sumsQ n l i j := by
        rw [mem_sumsQ]
        rcases ho with ho | ⟨rfl, ho⟩
        · exact .inl ⟨i', j', ho, hj', e.symm⟩
        · exact .inr ⟨j', ho, e.symm⟩
      rw [sumsB_bad hi hj hm] at h
      cases h
    intro i j i' j' hi hj hi' hj' e
    rcases Nat.lt_trichotomy i i' with g | g | g
    · exact absurd e.symm (key i' j' i j hi' hj' hj (.inl g))
    · subst g
      rcases Nat.lt_trichotomy j j' with g | g | g
      · exact absurd e.symm (key i j' i j hi hj' hj (.inr ⟨rfl, g⟩))
      · exact ⟨rfl, g⟩
      · exact absurd e (key i j i j' hi hj hj' (.inr ⟨rfl, g⟩))
    · exact absurd e (key i j i' j' hi hj hj' (.inl g))
  · intro h
    have hq : ∀ i, i < l.length → (sumsP n l i).Nodup → ∀ j, j ≤ i + 1 → (sumsQ n l i j).Nodup := by
      intro i hi hp j
      induction j with
      | zero => intro _; rw [sumsQ_zero]; exact hp
      | succ j ih =>
        intro hj
        rw [sumsQ_succ]
        refine nodup_snoc (ih (by omega)) fun hm => ?_
        rw [mem_sumsQ] at hm
        rcases hm with ⟨i', j', hi', hj', e⟩ | ⟨j', hj', e⟩
        · have := h i' j' i j (by omega) hj' hi (by omega) e; omega
        · have := h i j' i j hi (by omega) hi (by omega) e; omega
    have hp : ∀ k, k ≤ l.length → (sumsP n l k).Nodup := by
      intro k
      induction k with
      | zero => intro _; simp [sumsP]
      | succ k ih => intro hk; rw [← sumsQ_end]; exact hq k (by omega) (ih (by omega)) _ (Nat.le_refl _)
    exact decide_eq_true (hp _ (Nat.le_refl _))
/-- The sums stay different where numbers are left out. -/
theorem sumsB_sub (n : Nat) (l s : List Nat) (φ : Nat → Nat) (hφ : ∀ i j, j < i → i < s.length → φ j < φ i) (hl : ∀ i, i < s.length → φ i < l.length ∧ s.getD i 0 = l.getD (φ i) 0) (h : sumsB n l = true) : sumsB n s = true := by
  rw [sumsB_iff] at h ⊢
  have le : ∀ i j, j ≤ i → i < s.length → φ j ≤ φ i := by
    intro i j hj hi
    rcases Nat.lt_or_eq_of_le hj with g | g
    · exact Nat.le_of_lt (hφ i j g hi)
    · subst g; exact Nat.le_refl _
  have inj : ∀ i j, i < s.length → j < s.length → φ i = φ j → i = j := by
    intro i j hi hj e
    rcases Nat.lt_trichotomy i j with g | g | g
    · have := hφ j i g hj; omega
    · exact g
    · have := hφ i j g hi; omega
  intro i j i' j' hi hj hi' hj' e
  rw [(hl i hi).2, (hl j (by omega)).2, (hl i' hi').2, (hl j' (by omega)).2] at e
  have := h (φ i) (φ j) (φ i') (φ j') (hl i hi).1 (le i j hj hi) (hl i' hi').1 (le i' j' hj' hi') e
  exact ⟨inj i i' hi hi' this.1, inj j j' (by omega) (by omega) this.2⟩
theorem sumsB_pre (n : Nat) (l : List Nat) (x : Nat) (h : sumsB n (l ++ [x]) = true) : sumsB n l = true :=
  sumsB_sub n (l ++ [x]) l id (fun _ _ h _ => h) (fun i hi => ⟨by simp only [id]; simp; omega, by simp [hi, List.getElem?_append_left hi]⟩) h
theorem diffB_mono (n : Nat) : Mono (ruleOf (sumsB n)) := by
  intro l x y h
  refine sumsB_sub n ((l ++ [x]) ++ [y]) (l ++ [y]) (fun i => if i < l.length then i else i + 1) ?_ ?_ h
  · intro i j hj hi
    split <;> split <;> omega
  · intro i hi
    simp only [List.length_append, List.length_singleton] at hi
    by_cases g : i < l.length
    · rw [if_pos g]
      refine ⟨by simp; omega, ?_⟩
      simp [List.getElem?_append_left g, show i < l.length + 1 by omega, g]
    · obtain rfl : i = l.length := by omega
      rw [if_neg g]
      exact ⟨by simp, by simp⟩
theorem keeps_sums (n : Nat) (l : List Nat) : keepsL (ruleOf (sumsB n)) l = sumsB n l := keepsL_rule _ rfl (sumsB_pre n) l

/-- No sum of two is there. -/
def apartB (n : Nat) (l : List Nat) : Bool := l.all fun a => l.all fun b => !l.contains ((a + b) % n)
theorem apartB_iff (n : Nat) (l : List Nat) : apartB n l = true ↔ ∀ a ∈ l, ∀ b ∈ l, (a + b) % n ∉ l := by
  unfold apartB
  simp
theorem apartB_sub (n : Nat) (l s : List Nat) (hs : ∀ x ∈ s, x ∈ l) (h : apartB n l = true) : apartB n s = true := by
  rw [apartB_iff] at h ⊢
  exact fun a ha b hb hc => h a (hs a ha) b (hs b hb) (hs _ hc)
theorem freeB_mono (n : Nat) : Mono (ruleOf (apartB n)) := fun l x y h => apartB_sub n _ _ (fun z hz => by simp at hz ⊢; rcases hz with hz | hz <;> simp [hz]) h
theorem keeps_apart (n : Nat) (l : List Nat) : keepsL (ruleOf (apartB n)) l = apartB n l := keepsL_rule _ rfl (fun l x h => apartB_sub n _ _ (fun z hz => by simp [hz]) h) l

/-- The number ends no progression. -/
def endsB (l : List Nat) (x : Nat) : Bool := l.all fun m => !(decide (x ≤ 2 * m) && l.contains (2 * m - x))
theorem endsB_iff (l : List Nat) (x : Nat) : endsB l x = true ↔ ∀ m ∈ l, x ≤ 2 * m → 2 * m - x ∉ l := by
  unfold endsB
  rw [List.all_eq_true]
  refine forall_congr' fun m => forall_congr' fun hm => ?_
  by_cases g : x ≤ 2 * m <;> simp [g]
theorem endsB_mono : Mono endsB := by
  intro l x y h
  rw [endsB_iff] at h ⊢
  exact fun m hm hx hc => h m (by simp [hm]) hx (by simp [hc])
/-- No number and one before it go on to a third one. -/
def stepsR (l : List Nat) : Bool := (List.range l.length).all fun i => (List.range i).all fun j => !l.contains (2 * l.getD i 0 - l.getD j 0)
theorem stepsR_iff (l : List Nat) : stepsR l = true ↔ ∀ i j, i < l.length → j < i → 2 * l.getD i 0 - l.getD j 0 ∉ l := by
  unfold stepsR
  simp only [List.all_eq_true, List.mem_range, Bool.not_eq_true', List.contains_eq_mem, decide_eq_false_iff_not]
  exact ⟨fun h i j hi hj => h i hi j hj, fun h i hi j hj => h i j hi hj⟩
theorem keeps_steps (l : List Nat) (hu : Up l) : keepsL endsB l = stepsR l := by
  rw [Bool.eq_iff_iff, keepsL_iff, stepsR_iff]
  constructor
  · intro h i j hi hj hc
    obtain ⟨k, hk, e⟩ := mem_at hc
    have h1 := up_lt hu hj hi
    have hik : i < k := (up_lt_iff hu hi hk).1 (by omega)
    have := (endsB_iff _ _).1 (h k hk) (l.getD i 0) ((mem_take_at (by omega)).2 ⟨i, hik, rfl⟩) (by omega)
    refine this ((mem_take_at (by omega)).2 ⟨j, by omega, by omega⟩)
  · intro h i hi
    rw [endsB_iff]
    intro m hm hx hc
    rw [mem_take_at (by omega)] at hm hc
    obtain ⟨j, hj, rfl⟩ := hm
    obtain ⟨k, hk, e⟩ := hc
    have h1 := up_lt hu hj hi
    have hkj : k < j := (up_lt_iff hu (by omega) (by omega)).1 (by omega)
    refine h j k (by omega) hkj ?_
    rw [show 2 * l.getD j 0 - l.getD k 0 = l.getD i 0 by omega]
    exact at_mem hi
end Go.Proofs.Ytlalfjkenkmojaa
