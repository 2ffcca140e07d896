/- rulers backward, rulers as residues, and how short they may be -/
import Derived.Test.YtlalfjkenkmojaaGr
import Derived.Test.YtlalfjkenkmojaaTm
namespace Go.Proofs.Ytlalfjkenkmojaa

theorem mem_diffP' {l : List Nat} {k s : Nat} : s ∈ diffP l k ↔ ∃ i j, i < k ∧ j < i ∧ l.getD i 0 - l.getD j 0 = s := by
  unfold diffP
  simp only [List.mem_flatMap, List.mem_range, List.mem_map]
  constructor
  · rintro ⟨i, hi, j, hj, e⟩; exact ⟨i, j, hi, hj, e⟩
  · rintro ⟨i, j, hi, hj, e⟩; exact ⟨i, hi, j, hj, e⟩
theorem mem_diffQ' {l : List Nat} {k m s : Nat} : s ∈ diffQ l k m ↔ (∃ i j, i < k ∧ j < i ∧ l.getD i 0 - l.getD j 0 = s) ∨ ∃ j, j < m ∧ l.getD k 0 - l.getD j 0 = s := by
  unfold diffQ
  rw [List.mem_append, mem_diffP']
  simp
/-- No two pairs of places have the same difference. -/
theorem diffB_iff (l : List Nat) : diffB l = true ↔ ∀ i j i' j', i < l.length → j < i → i' < l.length → j' < i' → l.getD i 0 - l.getD j 0 = l.getD i' 0 - l.getD j' 0 → i = i' ∧ j = j' := by
  constructor
  · intro h
    have key : ∀ i j i' j', i < l.length → j < i → j' < i' → (i' < i ∨ i' = i ∧ j' < j) → l.getD i 0 - l.getD j 0 ≠ l.getD i' 0 - l.getD j' 0 := by
      intro i j i' j' hi hj hj' ho e
      have hm : l.getD i 0 - l.getD j 0 ∈ diffQ l i j := by
        rw [mem_diffQ']
        rcases ho with ho | ⟨rfl, ho⟩
        · exact .inl ⟨i', j', ho, hj', e.symm⟩
        · exact .inr ⟨j', ho, e.symm⟩
      rw [diffB_bad hi hj hm] at h
      cases h
    intro i j i' j' hi hj hi' hj' e
    rcases Nat.lt_trichotomy i i' with g | g | g
    · exact absurd e.symm (key i' j' i j hi' hj' hj (.inl g))
    · subst g
      rcases Nat.lt_trichotomy j j' with g | g | g
      · exact absurd e.symm (key i j' i j hi hj' hj (.inr ⟨rfl, g⟩))
      · exact ⟨rfl, g⟩
      · exact absurd e (key i j i j' hi hj hj' (.inr ⟨rfl, g⟩))
    · exact absurd e (key i j i' j' hi hj hj' (.inl g))
  · intro h
    have hq : ∀ i, i < l.length → (diffP l i).Nodup → ∀ j, j ≤ i → (diffQ l i j).Nodup := by
      intro i hi hp j
      induction j with
      | zero => intro _; rw [diffQ_zero]; exact hp
      | succ j ih =>
        intro hj
        rw [diffQ_succ]
        refine nodup_snoc (ih (by omega)) fun hm => ?_
        rw [mem_diffQ'] at hm
        rcases hm with ⟨i', j', hi', hj', e⟩ | ⟨j', hj', e⟩
        · have := h i' j' i j (by omega) hj' hi (by omega) e; omega
        · have := h i j' i j hi (by omega) hi (by omega) e; omega
    have hp : ∀ k, k ≤ l.length → (diffP l k).Nodup := by
      intro k
      induction k with
      | zero => intro _; simp [diffP]
      | succ k ih => intro hk; rw [← diffQ_end]; exact hq k (by omega) (ih (by omega)) _ (Nat.le_refl _)
    exact decide_eq_true (hp _ (Nat.le_refl _))
theorem up_getD {l : List Nat} (h : Up l) {i j : Nat} (hj : j < i) (hi : i < l.length) : l.getD j 0 < l.getD i 0 := by
  have := List.pairwise_iff_getElem.1 h j i (by omega) hi hj
  simpa [hi, show j < l.length by omega] using this
theorem nodup_len (n : Nat) : ∀ {l : List Nat}, l.Nodup → (∀ x ∈ l, x < n) → l.length ≤ n := by
  induction n with
  | zero =>
    intro l _ h
    cases l with
    | nil => simp
    | cons a l => exact absurd (h a (by simp)) (by omega)
  | succ n ih =>
    intro l hn h
    by_cases hm : n ∈ l
    · have h1 := ih (hn.erase n) fun x hx => by
        have hh := (hn.mem_erase_iff).1 hx
        have := h x hh.2; omega
      rw [List.length_erase_of_mem hm] at h1
      omega
    · have := ih hn fun x hx => by
        have h2 := h x hx
        have : x ≠ n := fun e => hm (e ▸ hx)
        omega
      omega
theorem diffP_len (l : List Nat) (i : Nat) : 2 * (diffP l i).length + i = i * i := by
  induction i with
  | zero => simp [diffP]
  | succ i ih =>
    rw [← diffQ_end]
    unfold diffQ
    rw [List.length_append, List.length_map, List.length_range, Nat.succ_mul_succ]
    omega
/-- The last mark of a ruler. -/
def lastN (l : List Nat) : Nat := l.getD (l.length - 1) 0
theorem rul_half {l : List Nat} (h : rulB l = true) : l.length * (l.length - 1) / 2 ≤ lastN l := by
  obtain ⟨h0, hu, hd⟩ := (rulB_iff l).1 h
  have hn : (diffP l l.length).Nodup := of_decide_eq_true hd
  have hp : ∀ x ∈ diffP l l.length, 0 < x ∧ x ≤ lastN l := fun x hx => by
    obtain ⟨i, j, hi, hj, rfl⟩ := mem_diffP'.1 hx
    have h1 := up_getD hu hj hi
    have h2 : l.getD i 0 ≤ lastN l := last_up hu (by simp [hi])
    omega
  have h1 := nodup_len (lastN l + 1) (l := 0 :: diffP l l.length) (List.nodup_cons.2 ⟨fun h => absurd (hp 0 h).1 (by omega), hn⟩) fun x hx => by
    rcases List.mem_cons.1 hx with rfl | hx
    · omega
    · have := (hp x hx).2; omega
  rw [List.length_cons] at h1
  have h2 := diffP_len l l.length
  have h3 : l.length * (l.length - 1) = l.length * l.length - l.length := by rw [Nat.mul_sub, Nat.mul_one]
  rw [h3]
  omega
/-- The ruler backward, the first k marks. -/
def backN (l : List Nat) (k : Nat) : List Nat := (List.range k).map fun t => lastN l - l.getD (l.length - 1 - t) 0
theorem backN_len (l : List Nat) (k : Nat) : (backN l k).length = k := by simp [backN]
theorem backN_get {l : List Nat} {k t : Nat} (h : t < k) : (backN l k).getD t 0 = lastN l - l.getD (l.length - 1 - t) 0 := by simp [backN, h]
theorem backN_succ (l : List Nat) (k : Nat) : backN l (k + 1) = backN l k ++ [lastN l - l.getD (l.length - 1 - k) 0] := by simp [backN, List.range_succ]
theorem rul_back {l : List Nat} (h : rulB l = true) : rulB (backN l l.length) = true := by
  obtain ⟨h0, hu, hd⟩ := (rulB_iff l).1 h
  have hle : ∀ i, i < l.length → l.getD i 0 ≤ lastN l := fun i hi => last_up hu (by simp [hi])
  have hd := (diffB_iff l).1 hd
  refine (rulB_iff _).2 ⟨?_, ?_, ?_⟩
  · by_cases hz : 0 < l.length
    · rw [backN_get hz]; unfold lastN; simp
    · have : l = [] := List.eq_nil_of_length_eq_zero (by omega)
      subst this; rfl
  · refine List.pairwise_iff_getElem.2 fun i j hi hj hij => ?_
    rw [backN_len] at hi hj
    have e1 := backN_get (l := l) (k := l.length) hi
    have e2 := backN_get (l := l) (k := l.length) hj
    have h1 := up_getD hu (show l.length - 1 - j < l.length - 1 - i by omega) (by omega)
    have h2 := hle (l.length - 1 - i) (by omega)
    have g1 : (backN l l.length)[i] = (backN l l.length).getD i 0 := by simp [backN_len, hi]
    have g2 : (backN l l.length)[j] = (backN l l.length).getD j 0 := by simp [backN_len, hj]
    rw [g1, g2, e1, e2]
    omega
  · refine (diffB_iff _).2 fun i j i' j' hi hj hi' hj' e => ?_
    rw [backN_len] at hi hi'
    rw [backN_get hi, backN_get hi', backN_get (show j < l.length by omega), backN_get (show j' < l.length by omega)] at e
    have a1 := hle (l.length - 1 - i) (by omega)
    have a2 := hle (l.length - 1 - j) (by omega)
    have a3 := hle (l.length - 1 - i') (by omega)
    have a4 := hle (l.length - 1 - j') (by omega)
    have b1 := up_getD hu (show l.length - 1 - i < l.length - 1 - j by omega) (by omega)
    have b2 := up_getD hu (show l.length - 1 - i' < l.length - 1 - j' by omega) (by omega)
    have := hd (l.length - 1 - j) (l.length - 1 - i) (l.length - 1 - j') (l.length - 1 - i') (by omega) (by omega) (by omega) (by omega) (by omega)
    omega
/-- Modulo more than twice its length a ruler has different sums. -/
theorem rul_sums {l : List Nat} (h : rulB l = true) : sumsB (2 * lastN l + 1) l = true := by
  obtain ⟨h0, hu, hd⟩ := (rulB_iff l).1 h
  have hle : ∀ i, i < l.length → l.getD i 0 ≤ lastN l := fun i hi => last_up hu (by simp [hi])
  have hd := (diffB_iff l).1 hd
  refine (sumsB_iff _ l).2 fun i j i' j' hi hj hi' hj' e => ?_
  have a1 := hle i hi
  have a2 := hle j (by omega)
  have a3 := hle i' hi'
  have a4 := hle j' (by omega)
  rw [Nat.mod_eq_of_lt (by omega), Nat.mod_eq_of_lt (by omega)] at e
  have mono : ∀ a b, a < b → b < l.length → l.getD a 0 < l.getD b 0 := fun a b hab hb => up_getD hu hab hb
  rcases Nat.lt_trichotomy i i' with g | g | g
  · exfalso
    have c1 := mono i i' g hi'
    have hjj : j' < j := by
      refine Nat.lt_of_not_le fun hc => ?_
      rcases Nat.lt_or_eq_of_le hc with c | c
      · have := mono j j' c (by omega); omega
      · subst c; omega
    have := hd i' i j j' hi' g (by omega) hjj (by omega)
    omega
  · subst g
    refine ⟨rfl, ?_⟩
    rcases Nat.lt_trichotomy j j' with g | g | g
    · have := mono j j' g (by omega); omega
    · exact g
    · have := mono j' j g (by omega); omega
  · exfalso
    have c1 := mono i' i g hi
    have hjj : j < j' := by
      refine Nat.lt_of_not_le fun hc => ?_
      rcases Nat.lt_or_eq_of_le hc with c | c
      · have := mono j' j c (by omega); omega
      · subst c; omega
    have := hd i i' j' j hi g (by omega) hjj (by omega)
    omega
end Go.Proofs.Ytlalfjkenkmojaa
