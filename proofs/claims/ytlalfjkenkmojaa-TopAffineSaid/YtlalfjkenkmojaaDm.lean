/- residues with different sums, moved; free of sums, and multiplied; in plain numbers -/
import Derived.Test.YtlalfjkenkmojaaGs
import Derived.Test.YtlalfjkenkmojaaMm
namespace Go.Proofs.Ytlalfjkenkmojaa

theorem modc {x n : Nat} (h : x < n + n) : (x < n ∧ x % n = x) ∨ (n ≤ x ∧ x % n + n = x) := by
  rcases Nat.lt_or_ge x n with g | g
  · exact .inl ⟨g, Nat.mod_eq_of_lt g⟩
  · refine .inr ⟨g, ?_⟩
    rw [Nat.mod_eq_sub_mod g, Nat.mod_eq_of_lt (by omega)]
    omega
theorem sums_set {n : Nat} {l : List Nat} (hu : Up l) : sumsB n l = true ↔ ∀ a ∈ l, ∀ b ∈ l, ∀ c ∈ l, ∀ d ∈ l, (a + b) % n = (c + d) % n → (a = c ∧ b = d) ∨ (a = d ∧ b = c) := by
  rw [sumsB_iff]
  constructor
  · intro h a ha b hb c hc d hd e
    obtain ⟨i, hi, rfl⟩ := mem_at ha
    obtain ⟨j, hj, rfl⟩ := mem_at hb
    obtain ⟨i', hi', rfl⟩ := mem_at hc
    obtain ⟨j', hj', rfl⟩ := mem_at hd
    rcases Nat.le_total j i with g | g <;> rcases Nat.le_total j' i' with g' | g'
    · obtain ⟨rfl, rfl⟩ := h i j i' j' hi g hi' g' e
      exact .inl ⟨rfl, rfl⟩
    · obtain ⟨rfl, rfl⟩ := h i j j' i' hi g hj' g' (by rw [e, Nat.add_comm])
      exact .inr ⟨rfl, rfl⟩
    · obtain ⟨rfl, rfl⟩ := h j i i' j' hj g hi' g' (by rw [Nat.add_comm, e])
      exact .inr ⟨rfl, rfl⟩
    · obtain ⟨rfl, rfl⟩ := h j i j' i' hj g hj' g' (by rw [Nat.add_comm, e, Nat.add_comm])
      exact .inl ⟨rfl, rfl⟩
  · intro h i j i' j' hi hj hi' hj' e
    rcases h _ (at_mem hi) _ (at_mem (show j < l.length by omega)) _ (at_mem hi') _ (at_mem (show j' < l.length by omega)) e with ⟨h1, h2⟩ | ⟨h1, h2⟩
    · exact ⟨up_inj hu hi hi' h1, up_inj hu (by omega) (by omega) h2⟩
    · have h3 := up_inj hu hi (by omega) h1
      have h4 := up_inj hu (by omega) hi' h2
      omega
theorem flat_len {α : Type} (l : List α) (f : α → List Nat) (c : Nat) (h : ∀ x ∈ l, (f x).length = c) : (l.flatMap f).length = l.length * c := by
  induction l with
  | nil => simp
  | cons x l ih =>
    rw [List.flatMap_cons, List.length_append, ih fun y hy => h y (by simp [hy]), h x (by simp), List.length_cons, Nat.add_mul]
    omega
def skipN (i j : Nat) : Nat := if j < i then j else j + 1
theorem skipN_ne (i j : Nat) : skipN i j ≠ i := by unfold skipN; split <;> omega
theorem skipN_lt {i j k : Nat} (hi : i < k) (hj : j < k - 1) : skipN i j < k := by unfold skipN; split <;> omega
theorem skipN_inj {i j j' : Nat} (h : skipN i j = skipN i j') : j = j' := by
  unfold skipN at h
  split at h <;> split at h <;> omega
theorem diff_mod {a b n : Nat} (ha : a < n) (hb : b < n) (h : a ≠ b) : (a < b ∧ (a + n - b) % n + b = a + n) ∨ (b < a ∧ (a + n - b) % n + b = a) := by
  have := modc (show a + n - b < n + n by omega)
  omega
theorem nodup_map_range {m : Nat} {f : Nat → Nat} (h : ∀ i j, i < m → j < m → f i = f j → i = j) : ((List.range m).map f).Nodup := by
  unfold List.Nodup
  rw [List.pairwise_map]
  refine List.Pairwise.imp_of_mem ?_ (List.pairwise_lt_range (n := m))
  intro a b ha hb hlt e
  have := h a b (List.mem_range.1 ha) (List.mem_range.1 hb) e
  omega
theorem sums_bound {n : Nat} {l : List Nat} (hu : Up l) (hb : ∀ x ∈ l, x < n) (h : sumsB n l = true) : l.length * (l.length - 1) ≤ n - 1 := by
  rw [sums_set hu] at h
  obtain ⟨k, hk⟩ : ∃ k, k = l.length := ⟨_, rfl⟩
  have hbd : ∀ i, i < k → l.getD i 0 < n := fun i hi => hb _ (at_mem (by omega))
  have hne : ∀ i j, i < k → j < k → i ≠ j → l.getD i 0 ≠ l.getD j 0 := fun i j hi hj g e => g (up_inj hu (by omega) (by omega) e)
  have key : ∀ i s i' s', i < k → s < k → i' < k → s' < k → s ≠ i → s' ≠ i' → (l.getD i 0 + n - l.getD s 0) % n = (l.getD i' 0 + n - l.getD s' 0) % n → i = i' ∧ s = s' := by
    intro i s i' s' hi hs hi' hs' g g' e
    have h1 := diff_mod (hbd i hi) (hbd s hs) (hne i s hi hs (Ne.symm g))
    have h2 := diff_mod (hbd i' hi') (hbd s' hs') (hne i' s' hi' hs' (Ne.symm g'))
    rw [← e] at h2
    have h3 : (l.getD i 0 + l.getD s' 0) % n = (l.getD i' 0 + l.getD s 0) % n := by
      generalize (l.getD i 0 + n - l.getD s 0) % n = r at *
      have h4 : l.getD i 0 + l.getD s' 0 = l.getD i' 0 + l.getD s 0 ∨ l.getD i 0 + l.getD s' 0 = l.getD i' 0 + l.getD s 0 + n ∨ l.getD i 0 + l.getD s' 0 + n = l.getD i' 0 + l.getD s 0 := by omega
      rcases h4 with h4 | h4 | h4
      · rw [h4]
      · rw [h4, Nat.add_mod_right]
      · rw [← h4, Nat.add_mod_right]
    rcases h _ (at_mem (show i < l.length by omega)) _ (at_mem (show s' < l.length by omega)) _ (at_mem (show i' < l.length by omega)) _ (at_mem (show s < l.length by omega)) h3 with ⟨a, b⟩ | ⟨a, b⟩
    · exact ⟨up_inj hu (by omega) (by omega) a, (up_inj hu (by omega) (by omega) b).symm⟩
    · exact absurd a (hne i s hi hs (Ne.symm g))
  have hnd : ((List.range k).flatMap fun i => (List.range (k - 1)).map fun j => (l.getD i 0 + n - l.getD (skipN i j) 0) % n).Nodup := by
    unfold List.Nodup
    rw [List.pairwise_flatMap]
    refine ⟨fun i hi => ?_, ?_⟩
    · have hi := List.mem_range.1 hi
      refine nodup_map_range fun j j' hj hj' e => ?_
      exact skipN_inj (key i _ i _ hi (skipN_lt hi hj) hi (skipN_lt hi hj') (skipN_ne _ _) (skipN_ne _ _) e).2
    · refine List.Pairwise.imp_of_mem ?_ (List.pairwise_lt_range (n := k))
      intro i i' hi hi' hlt x hx y hy e
      have hi := List.mem_range.1 hi
      have hi' := List.mem_range.1 hi'
      obtain ⟨j, hj, rfl⟩ := List.mem_map.1 hx
      obtain ⟨j', hj', rfl⟩ := List.mem_map.1 hy
      have hj := List.mem_range.1 hj
      have hj' := List.mem_range.1 hj'
      have := (key i _ i' _ hi (skipN_lt hi hj) hi' (skipN_lt hi' hj') (skipN_ne _ _) (skipN_ne _ _) e).1
      omega
  have hlen := flat_len (List.range k) (fun i => (List.range (k - 1)).map fun j => (l.getD i 0 + n - l.getD (skipN i j) 0) % n) (k - 1) (fun x _ => by simp)
  rw [List.length_range] at hlen
  have hz : ∀ x ∈ (List.range k).flatMap fun i => (List.range (k - 1)).map fun j => (l.getD i 0 + n - l.getD (skipN i j) 0) % n, x < n ∧ 0 < x := by
    intro x hx
    obtain ⟨i, hi, hx⟩ := List.mem_flatMap.1 hx
    obtain ⟨j, hj, rfl⟩ := List.mem_map.1 hx
    have hi := List.mem_range.1 hi
    have hj := List.mem_range.1 hj
    have h1 := diff_mod (hbd i hi) (hbd _ (skipN_lt hi hj)) (hne i _ hi (skipN_lt hi hj) (Ne.symm (skipN_ne i j)))
    have := hbd i hi
    have := hbd _ (skipN_lt hi hj)
    omega
  by_cases hn : n = 0
  · subst hn
    have : l = [] := by
      cases l with
      | nil => rfl
      | cons a t => exact absurd (hb a (by simp)) (by omega)
    subst this; simp
  have hp := nodup_len n (l := 0 :: _) (List.nodup_cons.2 ⟨fun h0 => absurd (hz 0 h0).2 (by omega), hnd⟩) (fun x hx => by
    rcases List.mem_cons.1 hx with rfl | hx
    · omega
    · exact (hz x hx).1)
  rw [List.length_cons, hlen] at hp
  rw [← hk]
  omega
theorem mod_inj {x y s n : Nat} (hx : x < n) (hy : y < n) (hs : s < n) (h : (x + s) % n = (y + s) % n) : x = y := by
  have h1 := modc (show x + s < n + n by omega)
  have h2 := modc (show y + s < n + n by omega)
  omega
theorem shift_sum (a b t n : Nat) : ((a + t) % n + (b + t) % n) % n = ((a + b) % n + (t + t) % n) % n := by
  rw [← Nat.add_mod, ← Nat.add_mod]
  congr 1; omega
theorem sums_shift {n t : Nat} {l m : List Nat} (hu : Up l) (hum : Up m) (hb : ∀ x ∈ l, x < n) (ht : t < n) (hm : ∀ y, y ∈ m ↔ ∃ x ∈ l, (x + t) % n = y) : sumsB n m = sumsB n l := by
  rw [Bool.eq_iff_iff, sums_set hum, sums_set hu]
  have hn : 0 < n := by omega
  have tt : (t + t) % n < n := Nat.mod_lt _ hn
  constructor
  · intro h a ha b hb' c hc d hd e
    have := h _ ((hm _).2 ⟨a, ha, rfl⟩) _ ((hm _).2 ⟨b, hb', rfl⟩) _ ((hm _).2 ⟨c, hc, rfl⟩) _ ((hm _).2 ⟨d, hd, rfl⟩) (by rw [shift_sum, shift_sum, e])
    rcases this with ⟨h1, h2⟩ | ⟨h1, h2⟩
    · exact .inl ⟨mod_inj (hb a ha) (hb c hc) ht h1, mod_inj (hb b hb') (hb d hd) ht h2⟩
    · exact .inr ⟨mod_inj (hb a ha) (hb d hd) ht h1, mod_inj (hb b hb') (hb c hc) ht h2⟩
  · intro h a ha b hb' c hc d hd e
    obtain ⟨a, ha2, rfl⟩ := (hm _).1 ha
    obtain ⟨b, hb2, rfl⟩ := (hm _).1 hb'
    obtain ⟨c, hc2, rfl⟩ := (hm _).1 hc
    obtain ⟨d, hd2, rfl⟩ := (hm _).1 hd
    rw [shift_sum, shift_sum] at e
    rcases h a ha2 b hb2 c hc2 d hd2 (mod_inj (Nat.mod_lt _ hn) (Nat.mod_lt _ hn) tt e) with ⟨rfl, rfl⟩ | ⟨rfl, rfl⟩
    · exact .inl ⟨rfl, rfl⟩
    · exact .inr ⟨rfl, rfl⟩

theorem sorted_up (m : List Nat) (hn : m.Nodup) : Up (m.mergeSort fun x y => decide (x ≤ y)) := by
  have hp : (m.mergeSort fun x y => decide (x ≤ y)).Perm m := List.mergeSort_perm _ _
  have h1 : (m.mergeSort fun x y => decide (x ≤ y)).Pairwise (· ≠ ·) := hp.nodup_iff.2 hn
  have h2 := List.pairwise_mergeSort (le := fun x y : Nat => decide (x ≤ y)) (by intro x y z h1 h2; simp at *; omega) (by intro x y; simp; omega) m
  unfold Up
  refine (h1.and h2).imp ?_
  rintro a b ⟨h3, h4⟩
  have := of_decide_eq_true h4
  omega
theorem map_nodup {l : List Nat} {g : Nat → Nat} (hu : Up l) (h : ∀ x ∈ l, ∀ y ∈ l, g x = g y → x = y) : (l.map g).Nodup := by
  unfold List.Nodup
  rw [List.pairwise_map]
  refine List.Pairwise.imp_of_mem ?_ hu
  intro a b ha hb hlt e
  have := h a ha b hb e
  omega
/-- Numbers, moved and sorted. -/
def sortN (l : List Nat) : List Nat := l.mergeSort fun x y => decide (x ≤ y)
theorem sortN_mem {l : List Nat} {y : Nat} : y ∈ sortN l ↔ y ∈ l := (List.mergeSort_perm l _).mem_iff
theorem sortN_len (l : List Nat) : (sortN l).length = l.length := (List.mergeSort_perm l _).length_eq
theorem shift_up {n t : Nat} {l : List Nat} (hu : Up l) (hb : ∀ x ∈ l, x < n) (ht : t < n) : Up (sortN (l.map fun x => (x + t) % n)) :=
  sorted_up _ (map_nodup hu fun x hx y hy e => mod_inj (hb x hx) (hb y hy) ht e)
theorem shift_same {n t : Nat} {l : List Nat} (hu : Up l) (hb : ∀ x ∈ l, x < n) (ht : t < n) : sumsB n (sortN (l.map fun x => (x + t) % n)) = sumsB n l :=
  sums_shift hu (shift_up hu hb ht) hb ht fun y => by rw [sortN_mem, List.mem_map]

/-- Sets free of sums have at most half of the residues. -/
theorem apart_half {n : Nat} {l : List Nat} (hu : Up l) (hb : ∀ x ∈ l, x < n) (h : apartB n l = true) : 2 * l.length ≤ n := by
  rw [apartB_iff] at h
  cases hl : l with
  | nil => simp
  | cons a t =>
    have ha : a ∈ l := by rw [hl]; simp
    rw [← hl]
    have hn : 0 < n := by have := hb a ha; omega
    have hnd : (l ++ l.map fun x => (x + a) % n).Nodup := by
      rw [List.nodup_append]
      refine ⟨hu.imp fun h => by omega, map_nodup hu fun x hx y hy e => mod_inj (hb x hx) (hb y hy) (hb a ha) e, fun x hx y hy e => ?_⟩
      obtain ⟨z, hz, rfl⟩ := List.mem_map.1 hy
      exact h z hz a ha (e ▸ hx)
    have := nodup_len n hnd fun x hx => by
      rcases List.mem_append.1 hx with hx | hx
      · exact hb x hx
      · obtain ⟨z, _, rfl⟩ := List.mem_map.1 hx
        exact Nat.mod_lt _ hn
    rw [List.length_append, List.length_map] at this
    omega
def oddL (n : Nat) : List Nat := (List.range (n / 2)).map fun i => 2 * i + 1
theorem oddL_up (n : Nat) : Up (oddL n) := by
  unfold Up oddL
  rw [List.pairwise_map]
  exact (List.pairwise_lt_range (n := n / 2)).imp fun h => by omega
theorem oddL_bd (n : Nat) : ∀ x ∈ oddL n, x < n := by
  intro x hx
  obtain ⟨i, hi, rfl⟩ := List.mem_map.1 hx
  have := List.mem_range.1 hi
  omega
theorem oddL_apart {n : Nat} (h : n % 2 = 0) : apartB n (oddL n) = true := by
  rw [apartB_iff]
  intro a ha b hb hc
  have h1 := oddL_bd n a ha
  have h2 := oddL_bd n b hb
  have h3 := modc (show a + b < n + n by omega)
  obtain ⟨i, _, rfl⟩ := List.mem_map.1 ha
  obtain ⟨j, _, rfl⟩ := List.mem_map.1 hb
  obtain ⟨k, _, e⟩ := List.mem_map.1 hc
  omega
theorem oddL_len {n : Nat} : (oddL n).length = n / 2 := by simp [oddL]
theorem times_inj {n t x y : Nat} (hg : Nat.gcd t n = 1) (hx : x < n) (hy : y < n) (h : x * t % n = y * t % n) : x = y := by
  have key : ∀ x y : Nat, x ≤ y → y < n → x * t % n = y * t % n → x = y := by
    intro x y hxy hy h
    have h1 := Nat.sub_mod_eq_zero_of_mod_eq h.symm
    rw [← Nat.sub_mul] at h1
    have h2 : n ∣ (y - x) * t := Nat.dvd_of_mod_eq_zero h1
    have h3 : Nat.Coprime n t := by rw [Nat.coprime_iff_gcd_eq_one, Nat.gcd_comm]; exact hg
    have h4 := h3.dvd_of_dvd_mul_right h2
    have := Nat.eq_zero_of_dvd_of_lt h4 (by omega)
    omega
  rcases Nat.le_total x y with g | g
  · exact key x y g hy h
  · exact (key y x g hx h.symm).symm
theorem times_sum (a b t n : Nat) : (a * t % n + b * t % n) % n = (a + b) % n * t % n := by
  rw [← Nat.add_mod, ← Nat.add_mul, Nat.mul_mod (a + b) t n, Nat.mul_mod ((a + b) % n) t n, Nat.mod_mod]
theorem apart_times {n t : Nat} {l m : List Nat} (hn : 0 < n) (hg : Nat.gcd t n = 1) (hb : ∀ x ∈ l, x < n) (hm : ∀ y, y ∈ m ↔ ∃ x ∈ l, x * t % n = y) : apartB n m = apartB n l := by
  rw [Bool.eq_iff_iff, apartB_iff, apartB_iff]
  constructor
  · intro h a ha b hb' hc
    refine h _ ((hm _).2 ⟨a, ha, rfl⟩) _ ((hm _).2 ⟨b, hb', rfl⟩) ?_
    rw [times_sum]
    exact (hm _).2 ⟨_, hc, rfl⟩
  · intro h a ha b hb' hc
    obtain ⟨a, ha2, rfl⟩ := (hm _).1 ha
    obtain ⟨b, hb2, rfl⟩ := (hm _).1 hb'
    obtain ⟨c, hc2, e⟩ := (hm _).1 hc
    rw [times_sum] at e
    have := times_inj hg (hb c hc2) (Nat.mod_lt _ hn) e
    exact h a ha2 b hb2 (this ▸ hc2)
theorem times_up {n t : Nat} {l : List Nat} (hg : Nat.gcd t n = 1) (hu : Up l) (hb : ∀ x ∈ l, x < n) : Up (sortN (l.map fun x => x * t % n)) :=
  sorted_up _ (map_nodup hu fun x hx y hy e => times_inj hg (hb x hx) (hb y hy) e)
theorem times_same {n t : Nat} {l : List Nat} (hn : 0 < n) (hg : Nat.gcd t n = 1) (hb : ∀ x ∈ l, x < n) : apartB n (sortN (l.map fun x => x * t % n)) = apartB n l :=
  apart_times hn hg hb fun y => by rw [sortN_mem, List.mem_map]

/-- The first place at which slices differ. -/
theorem before_at {a b : List Nat} (h : Before a b) {k : Nat} (hk : ∀ j, j < k → a.getD j 0 = b.getD j 0) (ha : k < a.length) : a.getD k 0 ≤ b.getD k 0 := by
  rcases h with rfl | ⟨p, x, y, s, t, rfl, rfl, hxy⟩
  · exact Nat.le_refl _
  · rcases Nat.lt_trichotomy k p.length with g | g | g
    · simp [List.getElem?_append_left g]
    · subst g; simp; omega
    · have := hk p.length g
      simp at this
      omega

/-- The greatest slices with different sums, and the greatest ones that are free of sums. -/
def mostN (n : Nat) : List Nat := longL (ruleOf (sumsB n)) (List.range' 0 n)
def wideN (n : Nat) : List Nat := longL (ruleOf (apartB n)) (List.range' 0 n)
theorem sub_bd {n : Nat} {l : List Nat} (h : List.Sublist l (List.range' 0 n)) : ∀ x ∈ l, x < n := fun x hx => by
  have := h.subset hx
  rw [List.mem_range'_1] at this
  omega
theorem mostN_up (n : Nat) : Up (mostN n) := sub_up (long_keeps _ _).2 (up_range' 0 n)
theorem mostN_bd (n : Nat) : ∀ x ∈ mostN n, x < n := sub_bd (long_keeps _ _).2
theorem mostN_sums (n : Nat) : sumsB n (mostN n) = true := by rw [← keeps_sums]; exact (long_keeps _ _).1
theorem mostN_most {n : Nat} {l : List Nat} (hu : Up l) (hb : ∀ x ∈ l, x < n) (h : sumsB n l = true) : l.length ≤ (mostN n).length :=
  long_most (up_sub n l 0 hu fun x hx => by have := hb x hx; omega) (by rw [keeps_sums]; exact h)
theorem mostN_first {n : Nat} {l : List Nat} (hu : Up l) (hb : ∀ x ∈ l, x < n) (h : sumsB n l = true) (hl : l.length = (mostN n).length) : Before (mostN n) l :=
  long_first (up_range' 0 n) (up_sub n l 0 hu fun x hx => by have := hb x hx; omega) (by rw [keeps_sums]; exact h) hl
theorem wideN_up (n : Nat) : Up (wideN n) := sub_up (long_keeps _ _).2 (up_range' 0 n)
theorem wideN_bd (n : Nat) : ∀ x ∈ wideN n, x < n := sub_bd (long_keeps _ _).2
theorem wideN_apart (n : Nat) : apartB n (wideN n) = true := by rw [← keeps_apart]; exact (long_keeps _ _).1
theorem wideN_most {n : Nat} {l : List Nat} (hu : Up l) (hb : ∀ x ∈ l, x < n) (h : apartB n l = true) : l.length ≤ (wideN n).length :=
  long_most (up_sub n l 0 hu fun x hx => by have := hb x hx; omega) (by rw [keeps_apart]; exact h)
theorem wideN_first {n : Nat} {l : List Nat} (hu : Up l) (hb : ∀ x ∈ l, x < n) (h : apartB n l = true) (hl : l.length = (wideN n).length) : Before (wideN n) l :=
  long_first (up_range' 0 n) (up_sub n l 0 hu fun x hx => by have := hb x hx; omega) (by rw [keeps_apart]; exact h) hl
theorem wideN_half (n : Nat) : 2 * (wideN n).length ≤ n := apart_half (wideN_up n) (wideN_bd n) (wideN_apart n)
theorem wideN_even {n : Nat} (h : n % 2 = 0) : 2 * (wideN n).length = n := by
  have h1 := wideN_most (oddL_up n) (oddL_bd n) (oddL_apart h)
  rw [oddL_len] at h1
  have := wideN_half n
  omega
theorem mostN_bound (n : Nat) : (mostN n).length * ((mostN n).length - 1) ≤ n - 1 := sums_bound (mostN_up n) (mostN_bd n) (mostN_sums n)
end Go.Proofs.Ytlalfjkenkmojaa
