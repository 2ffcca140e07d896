/- rulers and colourings in plain numbers; the first of a length -/
import Derived.Test.YtlalfjkenkmojaaTm
namespace Go.Proofs.Ytlalfjkenkmojaa

theorem firstN_some {f : List Nat → Nat → Bool} {n : Nat} (m : Nat) : ∀ {l r : List Nat}, firstN f n m l = some r → ∃ s, r = l ++ s ∧ s.length = m ∧ (∀ x ∈ s, x < n) ∧ Goes f l s := by
  induction m with
  | zero => intro l r h; simp [firstN] at h; subst h; exact ⟨[], by simp, rfl, by simp, True.intro⟩
  | succ m ih =>
    intro l r h
    rw [firstN] at h
    obtain ⟨x, hx, hr⟩ := List.exists_of_findSome?_eq_some h
    split at hr
    · rename_i hf
      obtain ⟨s, h1, h2, h3, h4⟩ := ih hr
      refine ⟨x :: s, by rw [h1]; simp, by simp [h2], ?_, hf, h4⟩
      intro y hy
      rcases List.mem_cons.1 hy with rfl | hy
      · exact List.mem_range.1 hx
      · exact h3 y hy
    · cases hr
theorem firstN_none {f : List Nat → Nat → Bool} {n : Nat} (m : Nat) : ∀ {l : List Nat}, firstN f n m l = none → ∀ s, s.length = m → (∀ x ∈ s, x < n) → ¬ Goes f l s := by
  induction m with
  | zero => intro l h; simp [firstN] at h
  | succ m ih =>
    intro l h s hs hb hg
    cases s with
    | nil => simp at hs
    | cons x s =>
      rw [firstN, List.findSome?_eq_none_iff] at h
      have hx := h x (List.mem_range.2 (hb x (by simp)))
      rw [if_pos hg.1] at hx
      exact ih hx s (by simpa using hs) (fun y hy => hb y (by simp [hy])) hg.2

/-- The differences, in the order in which they are met. -/
def diffP (l : List Nat) (i : Nat) : List Nat := (List.range i).flatMap fun i => (List.range i).map fun j => l.getD i 0 - l.getD j 0
def diffQ (l : List Nat) (i j : Nat) : List Nat := diffP l i ++ (List.range j).map fun j => l.getD i 0 - l.getD j 0
def diffB (l : List Nat) : Bool := decide (diffP l l.length).Nodup
theorem diffQ_zero (l : List Nat) (i : Nat) : diffQ l i 0 = diffP l i := by simp [diffQ]
theorem diffQ_end (l : List Nat) (i : Nat) : diffQ l i i = diffP l (i + 1) := by
  unfold diffQ diffP
  rw [List.range_succ (n := i), List.flatMap_append, List.flatMap_singleton]
theorem diffQ_succ (l : List Nat) (i j : Nat) : diffQ l i (j + 1) = diffQ l i j ++ [l.getD i 0 - l.getD j 0] := by
  unfold diffQ
  rw [List.range_succ, List.map_append, ← List.append_assoc]
  rfl
theorem diffQ_pre (l : List Nat) {i j : Nat} (hi : i < l.length) (hj : j < i) : ∃ t, diffP l l.length = diffQ l i (j + 1) ++ t := by
  have h1 : ∀ k, i + 1 ≤ k → ∃ t, diffP l k = diffP l (i + 1) ++ t := by
    intro k hk
    induction k with
    | zero => omega
    | succ k ih =>
      by_cases e : i = k
      · subst e; exact ⟨[], by simp⟩
      · obtain ⟨t, ht⟩ := ih (by omega)
        have hs := diffQ_end l k
        unfold diffQ at hs
        exact ⟨_, by rw [← hs, ht, List.append_assoc]⟩
  have h2 : ∀ k, j + 1 ≤ k → ∃ t, diffQ l i k = diffQ l i (j + 1) ++ t := by
    intro k hk
    induction k with
    | zero => omega
    | succ k ih =>
      by_cases e : j = k
      · subst e; exact ⟨[], by simp⟩
      · obtain ⟨t, ht⟩ := ih (by omega)
        exact ⟨_, by rw [diffQ_succ, ht, List.append_assoc]⟩
  obtain ⟨t, ht⟩ := h1 l.length (by omega)
  obtain ⟨u, hu⟩ := h2 i (by omega)
  rw [ht, ← diffQ_end, hu, List.append_assoc]
  exact ⟨_, rfl⟩
theorem diffB_bad {l : List Nat} {i j : Nat} (hi : i < l.length) (hj : j < i) (h : l.getD i 0 - l.getD j 0 ∈ diffQ l i j) : diffB l = false := by
  obtain ⟨t, ht⟩ := diffQ_pre l hi hj
  unfold diffB
  refine decide_eq_false fun hn => ?_
  rw [ht, diffQ_succ, List.nodup_append, List.nodup_append] at hn
  exact hn.1.2.2 _ h _ (by simp) rfl
theorem diffP_congr {l m : List Nat} {k : Nat} (h : ∀ i, i < k → l.getD i 0 = m.getD i 0) : diffP l k = diffP m k := by
  unfold diffP
  rw [List.flatMap_def, List.flatMap_def]
  congr 1
  refine List.map_congr_left fun i hi => List.map_congr_left fun j hj => ?_
  have hi := List.mem_range.1 hi
  have hj := List.mem_range.1 hj
  rw [h i hi, h j (by omega)]
theorem snoc_at {l : List Nat} {x i : Nat} (h : i < l.length) : (l ++ [x]).getD i 0 = l.getD i 0 := by simp [h, List.getElem?_append_left h]
theorem snoc_last {l : List Nat} {x : Nat} : (l ++ [x]).getD l.length 0 = x := by simp
theorem diffB_pre (l : List Nat) (x : Nat) (h : diffB (l ++ [x]) = true) : diffB l = true := by
  unfold diffB at h ⊢
  have h := of_decide_eq_true h
  rw [List.length_append, List.length_singleton, ← diffQ_end] at h
  unfold diffQ at h
  rw [List.nodup_append] at h
  have h := h.1
  rw [diffP_congr (m := l) (fun i hi => snoc_at hi)] at h
  exact decide_eq_true h

/-- A ruler, or nothing. -/
def rulB (l : List Nat) : Bool := decide (l.getD 0 0 = 0) && decide (l.Pairwise (· < ·)) && diffB l
theorem rulB_iff (l : List Nat) : rulB l = true ↔ l.getD 0 0 = 0 ∧ Up l ∧ diffB l = true := by
  unfold rulB Up
  simp [and_assoc]
theorem up_pre {l : List Nat} {x : Nat} (h : Up (l ++ [x])) : Up l := (List.pairwise_append.1 h).1
theorem rulB_pre (l : List Nat) (x : Nat) (h : rulB (l ++ [x]) = true) : rulB l = true := by
  rw [rulB_iff] at h ⊢
  refine ⟨?_, up_pre h.2.1, diffB_pre l x h.2.2⟩
  cases l with
  | nil => rfl
  | cons a t => simpa using h.1
theorem keeps_rul (l : List Nat) : keepsL (ruleOf rulB) l = rulB l := keepsL_rule _ rfl rulB_pre l
theorem up_snoc {l : List Nat} {x : Nat} (h : Up l) (h0 : l ≠ []) (hx : l.getD (l.length - 1) 0 < x) : Up (l ++ [x]) := by
  unfold Up
  rw [List.pairwise_append]
  refine ⟨h, by simp, fun a ha b hb => ?_⟩
  simp at hb; subst hb
  obtain ⟨k, hk, rfl⟩ := mem_at ha
  have hl : 0 < l.length := List.length_pos_iff.2 h0
  rcases Nat.lt_or_ge k (l.length - 1) with g | g
  · have := up_lt h g (by omega); omega
  · rw [show k = l.length - 1 by omega]; exact hx
/-- One mark more. -/
theorem rul_snoc {l : List Nat} {x : Nat} (h : rulB l = true) (h0 : l ≠ []) : ruleOf rulB l x = (decide (l.getD (l.length - 1) 0 < x) && diffB (l ++ [x])) := by
  unfold ruleOf
  have hl : 0 < l.length := List.length_pos_iff.2 h0
  rw [rulB_iff] at h
  rw [Bool.eq_iff_iff, rulB_iff, Bool.and_eq_true, decide_eq_true_eq]
  constructor
  · rintro ⟨_, h2, h3⟩
    have := up_lt (i := l.length - 1) (j := l.length) h2 (by omega) (by simp)
    rw [snoc_at (by omega), snoc_last] at this
    exact ⟨this, h3⟩
  · rintro ⟨h2, h3⟩
    exact ⟨by rw [snoc_at hl]; exact h.1, up_snoc h.2.1 h0 h2, h3⟩
theorem rul_nil (x : Nat) : ruleOf rulB [] x = decide (x = 0) := by
  unfold ruleOf
  rw [Bool.eq_iff_iff, rulB_iff, decide_eq_true_eq]
  constructor
  · rintro ⟨h, _⟩; simpa using h
  · rintro rfl; exact ⟨rfl, by simp [Up], rfl⟩

/-- The first ruler with a last number, that begins with some and has m more, as the reference finds it. -/
def shortN (L : Nat) : Nat → List Nat → Option (List Nat)
  | 0, l => if l.getD (l.length - 1) 0 = L then some l else none
  | m + 1, l => (List.range' (l.getD (l.length - 1) 0 + 1) (L - l.getD (l.length - 1) 0)).findSome? fun x => if rulB (l ++ [x]) then shortN L m (l ++ [x]) else none

theorem goes_rul {l s : List Nat} (hl : rulB l = true) : Goes (ruleOf rulB) l s ↔ rulB (l ++ s) = true := by
  rw [goes_keeps, keeps_rul, keeps_rul]
  constructor
  · intro h; exact h.1 hl
  · intro h; exact ⟨fun _ => h, fun h' => by rw [hl] at h'; cases h'⟩

theorem findSome_congr {α β : Type} {l : List α} {f g : α → Option β} (h : ∀ x ∈ l, f x = g x) : l.findSome? f = l.findSome? g := by
  induction l with
  | nil => rfl
  | cons x l ih => rw [List.findSome?_cons, List.findSome?_cons, h x (by simp), ih fun y hy => h y (by simp [hy])]
theorem findSome_skip {α β : Type} {l : List α} {f : α → Option β} (h : ∀ x ∈ l, f x = none) : l.findSome? f = none := List.findSome?_eq_none_iff.2 h
theorem last_up {l : List Nat} (h : Up l) {x : Nat} (hx : x ∈ l) : x ≤ l.getD (l.length - 1) 0 := by
  obtain ⟨k, hk, rfl⟩ := mem_at hx
  rcases Nat.lt_or_ge k (l.length - 1) with g | g
  · exact Nat.le_of_lt (up_lt h g (by omega))
  · rw [show k = l.length - 1 by omega]; exact Nat.le_refl _

/-- Where no shorter one is, both searches find the same. -/
theorem short_first (L : Nat) (m : Nat) : ∀ l, l ≠ [] → rulB l = true → l.getD (l.length - 1) 0 ≤ L → (∀ s, s.length = m → rulB (l ++ s) = true → L ≤ (l ++ s).getD ((l ++ s).length - 1) 0) →
    shortN L m l = firstN (ruleOf rulB) (L + 1) m l := by
  induction m with
  | zero =>
    intro l _ hr hL hs
    have := hs [] rfl (by simpa using hr)
    simp only [List.append_nil] at this
    rw [shortN, firstN, if_pos (by omega)]
  | succ m ih =>
    intro l h0 hr hL hs
    rw [shortN, firstN]
    have e : List.range (L + 1) = List.range (l.getD (l.length - 1) 0 + 1) ++ List.range' (l.getD (l.length - 1) 0 + 1) (L - l.getD (l.length - 1) 0) := by
      have h := List.range'_append_1 (s := 0) (m := l.getD (l.length - 1) 0 + 1) (n := L - l.getD (l.length - 1) 0)
      rw [Nat.zero_add] at h
      rw [List.range_eq_range', List.range_eq_range', h]
      congr 1; omega
    rw [e, List.findSome?_append, findSome_skip (l := List.range (l.getD (l.length - 1) 0 + 1)) ?_, Option.none_or]
    · refine findSome_congr fun x hx => ?_
      rw [List.mem_range'_1] at hx
      show _ = if rulB (l ++ [x]) = true then _ else _
      split
      · rename_i hx'
        refine ih (l ++ [x]) (by simp) hx' (by simp; omega) fun s hl hr' => ?_
        have := hs (x :: s) (by simp [hl]) (by simpa using hr')
        simpa using this
      · rfl
    · intro x hx
      have hx := List.mem_range.1 hx
      rw [rul_snoc hr h0, decide_eq_false (by omega)]
      rfl
theorem shortN_some {L : Nat} (m : Nat) : ∀ {l r : List Nat}, rulB l = true → shortN L m l = some r → ∃ s, r = l ++ s ∧ s.length = m ∧ rulB (l ++ s) = true ∧ (l ++ s).getD ((l ++ s).length - 1) 0 = L := by
  induction m with
  | zero =>
    intro l r hl h
    rw [shortN] at h
    split at h
    · obtain rfl := Option.some.inj h
      exact ⟨[], by simp, rfl, by simpa using hl, by simpa⟩
    · cases h
  | succ m ih =>
    intro l r hl h
    rw [shortN] at h
    obtain ⟨x, hx, hr⟩ := List.exists_of_findSome?_eq_some h
    split at hr
    · rename_i hf
      obtain ⟨s, h1, h2, h3, h4⟩ := ih hf hr
      exact ⟨x :: s, by rw [h1]; simp, by simp [h2], by simpa using h3, by simpa using h4⟩
    · cases hr
theorem firstN_zero (n k : Nat) : firstN (ruleOf rulB) (n + 1) (k + 1) [] = firstN (ruleOf rulB) (n + 1) k [0] := by
  rw [firstN, List.range_succ_eq_map, List.findSome?_cons]
  rw [rul_nil, decide_eq_true rfl, if_pos rfl]
  have : (List.map Nat.succ (List.range n)).findSome? (fun x => if ruleOf rulB [] x = true then firstN (ruleOf rulB) (n + 1) k ([] ++ [x]) else none) = none := by
    refine findSome_skip fun x hx => ?_
    obtain ⟨y, _, rfl⟩ := List.mem_map.1 hx
    rw [rul_nil]; rfl
  rw [this]
  rw [List.nil_append]
  cases firstN (ruleOf rulB) (n + 1) k [0] <;> rfl
theorem rul_zero : rulB [0] = true := by decide
/-- At the least length both searches answer alike. -/
theorem short_same (k L : Nat) (h : ∀ L', L' < L → firstN (ruleOf rulB) (L' + 1) (k + 1) [] = none) : shortN L k [0] = firstN (ruleOf rulB) (L + 1) (k + 1) [] := by
  rw [firstN_zero]
  refine short_first L k [0] (by simp) rul_zero (Nat.zero_le _) fun s hs hr => ?_
  by_cases g : L ≤ ([0] ++ s).getD (([0] ++ s).length - 1) 0
  · exact g
  · exfalso
    have hu := ((rulB_iff _).1 hr).2.1
    refine firstN_none (k + 1) (h _ (Nat.lt_of_not_le g)) ([0] ++ s) (by simp [hs]) (fun x hx => ?_) ((goes_nil _).2 (by rw [keeps_rul]; exact hr))
    have := last_up hu hx
    omega

/-- A colour makes no sum. -/
def sumFree (l : List Nat) (c : Nat) : Bool := (List.range l.length).all fun i => !(l.getD i 0 == c && l.getD (l.length - 1 - i) 0 == c)
/-- The same, as the reference asks it of the first half. -/
def sumFreeR (l : List Nat) (c : Nat) : Bool := (List.range ((l.length + 1) / 2)).all fun i => !(l.getD i 0 == c && l.getD (l.length - 1 - i) 0 == c)
theorem sumFree_R (l : List Nat) (c : Nat) : sumFree l c = sumFreeR l c := by
  unfold sumFree sumFreeR
  rw [Bool.eq_iff_iff, List.all_eq_true, List.all_eq_true]
  constructor
  · intro h i hi
    have hi := List.mem_range.1 hi
    exact h i (List.mem_range.2 (by omega))
  · intro h i hi
    have hi := List.mem_range.1 hi
    by_cases g : i < (l.length + 1) / 2
    · exact h i (List.mem_range.2 g)
    · have := h (l.length - 1 - i) (List.mem_range.2 (by omega))
      rw [show l.length - 1 - (l.length - 1 - i) = i by omega] at this
      rw [Bool.and_comm]; exact this
/-- A colour ends no progression of length k. -/
def strideF (k : Nat) (l : List Nat) (c : Nat) (b : Nat) : Bool := (List.range (k - 1)).all fun i => l.getD (l.length - (i + 1) * b) 0 == c
def strideB (k : Nat) (l : List Nat) (c : Nat) : Bool := (List.range (l.length / (k - 1))).all fun b => !strideF k l c (b + 1)
end Go.Proofs.Ytlalfjkenkmojaa
