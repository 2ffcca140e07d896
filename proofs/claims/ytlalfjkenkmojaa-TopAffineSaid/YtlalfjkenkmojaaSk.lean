/- searching: the first of the longest, the first of a length -/
namespace Go.Proofs.Ytlalfjkenkmojaa

/-- Each number may be added to those before it. -/
def keepsL (f : List Nat → Nat → Bool) (l : List Nat) : Bool := (List.range l.length).all fun i => f (l.take i) (l.getD i 0)
theorem keepsL_nil (f : List Nat → Nat → Bool) : keepsL f [] = true := rfl
theorem keepsL_snoc (f : List Nat → Nat → Bool) (l : List Nat) (x : Nat) : keepsL f (l ++ [x]) = (keepsL f l && f l x) := by
  unfold keepsL
  rw [List.length_append, List.length_singleton, List.range_succ, List.all_append]
  congr 1
  · rw [Bool.eq_iff_iff, List.all_eq_true, List.all_eq_true]
    refine forall_congr' fun i => forall_congr' fun hi => ?_
    have hi := List.mem_range.1 hi
    rw [List.take_append_of_le_length (by omega)]
    simp [hi, List.getElem?_append_left hi]
  · simp

/-- What may not be added must never be so after another one has been. -/
def Mono (f : List Nat → Nat → Bool) : Prop := ∀ l x y, f (l ++ [x]) y = true → f l y = true

def upd (best l : List Nat) : List Nat := if best.length < l.length then l else best

/-- Of the slices that go on from l with numbers of xs, in their order, the first of the longest; best if none is longer. -/
def seek (f : List Nat → Nat → Bool) : List Nat → List Nat → List Nat → List Nat
  | [], _, best => best
  | x :: xs, l, best => if f l x then seek f xs l (seek f xs (l ++ [x]) (upd best (l ++ [x]))) else seek f xs l best

theorem upd_le (best l : List Nat) : best.length ≤ (upd best l).length ∧ l.length ≤ (upd best l).length := by
  unfold upd; split <;> omega
theorem upd_few {best l : List Nat} (h : l.length ≤ best.length) : upd best l = best := if_neg (by omega)

theorem seek_few (f : List Nat → Nat → Bool) (xs : List Nat) : ∀ l best, l.length + xs.length ≤ best.length → seek f xs l best = best := by
  induction xs with
  | nil => intro l best _; rfl
  | cons x xs ih =>
    intro l best h
    simp only [List.length_cons] at h
    rw [seek]
    split
    · rw [upd_few (by simp; omega), ih (l ++ [x]) best (by simp; omega), ih l best (by omega)]
    · exact ih l best (by omega)

theorem seek_filter {f : List Nat → Nat → Bool} (hm : Mono f) (xs : List Nat) : ∀ (l best : List Nat) (g : Nat → Bool), (∀ y, f l y = true → g y = true) → seek f (xs.filter g) l best = seek f xs l best := by
  induction xs with
  | nil => intro l best g _; rfl
  | cons x xs ih =>
    intro l best g hg
    rw [List.filter_cons]
    cases hx : g x with
    | false =>
      rw [seek]
      have : f l x = false := by
        cases h : f l x with
        | false => rfl
        | true => rw [hg x h] at hx; cases hx
      simp only [this, Bool.false_eq_true, if_false]
      exact ih l best g hg
    | true =>
      simp only [if_true]
      rw [seek, seek]
      split
      · rw [ih (l ++ [x]) _ g (fun y hy => hg y (hm l x y hy)), ih l _ g hg]
      · exact ih l best g hg

/-- The loop of a search: what the numbers of xs, one after another, make of best. -/
def loopN (F : List Nat → List Nat → List Nat → List Nat) (f : List Nat → Nat → Bool) (l : List Nat) : List Nat → List Nat → List Nat
  | [], best => best
  | x :: xs, best => if l.length + xs.length + 1 ≤ best.length then best else loopN F f l xs (F (xs.filter (f (l ++ [x]))) (l ++ [x]) best)
/-- The search with its bounds, of at most n numbers. -/
def growN (f : List Nat → Nat → Bool) : Nat → List Nat → List Nat → List Nat → List Nat
  | 0, _, l, best => upd best l
  | n + 1, rest, l, best => loopN (growN f n) f l rest (upd best l)

theorem loopN_seek {f : List Nat → Nat → Bool} (hm : Mono f) (F : List Nat → List Nat → List Nat → List Nat) (n : Nat) (l : List Nat) (hF : ∀ rest l best, rest.length ≤ n → (∀ y ∈ rest, f l y = true) → F rest l best = seek f rest l (upd best l))
    (xs : List Nat) : ∀ best, xs.length ≤ n + 1 → (∀ y ∈ xs, f l y = true) → loopN F f l xs best = seek f xs l best := by
  induction xs with
  | nil => intro best _ _; rfl
  | cons x xs ih =>
    intro best hn hy
    simp only [List.length_cons] at hn
    rw [loopN]
    split
    · rename_i h
      exact (seek_few f _ l best (by simp only [List.length_cons]; omega)).symm
    · have hl : (xs.filter (f (l ++ [x]))).length ≤ xs.length := List.length_filter_le _ _
      rw [seek, if_pos (hy x (by simp)), hF _ _ _ (by omega) (fun y h => (List.mem_filter.1 h).2), seek_filter hm xs (l ++ [x]) _ _ (fun _ h => h)]
      exact ih _ (by omega) (fun y h => hy y (by simp [h]))

theorem growN_seek {f : List Nat → Nat → Bool} (hm : Mono f) (n : Nat) : ∀ rest l best, rest.length ≤ n → (∀ y ∈ rest, f l y = true) → growN f n rest l best = seek f rest l (upd best l) := by
  induction n with
  | zero =>
    intro rest l best hn _
    obtain rfl := List.eq_nil_of_length_eq_zero (Nat.le_zero.1 hn)
    rfl
  | succ n ih =>
    intro rest l best hn hy
    rw [growN]
    exact loopN_seek hm (growN f n) n l ih rest _ hn hy

/-- What the search from nothing finds. -/
def longL (f : List Nat → Nat → Bool) (ns : List Nat) : List Nat := seek f ns [] []
theorem growN_long {f : List Nat → Nat → Bool} (hm : Mono f) (ns : List Nat) : growN f (ns.filter (f [])).length (ns.filter (f [])) [] [] = longL f ns := by
  rw [growN_seek hm _ _ _ _ (Nat.le_refl _) (fun y h => (List.mem_filter.1 h).2), seek_filter hm ns [] _ _ (fun _ h => h)]
  rfl

/-- A slice that keeps to a rule and goes on from l. -/
def Goes (f : List Nat → Nat → Bool) : List Nat → List Nat → Prop
  | _, [] => True
  | l, x :: s => f l x = true ∧ Goes f (l ++ [x]) s

theorem goes_keeps {f : List Nat → Nat → Bool} (s : List Nat) : ∀ l, Goes f l s ↔ (keepsL f l = true → keepsL f (l ++ s) = true) ∧ (keepsL f l = false → Goes f l s) := by
  intro l
  constructor
  · intro h
    refine ⟨fun hl => ?_, fun _ => h⟩
    induction s generalizing l with
    | nil => simpa using hl
    | cons x s ih =>
      obtain ⟨h1, h2⟩ := h
      have := ih (l ++ [x]) h2 (by rw [keepsL_snoc, hl, h1]; rfl)
      simpa using this
  · rintro ⟨h1, h2⟩
    cases hl : keepsL f l with
    | false => exact h2 hl
    | true =>
      have hk := h1 hl
      clear h1 h2
      induction s generalizing l with
      | nil => exact True.intro
      | cons x s ih =>
        have e : l ++ x :: s = (l ++ [x]) ++ s := by simp
        rw [e] at hk
        have hx : keepsL f (l ++ [x]) = true := by
          clear ih e
          generalize l ++ [x] = m at *
          induction s generalizing m with
          | nil => simpa using hk
          | cons y s ih =>
            have := ih (m ++ [y]) (by simpa using hk)
            rw [keepsL_snoc] at this
            simp at this
            exact this.1
        have hx' := hx
        rw [keepsL_snoc] at hx'
        simp at hx'
        exact ⟨hx'.2, ih (l ++ [x]) hx hk⟩
theorem goes_nil {f : List Nat → Nat → Bool} (s : List Nat) : Goes f [] s ↔ keepsL f s = true := by
  have := goes_keeps (f := f) s []
  rw [this]
  simp [keepsL_nil]

/-- What is found is best, or a slice that goes on; and nothing is longer, or as long and before it. -/
theorem seek_found (f : List Nat → Nat → Bool) (xs : List Nat) : ∀ l best, seek f xs l best = best ∨ ∃ s, s ≠ [] ∧ List.Sublist s xs ∧ Goes f l s ∧ seek f xs l best = l ++ s ∧ best.length < (l ++ s).length := by
  induction xs with
  | nil => intro l best; exact .inl rfl
  | cons x xs ih =>
    intro l best
    rw [seek]
    cases hf : f l x with
    | false =>
      simp only [Bool.false_eq_true, if_false]
      rcases ih l best with h | ⟨s, h0, h1, h2, h3, h4⟩
      · exact .inl h
      · exact .inr ⟨s, h0, h1.cons x, h2, h3, h4⟩
    | true =>
      simp only [if_true]
      have hu : upd best (l ++ [x]) = best ∨ (upd best (l ++ [x]) = l ++ [x] ∧ best.length < (l ++ [x]).length) := by
        unfold upd; split
        · exact .inr ⟨rfl, by assumption⟩
        · exact .inl rfl
      have hb : best.length ≤ (upd best (l ++ [x])).length := (upd_le _ _).1
      rcases ih l (seek f xs (l ++ [x]) (upd best (l ++ [x]))) with h | ⟨s, h0, h1, h2, h3, h4⟩
      · rw [h]
        rcases ih (l ++ [x]) (upd best (l ++ [x])) with h' | ⟨s, h0, h1, h2, h3, h4⟩
        · rw [h']
          rcases hu with e | ⟨e, hlt⟩
          · rw [e]; exact .inl rfl
          · rw [e]; exact .inr ⟨[x], by simp, List.Sublist.cons_cons x (List.nil_sublist _), ⟨hf, True.intro⟩, rfl, hlt⟩
        · refine .inr ⟨x :: s, by simp, List.Sublist.cons_cons x h1, ⟨hf, h2⟩, by rw [h3]; simp, ?_⟩
          simp at h4 hb ⊢; omega
      · refine .inr ⟨s, h0, h1.cons x, h2, h3, ?_⟩
        have : (upd best (l ++ [x])).length ≤ (seek f xs (l ++ [x]) (upd best (l ++ [x]))).length := by
          rcases ih (l ++ [x]) (upd best (l ++ [x])) with h' | ⟨s, _, _, _, h3, h4⟩
          · rw [h']; exact Nat.le_refl _
          · rw [h3]; omega
        omega
theorem seek_len (f : List Nat → Nat → Bool) (xs l best : List Nat) : best.length ≤ (seek f xs l best).length := by
  rcases seek_found f xs l best with h | ⟨s, _, _, _, h3, h4⟩
  · rw [h]; exact Nat.le_refl _
  · rw [h3]; omega
theorem seek_most (f : List Nat → Nat → Bool) (xs : List Nat) : ∀ (l best s : List Nat), List.Sublist s xs → s ≠ [] → Goes f l s → (l ++ s).length ≤ (seek f xs l best).length := by
  induction xs with
  | nil => intro l best s hs h0; cases hs; exact absurd rfl h0
  | cons x xs ih =>
    intro l best s hs h0 hg
    rw [seek]
    cases hs with
    | cons _ hs =>
      split
      · exact ih l _ s hs h0 hg
      · exact ih l _ s hs h0 hg
    | cons_cons _ hs =>
      rename_i t
      rw [if_pos hg.1]
      refine Nat.le_trans ?_ (seek_len f xs l _)
      cases t with
      | nil => exact Nat.le_trans (upd_le best (l ++ [x])).2 (seek_len f xs _ _)
      | cons y t =>
        have := ih (l ++ [x]) (upd best (l ++ [x])) (y :: t) hs (by simp) hg.2
        simpa using this
theorem long_most {f : List Nat → Nat → Bool} {ns s : List Nat} (hs : List.Sublist s ns) (hg : keepsL f s = true) : s.length ≤ (longL f ns).length := by
  cases s with
  | nil => exact Nat.zero_le _
  | cons y t => exact seek_most f ns [] [] (y :: t) hs (by simp) ((goes_nil _).2 hg)
theorem long_keeps (f : List Nat → Nat → Bool) (ns : List Nat) : keepsL f (longL f ns) = true ∧ List.Sublist (longL f ns) ns := by
  unfold longL
  rcases seek_found f ns [] [] with h | ⟨s, _, h1, h2, h3, _⟩
  · rw [h]; exact ⟨rfl, List.nil_sublist _⟩
  · rw [h3]; exact ⟨(goes_nil s).1 h2, h1⟩

/-- The order of slices of one length: the first place at which they differ decides. -/
def Before (a b : List Nat) : Prop := a = b ∨ ∃ p x y s t, a = p ++ x :: s ∧ b = p ++ y :: t ∧ x < y
theorem Before.refl (a : List Nat) : Before a a := .inl rfl
theorem Before.cons {a b : List Nat} (l : List Nat) (h : Before a b) : Before (l ++ a) (l ++ b) := by
  rcases h with rfl | ⟨p, x, y, s, t, rfl, rfl, h⟩
  · exact .inl rfl
  · exact .inr ⟨l ++ p, x, y, s, t, by simp, by simp, h⟩

/-- A slice is rising. -/
def Up (l : List Nat) : Prop := l.Pairwise (· < ·)

/-- Of those as long as what is found, none that goes on from l is before it, unless best is as long. -/
theorem seek_first (f : List Nat → Nat → Bool) (xs : List Nat) (hu : Up xs) : ∀ (l best s : List Nat), List.Sublist s xs → s ≠ [] → Goes f l s → (seek f xs l best).length = (l ++ s).length →
    best.length < (l ++ s).length → Before (seek f xs l best) (l ++ s) := by
  induction xs with
  | nil => intro l best s hs h0; cases hs; exact absurd rfl h0
  | cons x xs ih =>
    intro l best s hs h0 hg hl hb
    have hux : Up xs := (List.pairwise_cons.1 hu).2
    have hxl := (List.pairwise_cons.1 hu).1
    rw [seek] at hl ⊢
    cases hs with
    | cons _ hs =>
      cases hf : f l x with
      | false => simp only [hf, Bool.false_eq_true, if_false] at hl ⊢; exact ih hux l best s hs h0 hg hl hb
      | true =>
        simp only [hf, if_true] at hl ⊢
        by_cases hb2 : (seek f xs (l ++ [x]) (upd best (l ++ [x]))).length < (l ++ s).length
        · exact ih hux l _ s hs h0 hg hl hb2
        · -- the part with x is as long already
          have hle := seek_len f xs l (seek f xs (l ++ [x]) (upd best (l ++ [x])))
          have hq : seek f xs l (seek f xs (l ++ [x]) (upd best (l ++ [x]))) = seek f xs (l ++ [x]) (upd best (l ++ [x])) := by
            rcases seek_found f xs l (seek f xs (l ++ [x]) (upd best (l ++ [x]))) with h | ⟨_, _, _, _, h3, h4⟩
            · exact h
            · rw [h3] at hl; omega
          rw [hq] at hl ⊢
          -- what is found begins with l and x
          have hp : ∃ t, seek f xs (l ++ [x]) (upd best (l ++ [x])) = l ++ x :: t := by
            rcases seek_found f xs (l ++ [x]) (upd best (l ++ [x])) with h | ⟨t, _, _, _, h3, _⟩
            · rw [h] at hl ⊢
              unfold upd at hl ⊢
              split
              · exact ⟨[], by simp⟩
              · rename_i hn
                rw [if_neg hn] at hl
                omega
            · exact ⟨t, by rw [h3]; simp⟩
          obtain ⟨t, ht⟩ := hp
          rw [ht]
          cases s with
          | nil => exact absurd rfl h0
          | cons y s =>
            have hy : y ∈ xs := hs.subset (by simp)
            exact .inr ⟨l, x, y, t, s, rfl, rfl, hxl y hy⟩
    | cons_cons _ hs =>
      rename_i t
      obtain ⟨hf, hg⟩ := hg
      simp only [hf, if_true] at hl ⊢
      have hle := seek_len f xs l (seek f xs (l ++ [x]) (upd best (l ++ [x])))
      have hge : (l ++ x :: t).length ≤ (seek f xs (l ++ [x]) (upd best (l ++ [x]))).length := by
        cases t with
        | nil => exact Nat.le_trans (by simp) (Nat.le_trans (upd_le best (l ++ [x])).2 (seek_len f xs _ _))
        | cons y t =>
          have := seek_most f xs (l ++ [x]) (upd best (l ++ [x])) (y :: t) hs (by simp) hg
          simpa using this
      have hq : seek f xs l (seek f xs (l ++ [x]) (upd best (l ++ [x]))) = seek f xs (l ++ [x]) (upd best (l ++ [x])) := by
        rcases seek_found f xs l (seek f xs (l ++ [x]) (upd best (l ++ [x]))) with h | ⟨_, _, _, _, h3, h4⟩
        · exact h
        · rw [h3] at hl; omega
      rw [hq] at hl ⊢
      have hle := seek_len f xs (l ++ [x]) (upd best (l ++ [x]))
      cases t with
      | nil =>
        have hu' : upd best (l ++ [x]) = l ++ [x] := if_pos hb
        rw [hu'] at hl ⊢
        rcases seek_found f xs (l ++ [x]) (l ++ [x]) with h | ⟨_, _, _, _, h3, h4⟩
        · rw [h]; exact Before.refl _
        · rw [h3] at hl; omega
      | cons y t =>
        have e : l ++ x :: y :: t = (l ++ [x]) ++ (y :: t) := by simp
        rw [e] at hl ⊢
        refine ih hux (l ++ [x]) _ (y :: t) hs (by simp) hg hl ?_
        unfold upd; split
        · simp
        · rw [← e]; exact hb
theorem long_first {f : List Nat → Nat → Bool} {ns s : List Nat} (hu : Up ns) (hs : List.Sublist s ns) (hg : keepsL f s = true) (hl : s.length = (longL f ns).length) : Before (longL f ns) s := by
  cases s with
  | nil =>
    obtain h := List.eq_nil_of_length_eq_zero hl.symm
    rw [h]; exact Before.refl _
  | cons y t => exact seek_first f ns hu [] [] (y :: t) hs (by simp) ((goes_nil _).2 hg) hl.symm (by simp)

/-- The first slice of m more numbers below n that goes on from l. -/
def firstN (f : List Nat → Nat → Bool) (n : Nat) : Nat → List Nat → Option (List Nat)
  | 0, l => some l
  | m + 1, l => (List.range n).findSome? fun x => if f l x then firstN f n m (l ++ [x]) else none
end Go.Proofs.Ytlalfjkenkmojaa
