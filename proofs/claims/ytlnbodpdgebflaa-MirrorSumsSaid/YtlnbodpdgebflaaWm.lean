/- the short words of an element: by first letters, and by last letters put in order -/
import Derived.Test.YtlnbodpdgebflaaMg
namespace Go.Proofs.Ytlnbodpdgebflaa
open Go.RowKit

/-- Mirror s and then x. -/
def lm (g s x : Nat) : Nat := mul g (rt g 0 s) x
theorem len_chk : ((List.range 17).all fun g => (List.range (nE g)).all fun x => (x == 0 || decide (0 < ln g x)) && (List.range (kM g)).all fun s =>
  let y := lm g s x
  (ln g y == ln g x + 1 || ln g y + 1 == ln g x) && (ln g (rt g x s) == ln g x + 1 || ln g (rt g x s) + 1 == ln g x) && lm g s y == x && decide (y < nE g)) = true := by decide +kernel
theorem len_one {g x s : Nat} (hg : g < 17) (hx : x < nE g) (hs : s < kM g) : (ln g (lm g s x) = ln g x + 1 ∨ ln g (lm g s x) + 1 = ln g x) ∧ (ln g (rt g x s) = ln g x + 1 ∨ ln g (rt g x s) + 1 = ln g x) ∧ lm g s (lm g s x) = x ∧ lm g s x < nE g := by
  have h := List.all_eq_true.1 (List.all_eq_true.1 len_chk g (List.mem_range.2 hg)) x (List.mem_range.2 hx)
  rw [Bool.and_eq_true] at h
  have h2 := List.all_eq_true.1 h.2 s (List.mem_range.2 hs)
  simp only [Bool.and_eq_true, Bool.or_eq_true, beq_iff_eq, decide_eq_true_eq] at h2
  obtain ⟨⟨⟨a, b⟩, c⟩, d⟩ := h2
  exact ⟨a, b, c, d⟩
theorem ln_pos {g x : Nat} (hg : g < 17) (hx : x < nE g) (h0 : x ≠ 0) : 0 < ln g x := by
  have h := List.all_eq_true.1 (List.all_eq_true.1 len_chk g (List.mem_range.2 hg)) x (List.mem_range.2 hx)
  rw [Bool.and_eq_true, Bool.or_eq_true, beq_iff_eq, decide_eq_true_eq] at h
  exact h.1.resolve_left h0
theorem ln_zero {g : Nat} (hg : g < 17) : ln g 0 = 0 := by unfold ln; rw [(tg hg).2.2.2.2.2.2.2.1]; rfl
theorem fol_first {g s : Nat} {l : List Nat} (hg : g < 17) (hs : s < kM g) (hl : Let g l) : fol g 0 (s :: l) = lm g s (fol g 0 l) := by
  rw [fol_cons]
  exact fol_mul hg (tb hg (tE hg).1 hs).2.1 hl
theorem ln_fol {g : Nat} (hg : g < 17) : ∀ l : List Nat, Let g l → ln g (fol g 0 l) ≤ l.length
  | [], _ => by rw [show fol g 0 [] = 0 from rfl, ln_zero hg]; exact Nat.le_refl _
  | s :: l, h => by
    have hs : s < kM g := h s (by simp)
    have hl : Let g l := fun t ht => h t (by simp [ht])
    have ih := ln_fol hg l hl
    rw [fol_first hg hs hl]
    have := (len_one hg (fol_lt hg l 0 (tE hg).1 hl) hs).1
    simp only [List.length_cons]
    omega

/-- w is a short word of x. -/
def Shw (g x : Nat) (w : List Nat) : Prop := Let g w ∧ w.length = ln g x ∧ fol g 0 w = x
theorem shw_cons {g x s : Nat} {l : List Nat} (hg : g < 17) (hx : x < nE g) : Shw g x (s :: l) ↔ s < kM g ∧ ln g (lm g s x) < ln g x ∧ Shw g (lm g s x) l := by
  constructor
  · rintro ⟨h1, h2, h3⟩
    have hs : s < kM g := h1 s (by simp)
    have hl : Let g l := fun t ht => h1 t (by simp [ht])
    rw [fol_first hg hs hl] at h3
    have hy := fol_lt hg l 0 (tE hg).1 hl
    have e : fol g 0 l = lm g s x := by rw [← h3, (len_one hg hy hs).2.2.1]
    have hle := ln_fol hg l hl
    rw [e] at hle
    have := (len_one hg hx hs).1
    simp only [List.length_cons] at h2
    exact ⟨hs, by omega, hl, by omega, e⟩
  · rintro ⟨hs, hlt, hl, h2, h3⟩
    have := (len_one hg hx hs).1
    refine ⟨fun t ht => ?_, by simp only [List.length_cons]; omega, ?_⟩
    · rcases List.mem_cons.1 ht with rfl | ht
      · exact hs
      · exact hl t ht
    · rw [fol_first hg hs hl, h3, (len_one hg hx hs).2.2.1]
theorem shw_snoc {g x s : Nat} {l : List Nat} (hg : g < 17) (hx : x < nE g) : Shw g x (l ++ [s]) ↔ s < kM g ∧ ln g (rt g x s) < ln g x ∧ Shw g (rt g x s) l := by
  constructor
  · rintro ⟨h1, h2, h3⟩
    have hs : s < kM g := h1 s (by simp)
    have hl : Let g l := fun t ht => h1 t (by simp [ht])
    rw [fol_snoc] at h3
    have hy := fol_lt hg l 0 (tE hg).1 hl
    have e : fol g 0 l = rt g x s := by rw [← h3, rt_rt hg hy hs]
    have hle := ln_fol hg l hl
    rw [e] at hle
    have := (len_one hg hx hs).2.1
    simp only [List.length_append, List.length_singleton] at h2
    exact ⟨hs, by omega, hl, by omega, e⟩
  · rintro ⟨hs, hlt, hl, h2, h3⟩
    have := (len_one hg hx hs).2.1
    refine ⟨fun t ht => ?_, by simp only [List.length_append, List.length_singleton]; omega, ?_⟩
    · rcases List.mem_append.1 ht with ht | ht
      · exact hl t ht
      · rw [List.mem_singleton.1 ht]; exact hs
    · rw [fol_snoc, h3, rt_rt hg hx hs]
theorem shw_nil {g x : Nat} (h : Shw g x []) : x = 0 := h.2.2.symm
/-- All short words, by first letters. -/
def shP (g : Nat) : Nat → Nat → List (List Nat)
  | 0, _ => [[]]
  | n + 1, x => if x = 0 then [[]] else (List.range (kM g)).flatMap fun s => if ln g (lm g s x) < ln g x then (shP g n (lm g s x)).map (s :: ·) else []
theorem shP_mem {g : Nat} (hg : g < 17) : ∀ (n x : Nat), x < nE g → ln g x ≤ n → ∀ w, w ∈ shP g n x ↔ Shw g x w := by
  intro n
  induction n with
  | zero =>
    intro x hx hn w
    have h0 : x = 0 := Classical.byContradiction fun e => by have := ln_pos hg hx e; omega
    subst h0
    simp only [shP, List.mem_singleton]
    constructor
    · rintro rfl; exact ⟨by intro s hs; simp at hs, by rw [ln_zero hg]; rfl, rfl⟩
    · intro h; exact List.eq_nil_of_length_eq_zero (by rw [h.2.1, ln_zero hg])
  | succ n ih =>
    intro x hx hn w
    unfold shP
    by_cases h0 : x = 0
    · subst h0
      rw [if_pos rfl, List.mem_singleton]
      constructor
      · rintro rfl; exact ⟨by intro s hs; simp at hs, by rw [ln_zero hg]; rfl, rfl⟩
      · intro h; exact List.eq_nil_of_length_eq_zero (by rw [h.2.1, ln_zero hg])
    · rw [if_neg h0, List.mem_flatMap]
      constructor
      · rintro ⟨s, hs, hw⟩
        have hs' := List.mem_range.1 hs
        by_cases hl : ln g (lm g s x) < ln g x
        · rw [if_pos hl] at hw
          obtain ⟨l, h1, rfl⟩ := List.mem_map.1 hw
          exact (shw_cons hg hx).2 ⟨hs', hl, (ih _ (len_one hg hx hs').2.2.2 (by omega) l).1 h1⟩
        · rw [if_neg hl] at hw; cases hw
      · intro h
        cases w with
        | nil => exact absurd (shw_nil h) h0
        | cons s l =>
          obtain ⟨hs, hl, h1⟩ := (shw_cons hg hx).1 h
          refine ⟨s, List.mem_range.2 hs, ?_⟩
          rw [if_pos hl]
          exact List.mem_map.2 ⟨l, (ih _ (len_one hg hx hs).2.2.2 (by omega) l).2 h1, rfl⟩
/-- Words in order. -/
def bef : List Nat → List Nat → Bool
  | x :: a, y :: b => if x = y then bef a b else decide (x < y)
  | _, _ => false
theorem bef_irr : ∀ a, bef a a = false
  | [] => rfl
  | x :: a => by simp [bef, bef_irr a]
theorem bef_trans : ∀ {a b c : List Nat}, bef a b = true → bef b c = true → bef a c = true
  | [], _, _, h, _ => by simp [bef] at h
  | _ :: _, [], _, h, _ => by simp [bef] at h
  | _ :: _, _ :: _, [], _, h => by simp [bef] at h
  | x :: a, y :: b, z :: c, h1, h2 => by
    unfold bef at h1 h2 ⊢
    by_cases e1 : x = y
    · subst e1
      rw [if_pos rfl] at h1
      by_cases e2 : x = z
      · subst e2
        rw [if_pos rfl] at h2 ⊢
        exact bef_trans h1 h2
      · rw [if_neg e2] at h2 ⊢; exact h2
    · rw [if_neg e1, decide_eq_true_eq] at h1
      by_cases e2 : y = z
      · subst e2
        rw [if_neg e1]; exact decide_eq_true h1
      · rw [if_neg e2, decide_eq_true_eq] at h2
        rw [if_neg (by omega)]; exact decide_eq_true (by omega)
theorem bef_tri : ∀ {a b : List Nat}, a.length = b.length → bef a b = false → a ≠ b → bef b a = true
  | [], [], _, _, h => absurd rfl h
  | [], _ :: _, h, _, _ => by simp at h
  | _ :: _, [], h, _, _ => by simp at h
  | x :: a, y :: b, hl, h1, h2 => by
    unfold bef at h1 ⊢
    by_cases e : x = y
    · subst e
      rw [if_pos rfl] at h1 ⊢
      exact bef_tri (by simpa using hl) h1 fun e => h2 (by rw [e])
    · rw [if_neg e, decide_eq_false_iff_not] at h1
      rw [if_neg (Ne.symm e)]; exact decide_eq_true (by omega)
def Ris (l : List (List Nat)) : Prop := l.Pairwise fun a b => bef a b = true
theorem shP_ris {g : Nat} : ∀ (n x : Nat), Ris (shP g n x) := by
  intro n
  induction n with
  | zero => intro x; exact List.pairwise_singleton _ _
  | succ n ih =>
    intro x
    unfold shP
    split
    · exact List.pairwise_singleton _ _
    · refine List.pairwise_flatMap.2 ⟨fun s _ => ?_, ?_⟩
      · split
        · refine List.pairwise_map.2 ((ih _).imp fun {a b} h => ?_)
          simp [bef, h]
        · exact List.Pairwise.nil
      · refine List.pairwise_lt_range.imp fun {s t} h a ha b hb => ?_
        split at ha
        · split at hb
          · obtain ⟨a', _, rfl⟩ := List.mem_map.1 ha
            obtain ⟨b', _, rfl⟩ := List.mem_map.1 hb
            simp only [bef]
            rw [if_neg (by omega)]; exact decide_eq_true h
          · cases hb
        · cases ha
/-- Two rising lists with the same words are the same. -/
theorem ris_eq : ∀ {a b : List (List Nat)}, Ris a → Ris b → (∀ w, w ∈ a ↔ w ∈ b) → a = b
  | [], [], _, _, _ => rfl
  | [], y :: b, _, _, h => absurd ((h y).2 (by simp)) (by simp)
  | x :: a, [], _, _, h => absurd ((h x).1 (by simp)) (by simp)
  | x :: a, y :: b, ha, hb, h => by
    have ha' := List.pairwise_cons.1 ha
    have hb' := List.pairwise_cons.1 hb
    have e : x = y := by
      rcases List.mem_cons.1 ((h x).1 (by simp)) with e | e
      · exact e
      · rcases List.mem_cons.1 ((h y).2 (by simp)) with e' | e'
        · exact e'.symm
        · have := bef_trans (ha'.1 y e') (hb'.1 x e)
          rw [bef_irr] at this; cases this
    subst e
    rw [ris_eq ha'.2 hb'.2 fun w => ?_]
    constructor
    · intro hw
      rcases List.mem_cons.1 ((h w).1 (by simp [hw])) with rfl | q
      · have := ha'.1 w hw; rw [bef_irr] at this; cases this
      · exact q
    · intro hw
      rcases List.mem_cons.1 ((h w).2 (by simp [hw])) with rfl | q
      · have := hb'.1 w hw; rw [bef_irr] at this; cases this
      · exact q
/-- How many words at the beginning come before w. -/
def atK (l : List (List Nat)) (w : List Nat) : Nat := (l.takeWhile fun a => bef a w).length
def insK (l : List (List Nat)) (w : List Nat) : List (List Nat) := l.take (atK l w) ++ [w] ++ l.drop (atK l w)
theorem take_while {α : Type} (p : α → Bool) : ∀ l : List α, l.take (l.takeWhile p).length = l.takeWhile p
  | [] => rfl
  | x :: l => by
    cases h : p x with
    | true => simp [h, take_while p l]
    | false => simp [h]
theorem drop_while {α : Type} (p : α → Bool) : ∀ l : List α, l.drop (l.takeWhile p).length = l.dropWhile p
  | [] => rfl
  | x :: l => by
    cases h : p x with
    | true => simp [h, drop_while p l]
    | false => simp [h]
theorem mem_tw {α : Type} (p : α → Bool) : ∀ (l : List α) (a : α), a ∈ l.takeWhile p → p a = true
  | [], _, h => by cases h
  | x :: l, a, h => by
    cases hx : p x with
    | true =>
      rw [List.takeWhile_cons, if_pos hx] at h
      rcases List.mem_cons.1 h with rfl | h
      · exact hx
      · exact mem_tw p l a h
    | false => rw [List.takeWhile_cons, hx] at h; cases h
theorem insK_mem (l : List (List Nat)) (w x : List Nat) : x ∈ insK l w ↔ x = w ∨ x ∈ l := by
  unfold insK
  constructor
  · intro h
    rcases List.mem_append.1 h with h | h
    · rcases List.mem_append.1 h with h | h
      · exact .inr (List.mem_of_mem_take h)
      · exact .inl (List.mem_singleton.1 h)
    · exact .inr (List.mem_of_mem_drop h)
  · rintro (rfl | h)
    · simp
    · rw [← List.take_append_drop (atK l w) l] at h
      rcases List.mem_append.1 h with h | h
      · simp [h]
      · simp [h]
theorem insK_ris {l : List (List Nat)} {w : List Nat} (h : Ris l) (hl : ∀ a ∈ l, a.length = w.length) (hn : w ∉ l) : Ris (insK l w) := by
  unfold insK atK
  rw [take_while, drop_while, List.append_assoc]
  have hs : Ris (l.takeWhile (fun a => bef a w) ++ l.dropWhile (fun a => bef a w)) := by rw [List.takeWhile_append_dropWhile]; exact h
  obtain ⟨h1, h2, h3⟩ := List.pairwise_append.1 hs
  have hb : ∀ a ∈ l.takeWhile (fun a => bef a w), bef a w = true := fun a ha => mem_tw _ l a ha
  have ha : ∀ a ∈ l.dropWhile (fun a => bef a w), bef w a = true := by
    intro a ha
    have hne : l.dropWhile (fun a => bef a w) ≠ [] := by intro e; rw [e] at ha; cases ha
    obtain ⟨c, t, hc⟩ := List.exists_cons_of_ne_nil hne
    have hcf : bef c w = false := by
      have := List.head_dropWhile_not (fun a => bef a w) (l := l) hne
      simp only [hc, List.head_cons] at this
      exact this
    have hcl : c ∈ l := (List.dropWhile_suffix _).subset (by rw [hc]; simp)
    have hwc : bef w c = true := bef_tri (hl c hcl) hcf fun e => hn (by rw [← e]; exact hcl)
    rw [hc] at ha h2
    rcases List.mem_cons.1 ha with rfl | ha
    · exact hwc
    · exact bef_trans hwc ((List.pairwise_cons.1 h2).1 a ha)
  refine List.pairwise_append.2 ⟨h1, ?_, ?_⟩
  · exact List.pairwise_cons.2 ⟨ha, h2⟩
  · intro a h4 b h5
    rcases List.mem_cons.1 h5 with rfl | h5
    · exact hb a h4
    · exact h3 a h4 b h5
def insAll (ws : List (List Nat)) : List (List Nat) := ws.foldl insK []
theorem insAll_snoc (ws : List (List Nat)) (w : List Nat) : insAll (ws ++ [w]) = insK (insAll ws) w := by simp [insAll]
theorem insAll_ok {n : Nat} : ∀ (k : Nat) (ws : List (List Nat)), ws.length = k → ws.Nodup → (∀ a ∈ ws, a.length = n) → Ris (insAll ws) ∧ ∀ x, x ∈ insAll ws ↔ x ∈ ws := by
  intro k
  induction k with
  | zero =>
    intro ws hk _ _
    rw [List.eq_nil_of_length_eq_zero hk]
    exact ⟨List.Pairwise.nil, fun x => Iff.rfl⟩
  | succ k ih =>
    intro ws hk hd hl
    rcases List.eq_nil_or_concat ws with rfl | ⟨t, w, rfl⟩
    · simp at hk
    rw [List.concat_eq_append] at *
    rw [List.nodup_append] at hd
    obtain ⟨d1, _, d3⟩ := hd
    obtain ⟨r, m⟩ := ih t (by simpa using hk) d1 fun a ha => hl a (by simp [ha])
    rw [insAll_snoc]
    have hw : w ∉ t := fun h => d3 w h w (by simp) rfl
    refine ⟨insK_ris r (fun a ha => ?_) (fun h => hw ((m w).1 h)), fun x => ?_⟩
    · rw [hl a (by simp [(m a).1 ha]), hl w (by simp)]
    · rw [insK_mem, m]
      simp [or_comm]
/-- The words by last letters, those with letters below k. -/
def lsB (g n x s : Nat) : List (List Nat) := if ln g (rt g x s) > ln g x then [] else (shP g n (rt g x s)).map (· ++ [s])
def lsK (g n x k : Nat) : List (List Nat) := (List.range k).flatMap (lsB g n x)
theorem lsK_succ (g n x k : Nat) : lsK g n x (k + 1) = lsK g n x k ++ lsB g n x k := by
  unfold lsK; rw [List.range_succ, List.flatMap_append]; simp
theorem lsB_mem {g n x s : Nat} (hg : g < 17) (hx : x < nE g) (hs : s < kM g) (hn : ln g x ≤ n + 1) (w : List Nat) : w ∈ lsB g n x s ↔ ∃ l, w = l ++ [s] ∧ Shw g x w := by
  have h1 := (len_one hg hx hs).2.1
  have hr := (tb hg hx hs).2.1
  unfold lsB
  split
  · rename_i h
    constructor
    · intro h; cases h
    · rintro ⟨l, rfl, hw⟩
      have := ((shw_snoc hg hx).1 hw).2.1
      omega
  · rename_i h
    constructor
    · intro hw
      obtain ⟨l, hl, rfl⟩ := List.mem_map.1 hw
      exact ⟨l, rfl, (shw_snoc hg hx).2 ⟨hs, by omega, (shP_mem hg n _ hr (by omega) l).1 hl⟩⟩
    · rintro ⟨l, rfl, hw⟩
      exact List.mem_map.2 ⟨l, (shP_mem hg n _ hr (by omega) l).2 ((shw_snoc hg hx).1 hw).2.2, rfl⟩
theorem ris_nodup {l : List (List Nat)} (h : Ris l) : l.Nodup := h.imp fun {a b} hab e => by rw [e, bef_irr] at hab; cases hab
theorem lsK_nodup {g n x : Nat} (hg : g < 17) (hx : x < nE g) (hn : ln g x ≤ n + 1) : ∀ k, k ≤ kM g → (lsK g n x k).Nodup := by
  intro k hk
  unfold lsK
  refine List.pairwise_flatMap.2 ⟨fun s _ => ?_, ?_⟩
  · unfold lsB
    split
    · exact List.Pairwise.nil
    · exact List.pairwise_map.2 ((ris_nodup (shP_ris n _)).imp fun {a b} h e => h (by simpa using e))
  · refine List.Pairwise.imp_of_mem ?_ (List.pairwise_lt_range (n := k))
    intro s t hs ht h a ha b hb e
    have hs' := List.mem_range.1 hs
    have ht' := List.mem_range.1 ht
    obtain ⟨l, rfl, _⟩ := (lsB_mem hg hx (by omega) hn _).1 ha
    obtain ⟨l', rfl, _⟩ := (lsB_mem hg hx (by omega) hn _).1 hb
    have := congrArg List.getLast? e
    simp at this
    omega
theorem lsK_all {g n x : Nat} (hg : g < 17) (hx : x < nE g) (h0 : x ≠ 0) (hn : ln g x ≤ n + 1) : insAll (lsK g n x (kM g)) = shP g (n + 1) x := by
  have hmem : ∀ w, w ∈ lsK g n x (kM g) ↔ Shw g x w := fun w => by
    unfold lsK
    rw [List.mem_flatMap]
    constructor
    · rintro ⟨s, hs, hw⟩
      exact ((lsB_mem hg hx (List.mem_range.1 hs) hn w).1 hw).elim fun _ h => h.2
    · intro h
      rcases List.eq_nil_or_concat w with rfl | ⟨l, s, rfl⟩
      · exact absurd (shw_nil h) h0
      · rw [List.concat_eq_append] at *
        have hs := ((shw_snoc hg hx).1 h).1
        exact ⟨s, List.mem_range.2 hs, (lsB_mem hg hx hs hn _).2 ⟨l, rfl, h⟩⟩
  obtain ⟨r, m⟩ := insAll_ok (n := ln g x) _ (lsK g n x (kM g)) rfl (lsK_nodup hg hx hn _ (Nat.le_refl _)) fun a ha => ((hmem a).1 ha).2.1
  exact ris_eq r (shP_ris _ _) fun w => by rw [m, hmem, shP_mem hg _ _ hx hn]
/-- The fuel does not matter. -/
theorem shP_fuel {g n x : Nat} (hg : g < 17) (hx : x < nE g) (hn : ln g x ≤ n) : shP g n x = shP g (ln g x) x :=
  ris_eq (shP_ris _ _) (shP_ris _ _) fun w => by rw [shP_mem hg _ _ hx hn, shP_mem hg _ _ hx (Nat.le_refl _)]
end Go.Proofs.Ytlnbodpdgebflaa
