/- letters: all short words have the same ones, and come from each other by turning the rules over -/
import Derived.Test.YtlnbodpdgebflaaLv
namespace Go.Proofs.Ytlnbodpdgebflaa
open Go.RowKit

/-- How many letters a side of the rule for two mirrors has. -/
def ordN (g s t : Nat) : Nat := if kd g = 73 then nm g else if s + 1 < t ∨ t + 1 < s then 2 else if kd g = 66 ∧ max s t = nm g - 1 then 4 else 3
/-- s t s .. -/
def alt (s t : Nat) : Nat → List Nat
  | 0 => []
  | n + 1 => s :: alt t s n
theorem alt_len (s t : Nat) : ∀ n, (alt s t n).length = n
  | 0 => rfl
  | n + 1 => by simp [alt, alt_len t s n]
theorem alt_mem {s t x : Nat} : ∀ {n : Nat}, x ∈ alt s t n → x = s ∨ x = t
  | 0, h => by cases h
  | n + 1, h => by
    rcases List.mem_cons.1 h with h | h
    · exact .inl h
    · exact (alt_mem h).symm
/-- Letters taken away in front. -/
def lmL (g : Nat) : List Nat → Nat → Nat
  | [], x => x
  | s :: l, x => lmL g l (lm g s x)
theorem rule_chk : ((List.range 17).all fun g => (List.range (nE g)).all fun x => (List.range (kM g)).all fun s => (List.range (kM g)).all fun t => s == t || (
  let m := ordN g s t
  (fol g x (alt s t m) == fol g x (alt t s m)) && decide (2 ≤ m) && decide (m ≤ 12) && (ordN g t s == m) &&
  (!decide (lf g (lm g s x) < lf g x) || !decide (lf g (lm g t x) < lf g x) || (
    let z := lmL g (alt s t m) x
    (lf g z + m == lf g x) && (lmL g (alt t s m) x == z))))) = true := by decide +kernel
theorem letS_chk : ((List.range 17).all fun g => (List.range (nE g)).all fun x => (List.range (kM g)).all fun s => !decide (lf g (lm g s x) < lf g x) || (letS (wd g x) == letS (wd g (lm g s x)) ||| 2 ^ s)) = true := by decide +kernel
theorem rule_ok {g x s t : Nat} (hg : g < 17) (hx : x < nE g) (hs : s < kM g) (ht : t < kM g) (hne : s ≠ t) : fol g x (alt s t (ordN g s t)) = fol g x (alt t s (ordN g s t)) ∧ 2 ≤ ordN g s t ∧ ordN g s t ≤ 12 ∧ ordN g t s = ordN g s t ∧
    (ln g (lm g s x) < ln g x → ln g (lm g t x) < ln g x → ln g (lmL g (alt s t (ordN g s t)) x) + ordN g s t = ln g x ∧ lmL g (alt t s (ordN g s t)) x = lmL g (alt s t (ordN g s t)) x) := by
  have h := List.all_eq_true.1 (List.all_eq_true.1 (List.all_eq_true.1 (List.all_eq_true.1 rule_chk g (List.mem_range.2 hg)) x (List.mem_range.2 hx)) s (List.mem_range.2 hs)) t (List.mem_range.2 ht)
  have hzl : ∀ (l : List Nat) (x : Nat), x < nE g → Let g l → lmL g l x < nE g := by
    intro l
    induction l with
    | nil => intro x hx _; exact hx
    | cons u l ih => intro x hx hl; exact ih _ (len_one hg hx (hl u (by simp))).2.2.2 fun v hv => hl v (by simp [hv])
  have hz := hzl (alt s t (ordN g s t)) x hx fun u hu => by rcases alt_mem hu with rfl | rfl <;> assumption
  simp only [Bool.or_eq_true, Bool.and_eq_true, beq_iff_eq, decide_eq_true_eq, Bool.not_eq_true', decide_eq_false_iff_not, (fast hg hx).1, (fast hg hz).1, (fast hg (len_one hg hx hs).2.2.2).1, (fast hg (len_one hg hx ht).2.2.2).1] at h
  obtain ⟨⟨⟨⟨h1, h2⟩, h3⟩, h4⟩, h5⟩ := h.resolve_left hne
  refine ⟨h1, h2, h3, h4, fun a b => ?_⟩
  rcases h5 with (h5 | h5) | h5
  · exact absurd a h5
  · exact absurd b h5
  · exact h5
theorem letS_cons_chk (s : Nat) (l : List Nat) (a : Nat) : l.foldl (fun s x => s ||| 2 ^ x) (a ||| 2 ^ s) = l.foldl (fun s x => s ||| 2 ^ x) a ||| 2 ^ s := by
  induction l generalizing a with
  | nil => rfl
  | cons x l ih =>
    simp only [List.foldl_cons]
    rw [← ih, Nat.or_assoc, Nat.or_comm (2 ^ s) (2 ^ x), ← Nat.or_assoc]
theorem letS_cons (s : Nat) (l : List Nat) : letS (s :: l) = letS l ||| 2 ^ s := by
  unfold letS
  simp only [List.foldl_cons]
  exact letS_cons_chk s l 0
/-- All short words have the letters of the normal one. -/
theorem letS_shw {g : Nat} (hg : g < 17) : ∀ (w : List Nat) (x : Nat), x < nE g → Shw g x w → letS w = letS (wd g x)
  | [], x, hx, h => by rw [shw_nil h, (tg hg).2.2.2.2.2.2.2.1]
  | s :: w, x, hx, h => by
    obtain ⟨hs, hlt, hw⟩ := (shw_cons hg hx).1 h
    have hy := (len_one hg hx hs).2.2.2
    have h1 := List.all_eq_true.1 (List.all_eq_true.1 (List.all_eq_true.1 letS_chk g (List.mem_range.2 hg)) x (List.mem_range.2 hx)) s (List.mem_range.2 hs)
    rw [(fast hg hx).1, (fast hg hy).1, decide_eq_true hlt, Bool.not_true, Bool.false_or, beq_iff_eq] at h1
    rw [letS_cons, letS_shw hg w _ hy hw, h1]
/-- A rule is turned over at place p. -/
def Mov (g : Nat) (w y : List Nat) : Prop := ∃ a c s t, s < kM g ∧ t < kM g ∧ s ≠ t ∧ w = a ++ alt s t (ordN g s t) ++ c ∧ y = a ++ alt t s (ordN g s t) ++ c
theorem Mov.symm {g : Nat} {w y : List Nat} (hg : g < 17) (h : Mov g w y) : Mov g y w := by
  obtain ⟨a, c, s, t, hs, ht, hne, e1, e2⟩ := h
  have := (rule_ok hg (tE hg).1 hs ht hne).2.2.2.1
  exact ⟨a, c, t, s, ht, hs, hne.symm, by rw [this]; exact e2, by rw [this]; exact e1⟩
theorem Mov.cons {g u : Nat} {w y : List Nat} (h : Mov g w y) : Mov g (u :: w) (u :: y) := by
  obtain ⟨a, c, s, t, hs, ht, hne, e1, e2⟩ := h
  exact ⟨u :: a, c, s, t, hs, ht, hne, by rw [e1]; rfl, by rw [e2]; rfl⟩
theorem fol_app' (g y : Nat) (l l' : List Nat) : fol g y (l ++ l') = fol g (fol g y l) l' := by simp [fol]
theorem Mov.shw {g x : Nat} {w y : List Nat} (hg : g < 17) (h : Mov g w y) (hw : Shw g x w) : Shw g x y := by
  obtain ⟨a, c, s, t, hs, ht, hne, rfl, rfl⟩ := h
  obtain ⟨h1, h2, h3⟩ := hw
  refine ⟨fun u hu => ?_, ?_, ?_⟩
  · rcases List.mem_append.1 hu with hu | hu
    · rcases List.mem_append.1 hu with hu | hu
      · exact h1 u (by simp [hu])
      · rcases alt_mem hu with rfl | rfl <;> assumption
    · exact h1 u (by simp [hu])
  · rw [← h2]; simp [alt_len]
  · rw [← h3, fol_app', fol_app', fol_app', fol_app', (rule_ok hg (fol_lt hg a 0 (tE hg).1 fun u hu => h1 u (by simp [hu])) hs ht hne).1]
/-- Any number of turns. -/
inductive Movs (g : Nat) : List Nat → List Nat → Prop
  | refl (w : List Nat) : Movs g w w
  | step {a b c : List Nat} : Movs g a b → Mov g b c → Movs g a c
theorem Movs.trans {g : Nat} {a b c : List Nat} (h : Movs g a b) (k : Movs g b c) : Movs g a c := by
  induction k with
  | refl => exact h
  | step _ m ih => exact ih.step m
theorem Movs.cons {g u : Nat} {a b : List Nat} (h : Movs g a b) : Movs g (u :: a) (u :: b) := by
  induction h with
  | refl => exact .refl _
  | step _ m ih => exact ih.step m.cons
theorem shw_alt {g : Nat} (hg : g < 17) : ∀ (n s t x : Nat) (c : List Nat), x < nE g → s < kM g → t < kM g → ln g (lmL g (alt s t n) x) + n = ln g x → Shw g (lmL g (alt s t n) x) c → Shw g x (alt s t n ++ c)
  | 0, _, _, _, _, _, _, _, _, h => h
  | n + 1, s, t, x, c, hx, hs, ht, hl, h => by
    obtain ⟨h1, _, h3, h4⟩ := len_one hg hx hs
    have hge : ∀ (l : List Nat) (y : Nat), y < nE g → Let g l → ln g y ≤ ln g (lmL g l y) + l.length := by
      intro l
      induction l with
      | nil => intro y _ _; exact Nat.le_refl _
      | cons u l ih =>
        intro y hy hl
        have q := len_one hg hy (hl u (by simp))
        have := ih _ q.2.2.2 fun v hv => hl v (by simp [hv])
        simp only [lmL, List.length_cons]
        omega
    have hq := hge (alt t s n) (lm g s x) h4 fun u hu => by rcases alt_mem hu with rfl | rfl <;> assumption
    rw [alt_len] at hq
    have hl' : ln g (lmL g (alt t s n) (lm g s x)) + (n + 1) = ln g x := hl
    exact (shw_cons hg hx).2 ⟨hs, by omega, shw_alt hg n t s _ c h4 ht hs (by omega) h⟩
/-- THE SHORT WORDS HANG TOGETHER. -/
theorem movs_all {g : Nat} (hg : g < 17) : ∀ (n x : Nat), ln g x = n → x < nE g → ∀ w y, Shw g x w → Shw g x y → Movs g w y := by
  intro n
  induction n using Nat.strongRecOn with
  | ind n ih =>
    intro x hn hx w y hw hy
    cases w with
    | nil =>
      have h0 := shw_nil hw
      subst h0
      have : y = [] := List.eq_nil_of_length_eq_zero (by rw [hy.2.1, ln_zero hg])
      subst this; exact .refl _
    | cons s a =>
      cases y with
      | nil =>
        have h0 := shw_nil hy
        subst h0
        have := hw.2.1
        rw [ln_zero hg] at this; simp at this
      | cons t b =>
        obtain ⟨hs, hls, ha⟩ := (shw_cons hg hx).1 hw
        obtain ⟨ht, hlt, hb⟩ := (shw_cons hg hx).1 hy
        have same : ∀ (u : Nat) (p q : List Nat), Shw g x (u :: p) → Shw g x (u :: q) → Movs g (u :: p) (u :: q) := fun u p q hp hq => by
          obtain ⟨hu, hlu, hp'⟩ := (shw_cons hg hx).1 hp
          obtain ⟨_, _, hq'⟩ := (shw_cons hg hx).1 hq
          exact (ih _ (by omega) _ rfl (len_one hg hx hu).2.2.2 p q hp' hq').cons
        by_cases e : s = t
        · subst e; exact same s a b hw hy
        · obtain ⟨_, hm2, _, hoo, hr⟩ := rule_ok hg hx hs ht e
          obtain ⟨hz, hzz⟩ := hr hls hlt
          have hzl : lmL g (alt s t (ordN g s t)) x < nE g := by
            have : ∀ (l : List Nat) (x : Nat), x < nE g → Let g l → lmL g l x < nE g := by
              intro l
              induction l with
              | nil => intro x hx _; exact hx
              | cons u l ih => intro x hx hl; exact ih _ (len_one hg hx (hl u (by simp))).2.2.2 fun v hv => hl v (by simp [hv])
            exact this _ x hx fun u hu => by rcases alt_mem hu with rfl | rfl <;> assumption
          have hc := shw_wd hg hzl
          have h1 := shw_alt hg _ s t x _ hx hs ht hz hc
          have h2 := shw_alt hg (ordN g s t) t s x (wd g (lmL g (alt s t (ordN g s t)) x)) hx ht hs (by rw [hzz]; exact hz) (by rw [hzz]; exact hc)
          obtain ⟨m, hm⟩ : ∃ m, ordN g s t = m + 1 := ⟨ordN g s t - 1, by omega⟩
          have hmv : Mov g (alt s t (ordN g s t) ++ wd g (lmL g (alt s t (ordN g s t)) x)) (alt t s (ordN g s t) ++ wd g (lmL g (alt s t (ordN g s t)) x)) := ⟨[], _, s, t, hs, ht, e, rfl, rfl⟩
          generalize wd g (lmL g (alt s t (ordN g s t)) x) = c at *
          rw [hm] at h1 h2 hmv
          exact ((same s a _ hw h1).trans (.step (.refl _) hmv)).trans (same t _ b h2 hy)
/-- Lengths of products. -/
theorem ln_parity {g : Nat} (hg : g < 17) : ∀ (l : List Nat) (y : Nat), y < nE g → Let g l → (ln g (fol g y l) + ln g y + l.length) % 2 = 0 ∧ ln g (fol g y l) ≤ ln g y + l.length
  | [], y, _, _ => by simp [fol]; omega
  | s :: l, y, hy, hl => by
    have q := (len_one hg hy (hl s (by simp))).2.1
    have ih := ln_parity hg l (rt g y s) (tb hg hy (hl s (by simp))).2.1 fun u hu => hl u (by simp [hu])
    rw [fol_cons]
    simp only [List.length_cons]
    omega
end Go.Proofs.Ytlnbodpdgebflaa
