/- a permutation that hits nothing, or a barrier -/
import Derived.Test.YtellnklbkjajbaaDoorHa
import Derived.Test.YtellnklbkjajbaaDoorAv
namespace Go.Proofs.YtellnklbkjajbaaDoor
open Go.RowKit

theorem mem_elem8 {x j : Nat} (h : j < 8) (hb : x.testBit j = true) : j ∈ elem8 x := List.mem_filter.2 ⟨List.mem_range.2 h, hb⟩
theorem perm_of : ∀ (rs : List Nat) (tk : Nat) (q : List Nat) (f : Nat → Nat), (∀ i, i < rs.length → f i < 8 ∧ (rs.getD i 0).testBit (f i) = true ∧ tk.testBit (f i) = false) →
    (∀ i k, i < rs.length → k < rs.length → f i = f k → i = k) → permsF rs tk q ≠ []
  | [], _, q, _, _, _ => by simp [permsF]
  | r :: rs, tk, q, f, h, hi => by
    rw [permsF]
    intro e
    rw [List.flatMap_eq_nil_iff] at e
    obtain ⟨a, b, c⟩ := h 0 (by simp)
    refine perm_of rs (tk ||| 2 ^ f 0) (q ++ [f 0]) (fun i => f (i + 1)) (fun i hl => ?_) (fun i k h1 h2 e' => ?_) (e (f 0) (mem_elem8 a (by rw [sub_bit, c]; simpa using b)))
    · obtain ⟨a', b', c'⟩ := h (i + 1) (by simpa using hl)
      refine ⟨a', by simpa using b', ?_⟩
      rw [Nat.testBit_or, c', Nat.testBit_two_pow]
      have : f 0 ≠ f (i + 1) := fun e' => by
        have := hi 0 (i + 1) (by simp) (by simpa using hl) e'
        omega
      simpa using this
    · have := hi (i + 1) (k + 1) (by simpa using h1) (by simpa using h2) e'
      omega
theorem mem_perms : ∀ (rs : List Nat) (tk : Nat) (q p : List Nat), p ∈ permsF rs tk q → ∃ s, p = q ++ s ∧ s.length = rs.length ∧
    ∀ k, k < rs.length → s.getD k 0 < 8 ∧ (rs.getD k 0).testBit (s.getD k 0) = true ∧ tk.testBit (s.getD k 0) = false ∧ ∀ m, m < k → s.getD m 0 ≠ s.getD k 0
  | [], tk, q, p, h => by
    simp [permsF] at h
    exact ⟨[], by simp [h], rfl, fun k hk => by simp at hk⟩
  | r :: rs, tk, q, p, h => by
    rw [permsF, List.mem_flatMap] at h
    obtain ⟨j, hj, h⟩ := h
    obtain ⟨hj8, hjb⟩ := elem8_mem hj
    rw [sub_bit, Bool.and_eq_true, Bool.not_eq_true'] at hjb
    obtain ⟨s, rfl, hs, hk⟩ := mem_perms rs _ _ p h
    refine ⟨j :: s, by simp, by simp [hs], fun k hlt => ?_⟩
    cases k with
    | zero => exact ⟨by simpa using hj8, by simpa using hjb.1, by simpa using hjb.2, fun m hm => by omega⟩
    | succ k =>
      obtain ⟨a, b, c, d⟩ := hk k (by simpa using hlt)
      rw [Nat.testBit_or, Bool.or_eq_false_iff, Nat.testBit_two_pow, decide_eq_false_iff_not] at c
      refine ⟨by simpa using a, by simpa using b, by simpa using c.1, fun m hm => ?_⟩
      cases m with
      | zero => simpa using c.2
      | succ m => simpa using d m (by omega)

/-- The columns that all rows of S have. -/
def cm (full : Nat) (bs : List Nat) (S : Nat) : Nat → Nat
  | 0 => full
  | i + 1 => if S.testBit i then cm full bs S i &&& bs.getD i 0 else cm full bs S i
theorem cm_bit (full : Nat) (bs : List Nat) (S j : Nat) : ∀ n, (cm full bs S n).testBit j = true ↔ full.testBit j = true ∧ ∀ i, i < n → S.testBit i = true → (bs.getD i 0).testBit j = true
  | 0 => by simp [cm]
  | n + 1 => by
    rw [cm]
    cases hs : S.testBit n with
    | true =>
      rw [if_pos rfl, Nat.testBit_and, Bool.and_eq_true, cm_bit full bs S j n]
      constructor
      · rintro ⟨⟨a, b⟩, c⟩
        refine ⟨a, fun i hi hb => ?_⟩
        by_cases e : i = n
        · subst e; exact c
        · exact b i (by omega) hb
      · rintro ⟨a, b⟩
        exact ⟨⟨a, fun i hi hb => b i (by omega) hb⟩, b n (by omega) hs⟩
    | false =>
      rw [if_neg (by simp), cm_bit full bs S j n]
      constructor
      · rintro ⟨a, b⟩
        refine ⟨a, fun i hi hb => ?_⟩
        by_cases e : i = n
        · subst e; rw [hs] at hb; cases hb
        · exact b i (by omega) hb
      · rintro ⟨a, b⟩
        exact ⟨a, fun i hi hb => b i (by omega) hb⟩
theorem cm_lt {full n : Nat} (bs : List Nat) (S : Nat) (hf : full < 2 ^ n) : ∀ m, cm full bs S m < 2 ^ n
  | 0 => hf
  | m + 1 => by
    rw [cm]
    split
    · exact Nat.lt_of_le_of_lt Nat.and_le_left (cm_lt bs S hf m)
    · exact cm_lt bs S hf m
/-- Is S a barrier? -/
def barB (n : Nat) (bs : List Nat) (S : Nat) : Bool := decide (n < fl S + fl (cm (2 ^ n - 1) bs S n))

def img (f : Nat → Nat) (S : Nat) : Nat → Nat
  | 0 => 0
  | i + 1 => img f S i ||| (if S.testBit i then 2 ^ f i else 0)
theorem img_bit (f : Nat → Nat) (S j : Nat) : ∀ n, (img f S n).testBit j = true → ∃ i, i < n ∧ S.testBit i = true ∧ f i = j
  | 0, h => by simp [img] at h
  | n + 1, h => by
    rw [img, Nat.testBit_or, Bool.or_eq_true] at h
    rcases h with h | h
    · obtain ⟨i, a, b, c⟩ := img_bit f S j n h
      exact ⟨i, by omega, b, c⟩
    · cases hs : S.testBit n with
      | true =>
        rw [hs, if_pos rfl, Nat.testBit_two_pow] at h
        exact ⟨n, by omega, hs, of_decide_eq_true h⟩
      | false => rw [hs] at h; simp at h
theorem img_fl (f : Nat → Nat) (S n : Nat) (hf : ∀ i, i < n → f i < 6) (hi : ∀ i k, i < k → k < n → f i ≠ f k) (hn : n ≤ 6) : ∀ i, i ≤ n → fl (img f S i) = fl (S % 2 ^ i)
  | 0, _ => by simp [img, Nat.mod_one]
  | i + 1, h => by
    have ih := img_fl f S n hf hi hn i (by omega)
    rw [img]
    cases hs : S.testBit i with
    | true =>
      have e : S % 2 ^ (i + 1) = S % 2 ^ i ||| 2 ^ i := Nat.eq_of_testBit_eq fun j => by
        rw [Nat.testBit_or, Nat.testBit_mod_two_pow, Nat.testBit_mod_two_pow, Nat.testBit_two_pow]
        by_cases e : i = j
        · subst e; simp [hs]
        · by_cases e2 : j < i
          · simp [e, e2, show j < i + 1 by omega]
          · simp [e, e2, show ¬ j < i + 1 by omega]
      rw [if_pos rfl, e, fl_plus (hf i (by omega)) ?_, fl_plus (by omega) ?_, ih]
      · rw [Nat.testBit_mod_two_pow]; simp
      · cases hb : (img f S i).testBit (f i) with
        | false => rfl
        | true =>
          obtain ⟨k, a, _, c⟩ := img_bit f S (f i) i hb
          exact absurd c (hi k i a (by omega))
    | false =>
      have e : S % 2 ^ (i + 1) = S % 2 ^ i := Nat.eq_of_testBit_eq fun j => by
        rw [Nat.testBit_mod_two_pow, Nat.testBit_mod_two_pow]
        by_cases e : i = j
        · subst e; simp [hs]
        · by_cases e2 : j < i
          · simp [e2, show j < i + 1 by omega]
          · simp [e2, show ¬ j < i + 1 by omega]
      rw [e, ← ih]
      simp

theorem full_bit (n j : Nat) : (2 ^ n - 1).testBit j = true ↔ j < n := by rw [Nat.testBit_two_pow_sub_one, decide_eq_true_eq]
/-- What is in freeL is a permutation that hits nothing. -/
theorem freeL_mem {n : Nat} {bs p : List Nat} (hb : Brd n bs) (h : p ∈ freeL n bs) :
    p.length = n ∧ ∀ k, k < n → p.getD k 0 < n ∧ (bs.getD k 0).testBit (p.getD k 0) = false ∧ ∀ m, m < k → p.getD m 0 ≠ p.getD k 0 := by
  obtain ⟨s, rfl, hs, hk⟩ := mem_perms _ _ _ _ h
  rw [otherL_length, hb.len] at hs hk
  refine ⟨by simpa using hs, fun k hlt => ?_⟩
  obtain ⟨_, b, _, d⟩ := hk k hlt
  rw [otherL_get (by rw [hb.len]; exact hlt), sub_bit, Bool.and_eq_true, full_bit, Bool.not_eq_true'] at b
  exact ⟨b.1, b.2, d⟩
theorem either_bar {n : Nat} {bs : List Nat} (hb : Brd n bs) (S : Nat) (hS : S < 2 ^ n) (h : barB n bs S = true) : freeL n bs = [] := by
  have hn := hb.le
  unfold barB at h
  have h := of_decide_eq_true h
  refine List.eq_nil_iff_forall_not_mem.2 fun p hp => ?_
  obtain ⟨hl, hk⟩ := freeL_mem hb hp
  have hfl := img_fl (fun i => p.getD i 0) S n (fun i hi => by have := (hk i hi).1; show p.getD i 0 < 6; omega) (fun i k h1 h2 => (hk k h2).2.2 i h1) hn n (Nat.le_refl _)
  rw [Nat.mod_eq_of_lt hS] at hfl
  have h1 := fl_or_and (img (fun i => p.getD i 0) S n) (cm (2 ^ n - 1) bs S n)
  have h2 : fl (img (fun i => p.getD i 0) S n ||| cm (2 ^ n - 1) bs S n) ≤ fl (2 ^ n - 1) := fl_le fun j _ hj => by
    rw [Nat.testBit_or, Bool.or_eq_true] at hj
    rw [full_bit]
    rcases hj with hj | hj
    · obtain ⟨i, a, _, c⟩ := img_bit _ _ _ _ hj
      rw [← c]; exact (hk i a).1
    · exact (full_bit n j).1 ((cm_bit _ _ _ _ _).1 hj).1
  have h3 : fl (img (fun i => p.getD i 0) S n &&& cm (2 ^ n - 1) bs S n) ≤ fl 0 := fl_le fun j _ hj => by
    exfalso
    rw [Nat.testBit_and, Bool.and_eq_true] at hj
    obtain ⟨i, a, b, c⟩ := img_bit _ _ _ _ hj.1
    have := ((cm_bit _ _ _ _ _).1 hj.2).2 i a b
    rw [← c, (hk i a).2.1] at this
    cases this
  rw [fl_full n hn] at h2
  have e0 : fl 0 = 0 := by decide
  omega
theorem bar_either {n : Nat} {bs : List Nat} (hb : Brd n bs) (h : ∀ S, S < 2 ^ n → barB n bs S = false) : freeL n bs ≠ [] := by
  have hn := hb.le
  have hH : HallOk (fun i => sub (2 ^ n - 1) (bs.getD i 0)) n := fun S hS => by
    have h0 := h S hS
    unfold barB at h0
    have h0 := of_decide_eq_false h0
    have h1 := fl_or_and (nb (fun i => sub (2 ^ n - 1) (bs.getD i 0)) S n) (cm (2 ^ n - 1) bs S n)
    have h2 : fl (2 ^ n - 1) ≤ fl (nb (fun i => sub (2 ^ n - 1) (bs.getD i 0)) S n ||| cm (2 ^ n - 1) bs S n) := fl_le fun j _ hj => by
      rw [Nat.testBit_or, Bool.or_eq_true, nb_bit, cm_bit]
      by_cases c : ∀ i, i < n → S.testBit i = true → (bs.getD i 0).testBit j = true
      · exact .inr ⟨hj, c⟩
      · left
        simp only [Classical.not_forall] at c
        obtain ⟨i, a, b, c⟩ := c
        exact ⟨i, a, b, by rw [sub_bit, hj]; simpa using c⟩
    have h3 : fl (nb (fun i => sub (2 ^ n - 1) (bs.getD i 0)) S n &&& cm (2 ^ n - 1) bs S n) ≤ fl 0 := fl_le fun j _ hj => by
      exfalso
      rw [Nat.testBit_and, Bool.and_eq_true, nb_bit, cm_bit] at hj
      obtain ⟨⟨i, a, b, c⟩, _, d⟩ := hj
      have := d i a b
      rw [sub_bit, this] at c
      simp at c
    rw [fl_full n hn] at h2
    have e0 : fl 0 = 0 := by decide
    omega
  obtain ⟨f, h1, h2⟩ := hall n hn _ _ (Nat.le_refl _) hH
  refine perm_of _ _ _ f (fun i hi => ?_) (fun i k hi hk => ?_)
  · rw [otherL_length, hb.len] at hi
    obtain ⟨a, b⟩ := h1 i hi
    exact ⟨by omega, by rw [otherL_get (by rw [hb.len]; exact hi)]; exact b, by simp⟩
  · rw [otherL_length, hb.len] at hi hk
    exact h2 i k hi hk
end Go.Proofs.YtellnklbkjajbaaDoor
