/- one letter leaves: of a short word and a mirror by which it falls -/
import Derived.Test.YtlnbodpdgebflaaCv
import Derived.Test.YtlnbodpdgebflaaOv
import Derived.Test.YtlnbodpdgebflaaOh
namespace Go.Proofs.Ytlnbodpdgebflaa
open Go.RowKit

/-- The last letters of words, as a set. -/
def laS (ws : List (List Nat)) : Nat := ws.foldl (fun s w => if w.length = 0 then s else s ||| 2 ^ (w.getD (w.length - 1) 0)) 0
theorem laS_snoc (ws : List (List Nat)) (w : List Nat) : laS (ws ++ [w]) = if w.length = 0 then laS ws else laS ws ||| 2 ^ (w.getD (w.length - 1) 0) := by simp [laS]
theorem laS_lt : ∀ (n : Nat) (ws : List (List Nat)), ws.length = n → (∀ w ∈ ws, ∀ x ∈ w, x < 4) → laS ws < 16 := by
  intro n
  induction n with
  | zero => intro ws h _; rw [List.eq_nil_of_length_eq_zero h]; decide
  | succ n ih =>
    intro ws hl h
    rcases List.eq_nil_or_concat ws with rfl | ⟨t, w, rfl⟩
    · simp at hl
    rw [List.concat_eq_append] at *
    have h1 := ih t (by simpa using hl) fun v hv => h v (by simp [hv])
    rw [laS_snoc]
    split
    · exact h1
    · rename_i h0
      have hlt : w.length - 1 < w.length := by omega
      have : w.getD (w.length - 1) 0 < 4 := h w (by simp) _ (by rw [List.getD_eq_getElem?_getD, List.getElem?_eq_getElem hlt]; exact List.getElem_mem hlt)
      exact Nat.or_lt_two_pow (n := 4) h1 (Nat.pow_lt_pow_right (by decide) this)
theorem laS_bit : ∀ (n : Nat) (ws : List (List Nat)), ws.length = n → ∀ s, (laS ws).testBit s = true ↔ ∃ l, l ++ [s] ∈ ws := by
  intro n
  induction n with
  | zero => intro ws h s; rw [List.eq_nil_of_length_eq_zero h]; simp [laS]
  | succ n ih =>
    intro ws hl s
    rcases List.eq_nil_or_concat ws with rfl | ⟨t, w, rfl⟩
    · simp at hl
    rw [List.concat_eq_append] at *
    have h1 := ih t (by simpa using hl) s
    rw [laS_snoc]
    by_cases h0 : w.length = 0
    · rw [if_pos h0, h1]
      obtain rfl := List.eq_nil_of_length_eq_zero h0
      constructor
      · rintro ⟨l, h⟩; exact ⟨l, by simp [h]⟩
      · rintro ⟨l, h⟩
        rcases List.mem_append.1 h with h | h
        · exact ⟨l, h⟩
        · simp at h
    · rw [if_neg h0, Nat.testBit_or, Nat.testBit_two_pow, Bool.or_eq_true, h1, decide_eq_true_eq]
      rcases List.eq_nil_or_concat w with rfl | ⟨m, u, rfl⟩
      · simp at h0
      rw [List.concat_eq_append]
      have e : (m ++ [u]).getD ((m ++ [u]).length - 1) 0 = u := by simp
      rw [e]
      constructor
      · rintro (⟨l, h⟩ | rfl)
        · exact ⟨l, by simp [h]⟩
        · exact ⟨m, by simp⟩
      · rintro ⟨l, h⟩
        rcases List.mem_append.1 h with h | h
        · exact .inl ⟨l, h⟩
        · simp only [List.mem_singleton] at h
          exact .inr (by simpa using (congrArg List.getLast? h).symm)
theorem flS_bit (g x s : Nat) : ∀ k, (flS g x k).testBit s = true ↔ s < k ∧ ln g (rt g x s) < ln g x
  | 0 => by simp [flS]
  | k + 1 => by
    have ih := flS_bit g x s k
    unfold flS
    by_cases h : flB g x k = true
    · rw [if_pos h, Nat.testBit_or, Nat.testBit_two_pow, Bool.or_eq_true, ih, decide_eq_true_eq]
      have h' : ln g (rt g x k) < ln g x := of_decide_eq_true h
      constructor
      · rintro (⟨a, b⟩ | rfl)
        · exact ⟨by omega, b⟩
        · exact ⟨by omega, h'⟩
      · rintro ⟨a, b⟩
        rcases Nat.lt_or_ge s k with c | c
        · exact .inl ⟨c, b⟩
        · exact .inr (by omega)
    · rw [if_neg h, ih]
      have h' : ¬ ln g (rt g x k) < ln g x := fun q => h (decide_eq_true q)
      constructor
      · rintro ⟨a, b⟩; exact ⟨by omega, b⟩
      · rintro ⟨a, b⟩
        refine ⟨?_, b⟩
        rcases Nat.lt_or_ge s k with c | c
        · exact c
        · have : s = k := by omega
          subst this; exact absurd b h'
theorem shw_wd {g x : Nat} (hg : g < 17) (hx : x < nE g) : Shw g x (wd g x) := ⟨Let.wd hg hx, rfl, wd_fol hg hx⟩
/-- The last letters of the short words are the mirrors by which the element falls. -/
theorem lv_last {g x : Nat} (hg : g < 17) (hx : x < nE g) : laS (shP g (ln g x) x) = flS g x (kM g) := by
  refine Nat.eq_of_testBit_eq fun s => Bool.eq_iff_iff.2 ?_
  rw [laS_bit _ _ rfl, flS_bit]
  constructor
  · rintro ⟨l, h⟩
    obtain ⟨h1, h2, _⟩ := (shw_snoc hg hx).1 ((shP_mem hg _ x hx (Nat.le_refl _) _).1 h)
    exact ⟨h1, h2⟩
  · rintro ⟨h1, h2⟩
    exact ⟨_, (shP_mem hg _ x hx (Nat.le_refl _) _).2 ((shw_snoc hg hx).2 ⟨h1, h2, shw_wd hg (tb hg hx h1).2.1⟩)⟩
theorem shP_pos {g x : Nat} (hg : g < 17) (hx : x < nE g) : 0 < (shP g (ln g x) x).length :=
  List.length_pos_of_mem ((shP_mem hg _ x hx (Nat.le_refl _) _).2 (shw_wd hg hx))
theorem sum_le {f : Nat → Nat} {c : Nat} (h : ∀ s, f s ≤ c) : ∀ k, ((List.range k).map f).sum ≤ k * c
  | 0 => by simp
  | k + 1 => by
    rw [List.range_succ, List.map_append, List.sum_append, Nat.succ_mul]
    have := sum_le h k
    have := h k
    simp
    omega
theorem shP_le {g : Nat} (hg : g < 17) : ∀ (n x : Nat), (shP g n x).length ≤ 4 ^ n
  | 0, x => by simp [shP]
  | n + 1, x => by
    have h4 : 1 ≤ 4 ^ n := Nat.pos_of_ne_zero (by simp)
    unfold shP
    split
    · simp only [List.length_singleton]; rw [Nat.pow_succ]; omega
    · rw [List.length_flatMap]
      have h := sum_le (f := fun s => (if ln g (lm g s x) < ln g x then (shP g n (lm g s x)).map (s :: ·) else []).length) (c := 4 ^ n) (fun s => by
        split
        · rw [List.length_map]; exact shP_le hg n _
        · simp) (kM g)
      have hk := (tg hg).2.2.2.1
      have : kM g * 4 ^ n ≤ 4 * 4 ^ n := Nat.mul_le_mul_right _ hk
      rw [Nat.pow_succ]
      omega
theorem shP_len {g x : Nat} (hg : g < 17) (hx : x < nE g) : (shP g (ln g x) x).length ≤ 16777216 := by
  have h1 := shP_le hg (ln g x) x
  have h2 := (tx hg hx).2.1
  have h3 : 4 ^ ln g x ≤ 4 ^ 12 := Nat.pow_le_pow_right (by decide) h2
  have h4 : 4 ^ 12 = 16777216 := by decide
  omega
/-- Two letters, one at each end. -/
theorem two_chk : ((List.range 17).all fun g => (List.range (nE g)).all fun x => (List.range (kM g)).all fun s => !decide (lf g (rt g x s) < lf g x) || (List.range (kM g)).all fun t =>
  let y := lm g t x
  (lf g y > lf g x) || (rt g x s == y) || (decide (lf g (rt g y s) < lf g y) && (rt g y s == lm g t (rt g x s)))) = true := by decide +kernel
theorem two_ok {g x s t : Nat} (hg : g < 17) (hx : x < nE g) (hs : s < kM g) (ht : t < kM g) (h1 : ln g (rt g x s) < ln g x) (h2 : ln g (lm g t x) < ln g x) (hne : rt g x s ≠ lm g t x) :
    ln g (rt g (lm g t x) s) < ln g (lm g t x) ∧ rt g (lm g t x) s = lm g t (rt g x s) := by
  have h := List.all_eq_true.1 (List.all_eq_true.1 (List.all_eq_true.1 two_chk g (List.mem_range.2 hg)) x (List.mem_range.2 hx)) s (List.mem_range.2 hs)
  have hy := (len_one hg hx ht).2.2.2
  rw [(fast hg hx).1, (fast hg (tb hg hx hs).2.1).1, decide_eq_true h1, Bool.not_true, Bool.false_or] at h
  have h3 := List.all_eq_true.1 h t (List.mem_range.2 ht)
  simp only [(fast hg hy).1, (fast hg (tb hg hy hs).2.1).1, Bool.or_eq_true, Bool.and_eq_true, decide_eq_true_eq, beq_iff_eq] at h3
  rcases h3 with (h3 | h3) | h3
  · omega
  · exact absurd h3 hne
  · exact h3
theorem wo_zero (s : Nat) (l : List Nat) : wo_ (s :: l) 0 = l := by simp [wo_]
theorem wo_succ (s : Nat) (l : List Nat) (k : Nat) : wo_ (s :: l) (k + 1) = s :: wo_ l k := by simp [wo_]
theorem wo_sub {l : List Nat} {k x : Nat} (h : x ∈ wo_ l k) : x ∈ l := by
  rcases List.mem_append.1 h with h | h
  · exact List.mem_of_mem_take h
  · exact List.mem_of_mem_drop h
theorem wo_ln (l : List Nat) (k : Nat) (h : k < l.length) : (wo_ l k).length = l.length - 1 := by simp [wo_]; omega
/-- One letter alone can leave. -/
theorem one_goes {g s : Nat} (hg : g < 17) (hs : s < kM g) : ∀ (w : List Nat) (x : Nat), x < nE g → Shw g x w → ln g (rt g x s) < ln g x → ∃ k, k < w.length ∧ ∀ i, i < w.length → (fol g 0 (wo_ w i) = rt g x s ↔ i = k)
  | [], x, hx, hw, hf => by
    rw [shw_nil hw, ln_zero hg] at hf; omega
  | t :: w, x, hx, hw, hf => by
    obtain ⟨ht, hlt, hw'⟩ := (shw_cons hg hx).1 hw
    obtain ⟨_, _, hll, hy⟩ := len_one hg hx ht
    have hr := (tb hg hx hs).2.1
    have hl : Let g w := hw'.1
    have hF : ∀ i, fol g 0 (wo_ (t :: w) (i + 1)) = lm g t (fol g 0 (wo_ w i)) := fun i => by
      rw [wo_succ]; exact fol_first hg ht fun u hu => hl u (wo_sub hu)
    have hFl : ∀ i, fol g 0 (wo_ w i) < nE g := fun i => fol_lt hg _ 0 (tE hg).1 fun u hu => hl u (wo_sub hu)
    have h0 : fol g 0 (wo_ (t :: w) 0) = lm g t x := by rw [wo_zero]; exact hw'.2.2
    by_cases e : rt g x s = lm g t x
    · refine ⟨0, by simp, fun i hi => ?_⟩
      cases i with
      | zero => rw [h0, e]; simp
      | succ i =>
        rw [hF]
        constructor
        · intro q
          have hi' : i < w.length := by simpa using hi
          rw [e] at q
          have q2 := congrArg (lm g t) q
          rw [(len_one hg (hFl i) ht).2.2.1, hll] at q2
          have := ln_fol hg (wo_ w i) fun u hu => hl u (wo_sub hu)
          rw [q2, wo_ln w i hi', hw'.2.1] at this
          omega
        · intro q; omega
    · obtain ⟨h1, h2⟩ := two_ok hg hx hs ht hf hlt e
      obtain ⟨k, hk, hu⟩ := one_goes hg hs w (lm g t x) hy hw' h1
      refine ⟨k + 1, by simpa using hk, fun i hi => ?_⟩
      cases i with
      | zero =>
        rw [h0]
        constructor
        · intro q; exact absurd q.symm e
        · intro q; omega
      | succ i =>
        have hi' : i < w.length := by simpa using hi
        rw [hF]
        have := hu i hi'
        rw [h2] at this
        constructor
        · intro q
          rw [show i = k from this.1 (by rw [← q, (len_one hg (hFl i) ht).2.2.1])]
        · intro q
          rw [this.2 (by omega), (len_one hg hr ht).2.2.1]
theorem lv_one {g x s : Nat} {w : List Nat} (hg : g < 17) (hx : x < nE g) (hs : s < kM g) (hw : Shw g x w) (hf : ln g (rt g x s) < ln g x) :
    ∃ k, lvO g x s w = some k ∧ k < w.length ∧ ∀ i, i < w.length → (fol g 0 (wo_ w i) = rt g x s ↔ i = k) := by
  obtain ⟨k, hk, hu⟩ := one_goes hg hs w x hx hw hf
  refine ⟨k, ?_, hk, hu⟩
  unfold lvO
  rw [List.find?_range_eq_some]
  exact ⟨by simpa using (hu k hk).2 rfl, List.mem_range.2 hk, fun j hj => by
    have : ¬ fol g 0 (wo_ w j) = rt g x s := fun q => by have := (hu j (by omega)).1 q; omega
    simpa using this⟩
end Go.Proofs.Ytlnbodpdgebflaa
