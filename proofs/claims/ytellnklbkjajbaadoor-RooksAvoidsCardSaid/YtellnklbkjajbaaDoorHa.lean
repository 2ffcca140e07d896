/- Hall's theorem for at most six rows, by taking away what is not needed (Rado) -/
import Derived.Test.YtellnklbkjajbaaDoorHm
namespace Go.Proofs.YtellnklbkjajbaaDoor
open Go.RowKit

theorem S6_le {f g : Nat → Nat} (h : ∀ i, i < 6 → f i ≤ g i) : S6 f ≤ S6 g := by
  unfold S6
  have := h 0 (by omega); have := h 1 (by omega); have := h 2 (by omega); have := h 3 (by omega); have := h 4 (by omega); have := h 5 (by omega)
  omega
theorem fl_le {a b : Nat} (h : ∀ j, j < 6 → a.testBit j = true → b.testBit j = true) : fl a ≤ fl b := S6_le fun j hj => by
  cases ha : a.testBit j with
  | true => simp [h j hj ha]
  | false => simp
theorem fl_or_and (a b : Nat) : fl (a ||| b) + fl (a &&& b) = fl a + fl b := by
  unfold fl
  rw [← S6_add, ← S6_add]
  refine S6_congr fun j _ => ?_
  simp only [Nat.testBit_or, Nat.testBit_and]
  cases a.testBit j <;> cases b.testBit j <;> rfl
theorem fl_pw {j : Nat} (hj : j < 6) : fl (2 ^ j) = 1 := by
  have : j = 0 ∨ j = 1 ∨ j = 2 ∨ j = 3 ∨ j = 4 ∨ j = 5 := by omega
  rcases this with rfl | rfl | rfl | rfl | rfl | rfl <;> decide
theorem fl_plus {s j : Nat} (hj : j < 6) (h : s.testBit j = false) : fl (s ||| 2 ^ j) = fl s + 1 := by
  have h1 := fl_or_and s (2 ^ j)
  have h2 : fl (s &&& 2 ^ j) = 0 := by
    have : s &&& 2 ^ j = 0 := Nat.eq_of_testBit_eq fun k => by
      rw [Nat.testBit_and, Nat.testBit_two_pow, Nat.zero_testBit]
      by_cases e : j = k
      · subst e; rw [h]; rfl
      · simp [e]
    rw [this]; rfl
  rw [fl_pw hj] at h1
  omega

/-- What the rows of S have, of the first n rows. -/
def nb (A : Nat → Nat) (S : Nat) : Nat → Nat
  | 0 => 0
  | i + 1 => nb A S i ||| (if S.testBit i then A i else 0)
theorem nb_bit (A : Nat → Nat) (S j : Nat) : ∀ n, (nb A S n).testBit j = true ↔ ∃ i, i < n ∧ S.testBit i = true ∧ (A i).testBit j = true
  | 0 => by simp [nb]
  | n + 1 => by
    rw [nb, Nat.testBit_or, Bool.or_eq_true, nb_bit A S j n]
    constructor
    · rintro (⟨i, h1, h2, h3⟩ | h)
      · exact ⟨i, by omega, h2, h3⟩
      · cases hs : S.testBit n with
        | true => rw [hs] at h; exact ⟨n, by omega, hs, h⟩
        | false => rw [hs] at h; simp at h
    · rintro ⟨i, h1, h2, h3⟩
      by_cases e : i = n
      · subst e; right; rw [h2]; exact h3
      · exact .inl ⟨i, by omega, h2, h3⟩
def HallOk (A : Nat → Nat) (n : Nat) : Prop := ∀ S, S < 2 ^ n → fl S ≤ fl (nb A S n)
def upd (A : Nat → Nat) (i v : Nat) : Nat → Nat := fun k => if k = i then v else A k
theorem upd_same (A : Nat → Nat) (i v : Nat) : upd A i v i = v := by simp [upd]
theorem upd_other (A : Nat → Nat) {i k : Nat} (v : Nat) (h : k ≠ i) : upd A i v k = A k := by simp [upd, h]

theorem bad_has {A : Nat → Nat} {n i S v : Nat} (h : HallOk A n) (hS : S < 2 ^ n) (hb : fl (nb (upd A i v) S n) < fl S) : S.testBit i = true := by
  cases hs : S.testBit i with
  | true => rfl
  | false =>
    exfalso
    have h1 := h S hS
    have h2 : fl (nb A S n) ≤ fl (nb (upd A i v) S n) := fl_le fun j _ hj => by
      rw [nb_bit] at hj ⊢
      obtain ⟨k, a, b, c⟩ := hj
      refine ⟨k, a, b, ?_⟩
      rw [upd_other A v (fun e => by subst e; rw [hs] at b; cases b)]
      exact c
    omega
theorem rado {A : Nat → Nat} {n i x y : Nat} (hn : n ≤ 6) (h : HallOk A n) (hi : i < n) (hxy : x ≠ y) :
    HallOk (upd A i (sub (A i) (2 ^ x))) n ∨ HallOk (upd A i (sub (A i) (2 ^ y))) n := by
  by_cases c : HallOk (upd A i (sub (A i) (2 ^ x))) n
  · exact .inl c
  by_cases d : HallOk (upd A i (sub (A i) (2 ^ y))) n
  · exact .inr d
  exfalso
  unfold HallOk at c d
  simp only [Classical.not_forall, Nat.not_le] at c d
  obtain ⟨S, hS, c⟩ := c
  obtain ⟨T, hT, d⟩ := d
  have hSi := bad_has h hS c
  have hTi := bad_has h hT d
  have fS := fl_less (s := S) (j := i) (by omega) hSi
  have fT := fl_less (s := T) (j := i) (by omega) hTi
  have hi2 : 2 ^ i < 2 ^ n := Nat.pow_lt_pow_right (by decide) hi
  have hS' : sub S (2 ^ i) < 2 ^ n := sub_le _ _ _ hS
  have hT' : sub T (2 ^ i) < 2 ^ n := sub_le _ _ _ hT
  have hP : (sub S (2 ^ i) ||| sub T (2 ^ i)) ||| 2 ^ i < 2 ^ n := Nat.or_lt_two_pow (Nat.or_lt_two_pow hS' hT') hi2
  have hQ : sub S (2 ^ i) &&& sub T (2 ^ i) < 2 ^ n := Nat.and_lt_two_pow _ hT'
  have sb (s k : Nat) : (sub s (2 ^ i)).testBit k = true ↔ s.testBit k = true ∧ k ≠ i := by
    rw [sub_bit, Nat.testBit_two_pow]
    by_cases e : i = k
    · subst e; simp
    · simp [e, Ne.symm e]
  have ub (z k j : Nat) (hj : (A k).testBit j = true) (h : k ≠ i ∨ j ≠ z) : (upd A i (sub (A i) (2 ^ z)) k).testBit j = true := by
    by_cases e : k = i
    · subst e
      rw [upd_same, sub_bit, Nat.testBit_two_pow, hj]
      have : j ≠ z := h.resolve_left (by simp)
      simp [Ne.symm this]
    · rw [upd_other _ _ e]; exact hj
  have h1 := h _ hP
  have h2 := h _ hQ
  rw [fl_plus (by omega) (by
    rw [Nat.testBit_or, sub_bit, sub_bit, Nat.testBit_two_pow]; simp)] at h1
  have h3 := fl_or_and (sub S (2 ^ i)) (sub T (2 ^ i))
  have h4 := fl_or_and (nb (upd A i (sub (A i) (2 ^ x))) S n) (nb (upd A i (sub (A i) (2 ^ y))) T n)
  have h5 : fl (nb A ((sub S (2 ^ i) ||| sub T (2 ^ i)) ||| 2 ^ i) n) ≤ fl (nb (upd A i (sub (A i) (2 ^ x))) S n ||| nb (upd A i (sub (A i) (2 ^ y))) T n) := fl_le fun j _ hj => by
    rw [nb_bit] at hj
    obtain ⟨k, a, b, cc⟩ := hj
    rw [Nat.testBit_or, Bool.or_eq_true, nb_bit, nb_bit]
    by_cases e : k = i
    · subst e
      by_cases ex : j = x
      · exact .inr ⟨k, a, hTi, ub y k j cc (.inr (by omega))⟩
      · exact .inl ⟨k, a, hSi, ub x k j cc (.inr ex)⟩
    · rw [Nat.testBit_or, Nat.testBit_or, Nat.testBit_two_pow] at b
      have : S.testBit k = true ∨ T.testBit k = true := by
        cases hs : S.testBit k with
        | true => exact .inl rfl
        | false =>
          right
          have e1 : (sub S (2 ^ i)).testBit k = false := by rw [sub_bit, hs]; rfl
          rw [e1] at b
          simp only [Bool.false_or, Ne.symm e, decide_false, Bool.or_false] at b
          exact ((sb T k).1 b).1
      rcases this with hs | ht
      · exact .inl ⟨k, a, hs, ub x k j cc (.inl e)⟩
      · exact .inr ⟨k, a, ht, ub y k j cc (.inl e)⟩
  have h6 : fl (nb A (sub S (2 ^ i) &&& sub T (2 ^ i)) n) ≤ fl (nb (upd A i (sub (A i) (2 ^ x))) S n &&& nb (upd A i (sub (A i) (2 ^ y))) T n) := fl_le fun j _ hj => by
    rw [nb_bit] at hj
    obtain ⟨k, a, b, cc⟩ := hj
    rw [Nat.testBit_and, Bool.and_eq_true, sb, sb] at b
    rw [Nat.testBit_and, Bool.and_eq_true, nb_bit, nb_bit]
    exact ⟨⟨k, a, b.1.1, ub x k j cc (.inl b.1.2)⟩, ⟨k, a, b.2.1, ub y k j cc (.inl b.1.2)⟩⟩
  omega

def total (A : Nat → Nat) : Nat → Nat
  | 0 => 0
  | n + 1 => total A n + fl (A n)
theorem total_upd (A : Nat → Nat) {i v : Nat} (hv : fl v < fl (A i)) : ∀ n, i < n → total (upd A i v) n < total A n
  | 0, h => by omega
  | n + 1, h => by
    rw [total, total]
    by_cases e : i = n
    · subst e
      rw [upd_same]
      have : ∀ m, m ≤ i → total (upd A i v) m = total A m := by
        intro m
        induction m with
        | zero => intro _; rfl
        | succ m ih => intro hm; rw [total, total, ih (by omega), upd_other _ _ (by omega)]
      rw [this i (Nat.le_refl _)]
      omega
    · rw [upd_other _ _ (by omega)]
      have := total_upd A hv n (by omega)
      omega
theorem fl_has {a : Nat} (h : 0 < fl a) : ∃ j, j < 6 ∧ a.testBit j = true := by
  refine Classical.byContradiction fun c => ?_
  have : fl a ≤ fl 0 := fl_le fun j hj hb => absurd ⟨j, hj, hb⟩ c
  have e : fl 0 = 0 := by decide
  omega

/-- Hall: if any rows have, together, at least as many columns as they are, they have different ones. -/
theorem hall (n : Nat) (hn : n ≤ 6) : ∀ (m : Nat) (A : Nat → Nat), total A n ≤ m → HallOk A n →
    ∃ f : Nat → Nat, (∀ i, i < n → f i < 6 ∧ (A i).testBit (f i) = true) ∧ ∀ i k, i < n → k < n → f i = f k → i = k := by
  intro m
  induction m with
  | zero =>
    intro A ht h
    by_cases h0 : n = 0
    · subst h0; exact ⟨fun _ => 0, fun i hi => absurd hi (Nat.not_lt_zero _), fun i k hi => absurd hi (Nat.not_lt_zero _)⟩
    · exfalso
      have h1 := h 1 (Nat.one_lt_two_pow h0)
      have e1 : fl 1 = 1 := by decide
      obtain ⟨j, hj, hb⟩ := fl_has (a := nb A 1 n) (by omega)
      obtain ⟨i, hi, _, hA⟩ := (nb_bit A 1 j n).1 hb
      have h2 : 0 < fl (A i) := by
        have := fl_le (a := 2 ^ j) (b := A i) fun k _ hk => by
          rw [Nat.testBit_two_pow] at hk
          have : j = k := of_decide_eq_true hk
          rw [← this]; exact hA
        rw [fl_pw hj] at this
        omega
      have : ∀ n, i < n → 0 < total A n := by
        intro n
        induction n with
        | zero => intro h; omega
        | succ n ih =>
          intro h
          rw [total]
          by_cases e : i = n
          · subst e; omega
          · have := ih (by omega); omega
      have := this n hi
      omega
  | succ m ih =>
    intro A ht h
    by_cases hc : ∃ i x y, i < n ∧ x < 6 ∧ y < 6 ∧ x ≠ y ∧ (A i).testBit x = true ∧ (A i).testBit y = true
    · obtain ⟨i, x, y, hi, hx, hy, hxy, bx, bY⟩ := hc
      have less (z : Nat) (hz : z < 6) (bz : (A i).testBit z = true) (hh : HallOk (upd A i (sub (A i) (2 ^ z))) n) :
          ∃ f : Nat → Nat, (∀ i, i < n → f i < 6 ∧ (A i).testBit (f i) = true) ∧ ∀ i k, i < n → k < n → f i = f k → i = k := by
        have f1 := fl_less (s := A i) hz bz
        have := total_upd A (i := i) (v := sub (A i) (2 ^ z)) (by omega) n hi
        obtain ⟨f, h1, h2⟩ := ih _ (by omega) hh
        refine ⟨f, fun k hk => ⟨(h1 k hk).1, ?_⟩, h2⟩
        have hb := (h1 k hk).2
        by_cases e : k = i
        · subst e
          rw [upd_same, sub_bit, Bool.and_eq_true] at hb
          exact hb.1
        · rwa [upd_other _ _ e] at hb
      rcases rado hn h hi hxy with hh | hh
      · exact less x hx bx hh
      · exact less y hy bY hh
    · have one : ∀ i, i < n → ∃ j, j < 6 ∧ (A i).testBit j = true := fun i hi => by
        have h1 := h (2 ^ i) (Nat.pow_lt_pow_right (by decide) hi)
        rw [fl_pw (by omega)] at h1
        obtain ⟨j, hj, hb⟩ := fl_has (a := nb A (2 ^ i) n) (by omega)
        obtain ⟨k, _, hk, hA⟩ := (nb_bit A _ j n).1 hb
        rw [Nat.testBit_two_pow] at hk
        have : i = k := of_decide_eq_true hk
        exact ⟨j, hj, by rw [this]; exact hA⟩
      have un : ∀ i x y, i < n → x < 6 → y < 6 → (A i).testBit x = true → (A i).testBit y = true → x = y := fun i x y hi hx hy bx bY =>
        Classical.byContradiction fun e => hc ⟨i, x, y, hi, hx, hy, e, bx, bY⟩
      refine ⟨fun i => if hi : i < n then (one i hi).choose else 0, fun i hi => ?_, fun i k hi hk e => ?_⟩
      · simp only [hi, dif_pos]
        exact (one i hi).choose_spec
      · simp only [hi, hk, dif_pos] at e
        obtain ⟨hj, hb⟩ := (one i hi).choose_spec
        obtain ⟨hj', hb'⟩ := (one k hk).choose_spec
        rw [← e] at hj' hb'
        generalize (one i hi).choose = j at *
        refine Classical.byContradiction fun hik => ?_
        have hi2 : 2 ^ i < 2 ^ n := Nat.pow_lt_pow_right (by decide) hi
        have hk2 : 2 ^ k < 2 ^ n := Nat.pow_lt_pow_right (by decide) hk
        have h1 := h (2 ^ i ||| 2 ^ k) (Nat.or_lt_two_pow hi2 hk2)
        rw [fl_plus (by omega) (by rw [Nat.testBit_two_pow]; simpa using hik), fl_pw (by omega)] at h1
        have h2 : fl (nb A (2 ^ i ||| 2 ^ k) n) ≤ fl (2 ^ j) := fl_le fun z hz hzb => by
          obtain ⟨r, hr, hrb, hA⟩ := (nb_bit A _ z n).1 hzb
          rw [Nat.testBit_or, Nat.testBit_two_pow, Nat.testBit_two_pow, Bool.or_eq_true, decide_eq_true_eq, decide_eq_true_eq] at hrb
          rw [Nat.testBit_two_pow, decide_eq_true_eq]
          rcases hrb with rfl | rfl
          · exact un _ _ _ hi hj hz hb hA
          · exact un _ _ _ hk hj' hz hb' hA
        rw [fl_pw hj] at h2
        omega
end Go.Proofs.YtellnklbkjajbaaDoor
