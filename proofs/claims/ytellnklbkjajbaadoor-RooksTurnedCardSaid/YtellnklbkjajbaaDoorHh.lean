/- Hall's theorem for at most six rows, by taking away what is not needed (Rado); the permutations that hit nothing: those of all that have no hit; a permutation that hits nothing, or a barrier -/
import Derived.Test.YtellnklbkjajbaaDoorHm
import Derived.Test.YtellnklbkjajbaaDoorHp
namespace Go.Proofs.YtellnklbkjajbaaDoor
open Go.RowKit

theorem S6_le {f g : Nat → Nat} (h : ∀ i, i < 6 → f i ≤ g i) : S6 f ≤ S6 g := by
  unfold S6
  have := h 0 (by omega); have := h 1 (by omega); have := h 2 (by omega); have := h 3 (by omega); have := h 4 (by omega); have := h 5 (by omega)
  omega
theorem fl_le {a b : Nat} (h : ∀ j, j < 6 → a.testBit j = true → b.testBit j = true) : fl a ≤ fl b := S6_le fun j hj => by
  cases ha : a.testBit j with
  | true => simp [h j hj ha]
  | false => simp
theorem fl_or_and (a b : Nat) : fl (a ||| b) + fl (a &&& b) = fl a + fl b := by
  unfold fl
  rw [← S6_add, ← S6_add]
  refine S6_congr fun j _ => ?_
  simp only [Nat.testBit_or, Nat.testBit_and]
  cases a.testBit j <;> cases b.testBit j <;> rfl
theorem fl_pw {j : Nat} (hj : j < 6) : fl (2 ^ j) = 1 := by
  have : j = 0 ∨ j = 1 ∨ j = 2 ∨ j = 3 ∨ j = 4 ∨ j = 5 := by omega
  rcases this with rfl | rfl | rfl | rfl | rfl | rfl <;> decide
theorem fl_plus {s j : Nat} (hj : j < 6) (h : s.testBit j = false) : fl (s ||| 2 ^ j) = fl s + 1 := by
  have h1 := fl_or_and s (2 ^ j)
  have h2 : fl (s &&& 2 ^ j) = 0 := by
    have : s &&& 2 ^ j = 0 := Nat.eq_of_testBit_eq fun k => by
      rw [Nat.testBit_and, Nat.testBit_two_pow, Nat.zero_testBit]
      by_cases e : j = k
      · subst e; rw [h]; rfl
      · simp [e]
    rw [this]; rfl
  rw [fl_pw hj] at h1
  omega

/-- What the rows of S have, of the first n rows. -/
def nb (A : Nat → Nat) (S : Nat) : Nat → Nat
  | 0 => 0
  | i + 1 => nb A S i ||| (if S.testBit i then A i else 0)
theorem nb_bit (A : Nat → Nat) (S j : Nat) : ∀ n, (nb A S n).testBit j = true ↔ ∃ i, i < n ∧ S.testBit i = true ∧ (A i).testBit j = true
  | 0 => by simp [nb]
  | n + 1 => by
    rw [nb, Nat.testBit_or, Bool.or_eq_true, nb_bit A S j n]
    constructor
    · rintro (⟨i, h1, h2, h3⟩ | h)
      · exact ⟨i, by omega, h2, h3⟩
      · cases hs : S.testBit n with
        | true => rw [hs] at h; exact ⟨n, by omega, hs, h⟩
        | false => rw [hs] at h; simp at h
    · rintro ⟨i, h1, h2, h3⟩
      by_cases e : i = n
      · subst e; right; rw [h2]; exact h3
      · exact .inl ⟨i, by omega, h2, h3⟩
def HallOk (A : Nat → Nat) (n : Nat) : Prop := ∀ S, S < 2 ^ n → fl S ≤ fl (nb A S n)
def upd (A : Nat → Nat) (i v : Nat) : Nat → Nat := fun k => if k = i then v else A k
theorem upd_same (A : Nat → Nat) (i v : Nat) : upd A i v i = v := by simp [upd]
theorem upd_other (A : Nat → Nat) {i k : Nat} (v : Nat) (h : k ≠ i) : upd A i v k = A k := by simp [upd, h]

theorem bad_has {A : Nat → Nat} {n i S v : Nat} (h : HallOk A n) (hS : S < 2 ^ n) (hb : fl (nb (upd A i v) S n) < fl S) : S.testBit i = true := by
  cases hs : S.testBit i with
  | true => rfl
  | false =>
    exfalso
    have h1 := h S hS
    have h2 : fl (nb A S n) ≤ fl (nb (upd A i v) S n) := fl_le fun j _ hj => by
      rw [nb_bit] at hj ⊢
      obtain ⟨k, a, b, c⟩ := hj
      refine ⟨k, a, b, ?_⟩
      rw [upd_other A v (fun e => by subst e; rw [hs] at b; cases b)]
      exact c
    omega
theorem rado {A : Nat → Nat} {n i x y : Nat} (hn : n ≤ 6) (h : HallOk A n) (hi : i < n) (hxy : x ≠ y) :
    HallOk (upd A i (sub (A i) (2 ^ x))) n ∨ HallOk (upd A i (sub (A i) (2 ^ y))) n := by
  by_cases c : HallOk (upd A i (sub (A i) (2 ^ x))) n
  · exact .inl c
  by_cases d : HallOk (upd A i (sub (A i) (2 ^ y))) n
  · exact .inr d
  exfalso
  unfold HallOk at c d
  simp only [Classical.not_forall, Nat.not_le] at c d
  obtain ⟨S, hS, c⟩ := c
  obtain ⟨T, hT, d⟩ := d
  have hSi := bad_has h hS c
  have hTi := bad_has h hT d
  have fS := fl_less (s := S) (j := i) (by omega) hSi
  have fT := fl_less (s := T) (j := i) (by omega) hTi
  have hi2 : 2 ^ i < 2 ^ n := Nat.pow_lt_pow_right (by decide) hi
  have hS' : sub S (2 ^ i) < 2 ^ n := sub_le _ _ _ hS
  have hT' : sub T (2 ^ i) < 2 ^ n := sub_le _ _ _ hT
  have hP : (sub S (2 ^ i) ||| sub T (2 ^ i)) ||| 2 ^ i < 2 ^ n := Nat.or_lt_two_pow (Nat.or_lt_two_pow hS' hT') hi2
  have hQ : sub S (2 ^ i) &&& sub T (2 ^ i) < 2 ^ n := Nat.and_lt_two_pow _ hT'
  have sb (s k : Nat) : (sub s (2 ^ i)).testBit k = true ↔ s.testBit k = true ∧ k ≠ i := by
    rw [sub_bit, Nat.testBit_two_pow]
    by_cases e : i = k
    · subst e; simp
    · simp [e, Ne.symm e]
  have ub (z k j : Nat) (hj : (A k).testBit j = true) (h : k ≠ i ∨ j ≠ z) : (upd A i (sub (A i) (2 ^ z)) k).testBit j = true := by
    by_cases e : k = i
    · subst e
      rw [upd_same, sub_bit, Nat.testBit_two_pow, hj]
      have : j ≠ z := h.resolve_left (by simp)
      simp [Ne.symm this]
    · rw [upd_other _ _ e]; exact hj
  have h1 := h _ hP
  have h2 := h _ hQ
  rw [fl_plus (by omega) (by
    rw [Nat.testBit_or, sub_bit, sub_bit, Nat.testBit_two_pow]; simp)] at h1
  have h3 := fl_or_and (sub S (2 ^ i)) (sub T (2 ^ i))
  have h4 := fl_or_and (nb (upd A i (sub (A i) (2 ^ x))) S n) (nb (upd A i (sub (A i) (2 ^ y))) T n)
  have h5 : fl (nb A ((sub S (2 ^ i) ||| sub T (2 ^ i)) ||| 2 ^ i) n) ≤ fl (nb (upd A i (sub (A i) (2 ^ x))) S n ||| nb (upd A i (sub (A i) (2 ^ y))) T n) := fl_le fun j _ hj => by
    rw [nb_bit] at hj
    obtain ⟨k, a, b, cc⟩ := hj
    rw [Nat.testBit_or, Bool.or_eq_true, nb_bit, nb_bit]
    by_cases e : k = i
    · subst e
      by_cases ex : j = x
      · exact .inr ⟨k, a, hTi, ub y k j cc (.inr (by omega))⟩
      · exact .inl ⟨k, a, hSi, ub x k j cc (.inr ex)⟩
    · rw [Nat.testBit_or, Nat.testBit_or, Nat.testBit_two_pow] at b
      have : S.testBit k = true ∨ T.testBit k = true := by
        cases hs : S.testBit k with
        | true => exact .inl rfl
        | false =>
          right
          have e1 : (sub S (2 ^ i)).testBit k = false := by rw [sub_bit, hs]; rfl
          rw [e1] at b
          simp only [Bool.false_or, Ne.symm e, decide_false, Bool.or_false] at b
          exact ((sb T k).1 b).1
      rcases this with hs | ht
      · exact .inl ⟨k, a, hs, ub x k j cc (.inl e)⟩
      · exact .inr ⟨k, a, ht, ub y k j cc (.inl e)⟩
  have h6 : fl (nb A (sub S (2 ^ i) &&& sub T (2 ^ i)) n) ≤ fl (nb (upd A i (sub (A i) (2 ^ x))) S n &&& nb (upd A i (sub (A i) (2 ^ y))) T n) := fl_le fun j _ hj => by
    rw [nb_bit] at hj
    obtain ⟨k, a, b, cc⟩ := hj
    rw [Nat.testBit_and, Bool.and_eq_true, sb, sb] at b
    rw [Nat.testBit_and, Bool.and_eq_true, nb_bit, nb_bit]
    exact ⟨⟨k, a, b.1.1, ub x k j cc (.inl b.1.2)⟩, ⟨k, a, b.2.1, ub y k j cc (.inl b.1.2)⟩⟩
  omega

def total (A : Nat → Nat) : Nat → Nat
  | 0 => 0
  | n + 1 => total A n + fl (A n)
theorem total_upd (A : Nat → Nat) {i v : Nat} (hv : fl v < fl (A i)) : ∀ n, i < n → total (upd A i v) n < total A n
  | 0, h => by omega
  | n + 1, h => by
    rw [total, total]
    by_cases e : i = n
    · subst e
      rw [upd_same]
      have : ∀ m, m ≤ i → total (upd A i v) m = total A m := by
        intro m
        induction m with
        | zero => intro _; rfl
        | succ m ih => intro hm; rw [total, total, ih (by omega), upd_other _ _ (by omega)]
      rw [this i (Nat.le_refl _)]
      omega
    · rw [upd_other _ _ (by omega)]
      have := total_upd A hv n (by omega)
      omega
theorem fl_has {a : Nat} (h : 0 < fl a) : ∃ j, j < 6 ∧ a.testBit j = true := by
  refine Classical.byContradiction fun c => ?_
  have : fl a ≤ fl 0 := fl_le fun j hj hb => absurd ⟨j, hj, hb⟩ c
  have e : fl 0 = 0 := by decide
  omega

/-- Hall: if any rows have, together, at least as many columns as they are, they have different ones. -/
theorem hall (n : Nat) (hn : n ≤ 6) : ∀ (m : Nat) (A : Nat → Nat), total A n ≤ m → HallOk A n →
    ∃ f : Nat → Nat, (∀ i, i < n → f i < 6 ∧ (A i).testBit (f i) = true) ∧ ∀ i k, i < n → k < n → f i = f k → i = k := by
  intro m
  induction m with
  | zero =>
    intro A ht h
    by_cases h0 : n = 0
    · subst h0; exact ⟨fun _ => 0, fun i hi => absurd hi (Nat.not_lt_zero _), fun i k hi => absurd hi (Nat.not_lt_zero _)⟩
    · exfalso
      have h1 := h 1 (Nat.one_lt_two_pow h0)
      have e1 : fl 1 = 1 := by decide
      obtain ⟨j, hj, hb⟩ := fl_has (a := nb A 1 n) (by omega)
      obtain ⟨i, hi, _, hA⟩ := (nb_bit A 1 j n).1 hb
      have h2 : 0 < fl (A i) := by
        have := fl_le (a := 2 ^ j) (b := A i) fun k _ hk => by
          rw [Nat.testBit_two_pow] at hk
          have : j = k := of_decide_eq_true hk
          rw [← this]; exact hA
        rw [fl_pw hj] at this
        omega
      have : ∀ n, i < n → 0 < total A n := by
        intro n
        induction n with
        | zero => intro h; omega
        | succ n ih =>
          intro h
          rw [total]
          by_cases e : i = n
          · subst e; omega
          · have := ih (by omega); omega
      have := this n hi
      omega
  | succ m ih =>
    intro A ht h
    by_cases hc : ∃ i x y, i < n ∧ x < 6 ∧ y < 6 ∧ x ≠ y ∧ (A i).testBit x = true ∧ (A i).testBit y = true
    · obtain ⟨i, x, y, hi, hx, hy, hxy, bx, bY⟩ := hc
      have less (z : Nat) (hz : z < 6) (bz : (A i).testBit z = true) (hh : HallOk (upd A i (sub (A i) (2 ^ z))) n) :
          ∃ f : Nat → Nat, (∀ i, i < n → f i < 6 ∧ (A i).testBit (f i) = true) ∧ ∀ i k, i < n → k < n → f i = f k → i = k := by
        have f1 := fl_less (s := A i) hz bz
        have := total_upd A (i := i) (v := sub (A i) (2 ^ z)) (by omega) n hi
        obtain ⟨f, h1, h2⟩ := ih _ (by omega) hh
        refine ⟨f, fun k hk => ⟨(h1 k hk).1, ?_⟩, h2⟩
        have hb := (h1 k hk).2
        by_cases e : k = i
        · subst e
          rw [upd_same, sub_bit, Bool.and_eq_true] at hb
          exact hb.1
        · rwa [upd_other _ _ e] at hb
      rcases rado hn h hi hxy with hh | hh
      · exact less x hx bx hh
      · exact less y hy bY hh
    · have one : ∀ i, i < n → ∃ j, j < 6 ∧ (A i).testBit j = true := fun i hi => by
        have h1 := h (2 ^ i) (Nat.pow_lt_pow_right (by decide) hi)
        rw [fl_pw (by omega)] at h1
        obtain ⟨j, hj, hb⟩ := fl_has (a := nb A (2 ^ i) n) (by omega)
        obtain ⟨k, _, hk, hA⟩ := (nb_bit A _ j n).1 hb
        rw [Nat.testBit_two_pow] at hk
        have : i = k := of_decide_eq_true hk
        exact ⟨j, hj, by rw [this]; exact hA⟩
      have un : ∀ i x y, i < n → x < 6 → y < 6 → (A i).testBit x = true → (A i).testBit y = true → x = y := fun i x y hi hx hy bx bY =>
        Classical.byContradiction fun e => hc ⟨i, x, y, hi, hx, hy, e, bx, bY⟩
      refine ⟨fun i => if hi : i < n then (one i hi).choose else 0, fun i hi => ?_, fun i k hi hk e => ?_⟩
      · simp only [hi, dif_pos]
        exact (one i hi).choose_spec
      · simp only [hi, hk, dif_pos] at e
        obtain ⟨hj, hb⟩ := (one i hi).choose_spec
        obtain ⟨hj', hb'⟩ := (one k hk).choose_spec
        rw [← e] at hj' hb'
        generalize (one i hi).choose = j at *
        refine Classical.byContradiction fun hik => ?_
        have hi2 : 2 ^ i < 2 ^ n := Nat.pow_lt_pow_right (by decide) hi
        have hk2 : 2 ^ k < 2 ^ n := Nat.pow_lt_pow_right (by decide) hk
        have h1 := h (2 ^ i ||| 2 ^ k) (Nat.or_lt_two_pow hi2 hk2)
        rw [fl_plus (by omega) (by rw [Nat.testBit_two_pow]; simpa using hik), fl_pw (by omega)] at h1
        have h2 : fl (nb A (2 ^ i ||| 2 ^ k) n) ≤ fl (2 ^ j) := fl_le fun z hz hzb => by
          obtain ⟨r, hr, hrb, hA⟩ := (nb_bit A _ z n).1 hzb
          rw [Nat.testBit_or, Nat.testBit_two_pow, Nat.testBit_two_pow, Bool.or_eq_true, decide_eq_true_eq, decide_eq_true_eq] at hrb
          rw [Nat.testBit_two_pow, decide_eq_true_eq]
          rcases hrb with rfl | rfl
          · exact un _ _ _ hi hj hz hb hA
          · exact un _ _ _ hk hj' hz hb' hA
        rw [fl_pw hj] at h2
        omega
end Go.Proofs.YtellnklbkjajbaaDoor

namespace Go.Proofs.YtellnklbkjajbaaDoor
open Go.RowKit

theorem flatMap_filter {α β : Type} (l : List α) (p : α → Bool) (f : α → List β) : (l.filter p).flatMap f = l.flatMap fun x => if p x then f x else [] := by
  induction l with
  | nil => rfl
  | cons a l ih => rw [List.filter_cons, List.flatMap_cons, ← ih]; cases p a <;> simp
theorem elem8_sub (full r tk : Nat) : elem8 (sub (sub full r) tk) = (elem8 (sub full tk)).filter fun j => !r.testBit j := by
  unfold elem8
  rw [List.filter_filter]
  congr 1
  funext j
  rw [sub_bit, sub_bit, sub_bit]
  cases full.testBit j <;> cases r.testBit j <;> cases tk.testBit j <;> rfl
theorem permsF_avoid (full : Nat) : ∀ (rs : List Nat) (tk : Nat) (q : List Nat), permsF (rs.map fun r => sub full r) tk q = ((comps full rs.length tk).filter fun p => sufH rs p == 0).map fun p => q ++ p
  | [], tk, q => by simp [permsF, comps, sufH]
  | r :: rs, tk, q => by
    rw [List.map_cons, permsF, elem8_sub, flatMap_filter, List.length_cons, comps, List.filter_flatMap, List.map_flatMap]
    congr 1
    funext j
    rw [List.filter_map, List.map_map]
    cases h : r.testBit j with
    | true =>
      have : (comps full rs.length (tk ||| 2 ^ j)).filter ((fun p => sufH (r :: rs) p == 0) ∘ fun p => j :: p) = [] := by
        rw [List.filter_eq_nil_iff]
        intro p _
        simp [sufH, h]
      rw [this]; rfl
    | false =>
      have : (comps full rs.length (tk ||| 2 ^ j)).filter ((fun p => sufH (r :: rs) p == 0) ∘ fun p => j :: p) = (comps full rs.length (tk ||| 2 ^ j)).filter fun p => sufH rs p == 0 := by
        congr 1
        funext p
        simp [sufH, h]
      rw [this]
      simp only [Bool.not_false, if_true]
      rw [permsF_avoid full rs]
      refine List.map_congr_left fun p _ => ?_
      simp

/-- The permutations that hit no square of a board. -/
def freeL (n : Nat) (bs : List Nat) : List (List Nat) := permsF (otherL n bs) 0 []
theorem freeL_filter {n : Nat} {bs : List Nat} (hb : Brd n bs) : freeL n bs = (allP n).filter fun p => hitK bs p n == 0 := by
  have hl := hb.len
  unfold freeL otherL
  rw [permsF_avoid, allP_comps, hl]
  simp only [List.nil_append, List.map_id']
  refine List.filter_congr fun p hp => ?_
  have h2 := comps_length _ _ _ _ hp
  have := hitK_suf bs p (by omega)
  rw [hl] at this
  rw [this]
end Go.Proofs.YtellnklbkjajbaaDoor

namespace Go.Proofs.YtellnklbkjajbaaDoor
open Go.RowKit

theorem mem_elem8 {x j : Nat} (h : j < 8) (hb : x.testBit j = true) : j ∈ elem8 x := List.mem_filter.2 ⟨List.mem_range.2 h, hb⟩
theorem perm_of : ∀ (rs : List Nat) (tk : Nat) (q : List Nat) (f : Nat → Nat), (∀ i, i < rs.length → f i < 8 ∧ (rs.getD i 0).testBit (f i) = true ∧ tk.testBit (f i) = false) →
    (∀ i k, i < rs.length → k < rs.length → f i = f k → i = k) → permsF rs tk q ≠ []
  | [], _, q, _, _, _ => by simp [permsF]
  | r :: rs, tk, q, f, h, hi => by
    rw [permsF]
    intro e
    rw [List.flatMap_eq_nil_iff] at e
    obtain ⟨a, b, c⟩ := h 0 (by simp)
    refine perm_of rs (tk ||| 2 ^ f 0) (q ++ [f 0]) (fun i => f (i + 1)) (fun i hl => ?_) (fun i k h1 h2 e' => ?_) (e (f 0) (mem_elem8 a (by rw [sub_bit, c]; simpa using b)))
    · obtain ⟨a', b', c'⟩ := h (i + 1) (by simpa using hl)
      refine ⟨a', by simpa using b', ?_⟩
      rw [Nat.testBit_or, c', Nat.testBit_two_pow]
      have : f 0 ≠ f (i + 1) := fun e' => by
        have := hi 0 (i + 1) (by simp) (by simpa using hl) e'
        omega
      simpa using this
    · have := hi (i + 1) (k + 1) (by simpa using h1) (by simpa using h2) e'
      omega
theorem mem_perms : ∀ (rs : List Nat) (tk : Nat) (q p : List Nat), p ∈ permsF rs tk q → ∃ s, p = q ++ s ∧ s.length = rs.length ∧
    ∀ k, k < rs.length → s.getD k 0 < 8 ∧ (rs.getD k 0).testBit (s.getD k 0) = true ∧ tk.testBit (s.getD k 0) = false ∧ ∀ m, m < k → s.getD m 0 ≠ s.getD k 0
  | [], tk, q, p, h => by
    simp [permsF] at h
    exact ⟨[], by simp [h], rfl, fun k hk => by simp at hk⟩
  | r :: rs, tk, q, p, h => by
    rw [permsF, List.mem_flatMap] at h
    obtain ⟨j, hj, h⟩ := h
    obtain ⟨hj8, hjb⟩ := elem8_mem hj
    rw [sub_bit, Bool.and_eq_true, Bool.not_eq_true'] at hjb
    obtain ⟨s, rfl, hs, hk⟩ := mem_perms rs _ _ p h
    refine ⟨j :: s, by simp, by simp [hs], fun k hlt => ?_⟩
    cases k with
    | zero => exact ⟨by simpa using hj8, by simpa using hjb.1, by simpa using hjb.2, fun m hm => by omega⟩
    | succ k =>
      obtain ⟨a, b, c, d⟩ := hk k (by simpa using hlt)
      rw [Nat.testBit_or, Bool.or_eq_false_iff, Nat.testBit_two_pow, decide_eq_false_iff_not] at c
      refine ⟨by simpa using a, by simpa using b, by simpa using c.1, fun m hm => ?_⟩
      cases m with
      | zero => simpa using c.2
      | succ m => simpa using d m (by omega)

/-- The columns that all rows of S have. -/
def cm (full : Nat) (bs : List Nat) (S : Nat) : Nat → Nat
  | 0 => full
  | i + 1 => if S.testBit i then cm full bs S i &&& bs.getD i 0 else cm full bs S i
theorem cm_bit (full : Nat) (bs : List Nat) (S j : Nat) : ∀ n, (cm full bs S n).testBit j = true ↔ full.testBit j = true ∧ ∀ i, i < n → S.testBit i = true → (bs.getD i 0).testBit j = true
  | 0 => by simp [cm]
  | n + 1 => by
    rw [cm]
    cases hs : S.testBit n with
    | true =>
      rw [if_pos rfl, Nat.testBit_and, Bool.and_eq_true, cm_bit full bs S j n]
      constructor
      · rintro ⟨⟨a, b⟩, c⟩
        refine ⟨a, fun i hi hb => ?_⟩
        by_cases e : i = n
        · subst e; exact c
        · exact b i (by omega) hb
      · rintro ⟨a, b⟩
        exact ⟨⟨a, fun i hi hb => b i (by omega) hb⟩, b n (by omega) hs⟩
    | false =>
      rw [if_neg (by simp), cm_bit full bs S j n]
      constructor
      · rintro ⟨a, b⟩
        refine ⟨a, fun i hi hb => ?_⟩
        by_cases e : i = n
        · subst e; rw [hs] at hb; cases hb
        · exact b i (by omega) hb
      · rintro ⟨a, b⟩
        exact ⟨a, fun i hi hb => b i (by omega) hb⟩
theorem cm_lt {full n : Nat} (bs : List Nat) (S : Nat) (hf : full < 2 ^ n) : ∀ m, cm full bs S m < 2 ^ n
  | 0 => hf
  | m + 1 => by
    rw [cm]
    split
    · exact Nat.lt_of_le_of_lt Nat.and_le_left (cm_lt bs S hf m)
    · exact cm_lt bs S hf m
/-- Is S a barrier? -/
def barB (n : Nat) (bs : List Nat) (S : Nat) : Bool := decide (n < fl S + fl (cm (2 ^ n - 1) bs S n))

def img (f : Nat → Nat) (S : Nat) : Nat → Nat
  | 0 => 0
  | i + 1 => img f S i ||| (if S.testBit i then 2 ^ f i else 0)
theorem img_bit (f : Nat → Nat) (S j : Nat) : ∀ n, (img f S n).testBit j = true → ∃ i, i < n ∧ S.testBit i = true ∧ f i = j
  | 0, h => by simp [img] at h
  | n + 1, h => by
    rw [img, Nat.testBit_or, Bool.or_eq_true] at h
    rcases h with h | h
    · obtain ⟨i, a, b, c⟩ := img_bit f S j n h
      exact ⟨i, by omega, b, c⟩
    · cases hs : S.testBit n with
      | true =>
        rw [hs, if_pos rfl, Nat.testBit_two_pow] at h
        exact ⟨n, by omega, hs, of_decide_eq_true h⟩
      | false => rw [hs] at h; simp at h
theorem img_fl (f : Nat → Nat) (S n : Nat) (hf : ∀ i, i < n → f i < 6) (hi : ∀ i k, i < k → k < n → f i ≠ f k) (hn : n ≤ 6) : ∀ i, i ≤ n → fl (img f S i) = fl (S % 2 ^ i)
  | 0, _ => by simp [img, Nat.mod_one]
  | i + 1, h => by
    have ih := img_fl f S n hf hi hn i (by omega)
    rw [img]
    cases hs : S.testBit i with
    | true =>
      have e : S % 2 ^ (i + 1) = S % 2 ^ i ||| 2 ^ i := Nat.eq_of_testBit_eq fun j => by
        rw [Nat.testBit_or, Nat.testBit_mod_two_pow, Nat.testBit_mod_two_pow, Nat.testBit_two_pow]
        by_cases e : i = j
        · subst e; simp [hs]
        · by_cases e2 : j < i
          · simp [e, e2, show j < i + 1 by omega]
          · simp [e, e2, show ¬ j < i + 1 by omega]
      rw [if_pos rfl, e, fl_plus (hf i (by omega)) ?_, fl_plus (by omega) ?_, ih]
      · rw [Nat.testBit_mod_two_pow]; simp
      · cases hb : (img f S i).testBit (f i) with
        | false => rfl
        | true =>
          obtain ⟨k, a, _, c⟩ := img_bit f S (f i) i hb
          exact absurd c (hi k i a (by omega))
    | false =>
      have e : S % 2 ^ (i + 1) = S % 2 ^ i := Nat.eq_of_testBit_eq fun j => by
        rw [Nat.testBit_mod_two_pow, Nat.testBit_mod_two_pow]
        by_cases e : i = j
        · subst e; simp [hs]
        · by_cases e2 : j < i
          · simp [e2, show j < i + 1 by omega]
          · simp [e2, show ¬ j < i + 1 by omega]
      rw [e, ← ih]
      simp

theorem full_bit (n j : Nat) : (2 ^ n - 1).testBit j = true ↔ j < n := by rw [Nat.testBit_two_pow_sub_one, decide_eq_true_eq]
/-- What is in freeL is a permutation that hits nothing. -/
theorem freeL_mem {n : Nat} {bs p : List Nat} (hb : Brd n bs) (h : p ∈ freeL n bs) :
    p.length = n ∧ ∀ k, k < n → p.getD k 0 < n ∧ (bs.getD k 0).testBit (p.getD k 0) = false ∧ ∀ m, m < k → p.getD m 0 ≠ p.getD k 0 := by
  obtain ⟨s, rfl, hs, hk⟩ := mem_perms _ _ _ _ h
  rw [otherL_length, hb.len] at hs hk
  refine ⟨by simpa using hs, fun k hlt => ?_⟩
  obtain ⟨_, b, _, d⟩ := hk k hlt
  rw [otherL_get (by rw [hb.len]; exact hlt), sub_bit, Bool.and_eq_true, full_bit, Bool.not_eq_true'] at b
  exact ⟨b.1, b.2, d⟩
theorem either_bar {n : Nat} {bs : List Nat} (hb : Brd n bs) (S : Nat) (hS : S < 2 ^ n) (h : barB n bs S = true) : freeL n bs = [] := by
  have hn := hb.le
  unfold barB at h
  have h := of_decide_eq_true h
  refine List.eq_nil_iff_forall_not_mem.2 fun p hp => ?_
  obtain ⟨hl, hk⟩ := freeL_mem hb hp
  have hfl := img_fl (fun i => p.getD i 0) S n (fun i hi => by have := (hk i hi).1; show p.getD i 0 < 6; omega) (fun i k h1 h2 => (hk k h2).2.2 i h1) hn n (Nat.le_refl _)
  rw [Nat.mod_eq_of_lt hS] at hfl
  have h1 := fl_or_and (img (fun i => p.getD i 0) S n) (cm (2 ^ n - 1) bs S n)
  have h2 : fl (img (fun i => p.getD i 0) S n ||| cm (2 ^ n - 1) bs S n) ≤ fl (2 ^ n - 1) := fl_le fun j _ hj => by
    rw [Nat.testBit_or, Bool.or_eq_true] at hj
    rw [full_bit]
    rcases hj with hj | hj
    · obtain ⟨i, a, _, c⟩ := img_bit _ _ _ _ hj
      rw [← c]; exact (hk i a).1
    · exact (full_bit n j).1 ((cm_bit _ _ _ _ _).1 hj).1
  have h3 : fl (img (fun i => p.getD i 0) S n &&& cm (2 ^ n - 1) bs S n) ≤ fl 0 := fl_le fun j _ hj => by
    exfalso
    rw [Nat.testBit_and, Bool.and_eq_true] at hj
    obtain ⟨i, a, b, c⟩ := img_bit _ _ _ _ hj.1
    have := ((cm_bit _ _ _ _ _).1 hj.2).2 i a b
    rw [← c, (hk i a).2.1] at this
    cases this
  rw [fl_full n hn] at h2
  have e0 : fl 0 = 0 := by decide
  omega
theorem bar_either {n : Nat} {bs : List Nat} (hb : Brd n bs) (h : ∀ S, S < 2 ^ n → barB n bs S = false) : freeL n bs ≠ [] := by
  have hn := hb.le
  have hH : HallOk (fun i => sub (2 ^ n - 1) (bs.getD i 0)) n := fun S hS => by
    have h0 := h S hS
    unfold barB at h0
    have h0 := of_decide_eq_false h0
    have h1 := fl_or_and (nb (fun i => sub (2 ^ n - 1) (bs.getD i 0)) S n) (cm (2 ^ n - 1) bs S n)
    have h2 : fl (2 ^ n - 1) ≤ fl (nb (fun i => sub (2 ^ n - 1) (bs.getD i 0)) S n ||| cm (2 ^ n - 1) bs S n) := fl_le fun j _ hj => by
      rw [Nat.testBit_or, Bool.or_eq_true, nb_bit, cm_bit]
      by_cases c : ∀ i, i < n → S.testBit i = true → (bs.getD i 0).testBit j = true
      · exact .inr ⟨hj, c⟩
      · left
        simp only [Classical.not_forall] at c
        obtain ⟨i, a, b, c⟩ := c
        exact ⟨i, a, b, by rw [sub_bit, hj]; simpa using c⟩
    have h3 : fl (nb (fun i => sub (2 ^ n - 1) (bs.getD i 0)) S n &&& cm (2 ^ n - 1) bs S n) ≤ fl 0 := fl_le fun j _ hj => by
      exfalso
      rw [Nat.testBit_and, Bool.and_eq_true, nb_bit, cm_bit] at hj
      obtain ⟨⟨i, a, b, c⟩, _, d⟩ := hj
      have := d i a b
      rw [sub_bit, this] at c
      simp at c
    rw [fl_full n hn] at h2
    have e0 : fl 0 = 0 := by decide
    omega
  obtain ⟨f, h1, h2⟩ := hall n hn _ _ (Nat.le_refl _) hH
  refine perm_of _ _ _ f (fun i hi => ?_) (fun i k hi hk => ?_)
  · rw [otherL_length, hb.len] at hi
    obtain ⟨a, b⟩ := h1 i hi
    exact ⟨by omega, by rw [otherL_get (by rw [hb.len]; exact hi)]; exact b, by simp⟩
  · rw [otherL_length, hb.len] at hi hk
    exact h2 i k hi hk
end Go.Proofs.YtellnklbkjajbaaDoor
