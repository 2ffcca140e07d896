/- colourings: which are right, in plain numbers, and how long they can be: searches with masks -/
import Derived.Test.YtlalfjkenkmojaaRm
namespace Go.Proofs.Ytlalfjkenkmojaa

theorem take_getD {s : List Nat} {q i : Nat} (h : i < q) : (s.take q).getD i 0 = s.getD i 0 := by
  simp [List.getElem?_take_of_lt h]
theorem take_len {s : List Nat} {q : Nat} (h : q < s.length) : (s.take q).length = q := by rw [List.length_take]; omega
/-- No two numbers and their sum have one colour. -/
theorem keeps_sum (s : List Nat) : keepsL sumFree s = true ↔ ∀ x y, x + y + 1 < s.length → ¬ (s.getD x 0 = s.getD (x + y + 1) 0 ∧ s.getD y 0 = s.getD (x + y + 1) 0) := by
  rw [keepsL_iff]
  constructor
  · intro h x y hxy e
    have h1 := h (x + y + 1) hxy
    unfold sumFree at h1
    rw [List.all_eq_true, take_len hxy] at h1
    have h2 := h1 x (List.mem_range.2 (by omega))
    rw [take_getD (by omega), take_getD (by omega), show x + y + 1 - 1 - x = y by omega, e.1, e.2] at h2
    simp at h2
  · intro h q hq
    unfold sumFree
    rw [List.all_eq_true, take_len hq]
    intro i hi
    have hi := List.mem_range.1 hi
    rw [take_getD hi, take_getD (by omega)]
    have := h i (q - 1 - i) (by omega)
    rw [show i + (q - 1 - i) + 1 = q by omega] at this
    cases hc : (s.getD i 0 == s.getD q 0 && s.getD (q - 1 - i) 0 == s.getD q 0) with
    | false => rfl
    | true =>
      rw [Bool.and_eq_true, beq_iff_eq, beq_iff_eq] at hc
      exact absurd hc this
theorem strideF3 (l : List Nat) (c b : Nat) : strideF 3 l c b = (l.getD (l.length - b) 0 == c && l.getD (l.length - 2 * b) 0 == c) := by
  unfold strideF
  simp [List.range_succ]
theorem strideF4 (l : List Nat) (c b : Nat) : strideF 4 l c b = (l.getD (l.length - b) 0 == c && (l.getD (l.length - 2 * b) 0 == c && l.getD (l.length - 3 * b) 0 == c)) := by
  unfold strideF
  simp [List.range_succ]
theorem keeps3 (s : List Nat) : keepsL (strideB 3) s = true ↔ ∀ a b, 1 ≤ b → a + 2 * b < s.length → ¬ (s.getD (a + b) 0 = s.getD a 0 ∧ s.getD (a + 2 * b) 0 = s.getD a 0) := by
  rw [keepsL_iff]
  constructor
  · intro h a b hb hab e
    have h1 := h _ hab
    unfold strideB at h1
    rw [List.all_eq_true, take_len hab] at h1
    have h2 := h1 (b - 1) (List.mem_range.2 (by omega))
    rw [strideF3, take_len hab, take_getD (by omega), take_getD (by omega), show a + 2 * b - (b - 1 + 1) = a + b by omega, show a + 2 * b - 2 * (b - 1 + 1) = a by omega, e.1, e.2] at h2
    simp at h2
  · intro h q hq
    unfold strideB
    rw [List.all_eq_true, take_len hq]
    intro b hb
    have hb := List.mem_range.1 hb
    rw [strideF3, take_len hq, take_getD (by omega), take_getD (by omega)]
    have := h (q - 2 * (b + 1)) (b + 1) (by omega) (by omega)
    rw [show q - 2 * (b + 1) + (b + 1) = q - (b + 1) by omega, show q - 2 * (b + 1) + 2 * (b + 1) = q by omega] at this
    cases hc : (s.getD (q - (b + 1)) 0 == s.getD q 0 && s.getD (q - 2 * (b + 1)) 0 == s.getD q 0) with
    | false => rfl
    | true =>
      rw [Bool.and_eq_true, beq_iff_eq, beq_iff_eq] at hc
      exact absurd ⟨by rw [hc.1, hc.2], by rw [hc.2]⟩ this
theorem keeps4 (s : List Nat) : keepsL (strideB 4) s = true ↔ ∀ a b, 1 ≤ b → a + 3 * b < s.length → ¬ (s.getD (a + b) 0 = s.getD a 0 ∧ s.getD (a + 2 * b) 0 = s.getD a 0 ∧ s.getD (a + 3 * b) 0 = s.getD a 0) := by
  rw [keepsL_iff]
  constructor
  · intro h a b hb hab e
    have h1 := h _ hab
    unfold strideB at h1
    rw [List.all_eq_true, take_len hab] at h1
    have h2 := h1 (b - 1) (List.mem_range.2 (by omega))
    rw [strideF4, take_len hab, take_getD (by omega), take_getD (by omega), take_getD (by omega), show a + 3 * b - (b - 1 + 1) = a + 2 * b by omega, show a + 3 * b - 2 * (b - 1 + 1) = a + b by omega, show a + 3 * b - 3 * (b - 1 + 1) = a by omega, e.1, e.2.1, e.2.2] at h2
    simp at h2
  · intro h q hq
    unfold strideB
    rw [List.all_eq_true, take_len hq]
    intro b hb
    have hb := List.mem_range.1 hb
    rw [strideF4, take_len hq, take_getD (by omega), take_getD (by omega), take_getD (by omega)]
    have := h (q - 3 * (b + 1)) (b + 1) (by omega) (by omega)
    rw [show q - 3 * (b + 1) + (b + 1) = q - 2 * (b + 1) by omega, show q - 3 * (b + 1) + 2 * (b + 1) = q - (b + 1) by omega, show q - 3 * (b + 1) + 3 * (b + 1) = q by omega] at this
    cases hc : (s.getD (q - (b + 1)) 0 == s.getD q 0 && (s.getD (q - 2 * (b + 1)) 0 == s.getD q 0 && s.getD (q - 3 * (b + 1)) 0 == s.getD q 0)) with
    | false => rfl
    | true =>
      rw [Bool.and_eq_true, Bool.and_eq_true, beq_iff_eq, beq_iff_eq, beq_iff_eq] at hc
      exact absurd ⟨by rw [hc.2.1, hc.2.2], by rw [hc.1, hc.2.2], by rw [hc.2.2]⟩ this

/-- A number, told before it goes on. -/
def told (n : Nat) (k : Nat → Bool) : Bool := n.casesOn (k 0) fun m => k (m + 1)
theorem told_eq (n : Nat) (k : Nat → Bool) : told n k = k n := by cases n <;> rfl
def shW (R n : Nat) : Nat := if 27 ≤ 2 * n then R <<< (2 * n - 27) else R >>> (27 - 2 * n)
theorem shW_bit {R n m : Nat} (h : (shW R n).testBit m = true) : ∃ j, R.testBit j = true ∧ j + 2 * n = m + 27 := by
  unfold shW at h
  split at h
  · rw [Nat.testBit_shiftLeft, Bool.and_eq_true, decide_eq_true_eq] at h
    exact ⟨_, h.2, by omega⟩
  · rw [Nat.testBit_shiftRight] at h
    exact ⟨_, h, by omega⟩
/-- No colouring of 27 numbers with 3 colours goes on: R the numbers of a colour, from 27 back, F the numbers that may not have it. -/
def noW : Nat → Nat → Nat → Nat → Nat → Nat → Nat → Bool
  | 0, _, _, _, _, _, _ => false
  | f + 1, R0, R1, R2, F0, F1, F2 =>
    !(Nat.beq ((F0 &&& F1 &&& F2 &&& 268435455) >>> (27 - f)) 0) ||
    ((F0.testBit (27 - f) || told (R0 ||| 1 <<< f) fun r => told (F0 ||| shW R0 (27 - f)) fun g => noW f r R1 R2 g F1 F2) &&
    ((F1.testBit (27 - f) || told (R1 ||| 1 <<< f) fun r => told (F1 ||| shW R1 (27 - f)) fun g => noW f R0 r R2 F0 g F2) &&
     (F2.testBit (27 - f) || told (R2 ||| 1 <<< f) fun r => told (F2 ||| shW R2 (27 - f)) fun g => noW f R0 R1 r F0 F1 g)))
structure RW (s : List Nat) (f c R F : Nat) : Prop where
  r : ∀ j, R.testBit j = true → f ≤ j ∧ j < 27 ∧ s.getD (26 - j) 0 = c
  f : ∀ m, F.testBit m = true → 1 ≤ m → m ≤ 27 → s.getD (m - 1) 0 ≠ c
theorem RW.stay {s : List Nat} {f c R F : Nat} (h : RW s (f + 1) c R F) : RW s f c R F := ⟨fun j hj => by have := h.r j hj; omega, h.f⟩
theorem RW.add {s : List Nat} {f c R F : Nat} (h : RW s (f + 1) c R F) (hl : s.length = 27) (hf : f ≤ 26) (hc : s.getD (26 - f) 0 = c)
    (h3 : ∀ a b, 1 ≤ b → a + 2 * b < s.length → ¬ (s.getD (a + b) 0 = s.getD a 0 ∧ s.getD (a + 2 * b) 0 = s.getD a 0)) : RW s f c (R ||| 1 <<< f) (F ||| shW R (27 - f)) := by
  refine ⟨fun j hj => ?_, fun m hm h1 h2 e => ?_⟩
  · rw [Nat.testBit_or, Bool.or_eq_true] at hj
    rcases hj with hj | hj
    · have := h.r j hj; omega
    · rw [Nat.one_shiftLeft, Nat.testBit_two_pow, decide_eq_true_eq] at hj
      subst hj
      exact ⟨Nat.le_refl _, by omega, hc⟩
  · rw [Nat.testBit_or, Bool.or_eq_true] at hm
    rcases hm with hm | hm
    · exact h.f m hm h1 h2 e
    · obtain ⟨j, hj, ej⟩ := shW_bit hm
      have h4 := h.r j hj
      -- the numbers 27 - j, 27 - f and m are a progression
      refine h3 (26 - j) (j - f) (by omega) (by omega) ⟨?_, ?_⟩
      · rw [show 26 - j + (j - f) = 26 - f by omega, hc, h4.2.2]
      · rw [show 26 - j + 2 * (j - f) = m - 1 by omega, e, h4.2.2]
theorem noW_sound (s : List Nat) (hl : s.length = 27) (hb : ∀ x ∈ s, x < 3) (h3 : ∀ a b, 1 ≤ b → a + 2 * b < s.length → ¬ (s.getD (a + b) 0 = s.getD a 0 ∧ s.getD (a + 2 * b) 0 = s.getD a 0)) (f : Nat) :
    ∀ R0 R1 R2 F0 F1 F2, f ≤ 27 → RW s f 0 R0 F0 → RW s f 1 R1 F1 → RW s f 2 R2 F2 → noW f R0 R1 R2 F0 F1 F2 = true → False := by
  induction f with
  | zero => intro R0 R1 R2 F0 F1 F2 _ _ _ _ h; simp [noW] at h
  | succ f ih =>
    intro R0 R1 R2 F0 F1 F2 hf h0 h1 h2 h
    have hcol : ∀ i, i < 27 → s.getD i 0 < 3 := fun i hi => hb _ (by simp [show i < s.length by omega])
    unfold noW at h
    rw [Bool.or_eq_true] at h
    rcases h with h | h
    · have hne : (F0 &&& F1 &&& F2 &&& 268435455) >>> (27 - f) ≠ 0 := by
        intro e
        rw [e] at h
        simp at h
      obtain ⟨i, hi⟩ := Nat.exists_testBit_of_ne_zero hne
      rw [Nat.testBit_shiftRight, Nat.testBit_and, Nat.testBit_and, Nat.testBit_and, Bool.and_eq_true, Bool.and_eq_true, Bool.and_eq_true] at hi
      obtain ⟨⟨⟨i0, i1⟩, i2⟩, i3⟩ := hi
      have i4 : 27 - f + i < 28 := by
        rw [show 268435455 = 2 ^ 28 - 1 from rfl, Nat.testBit_two_pow_sub_one, decide_eq_true_eq] at i3
        exact i3
      have := h0.f _ i0 (by omega) (by omega)
      have := h1.f _ i1 (by omega) (by omega)
      have := h2.f _ i2 (by omega) (by omega)
      have := hcol (27 - f + i - 1) (by omega)
      omega
    · simp only [told_eq, Bool.and_eq_true, Bool.or_eq_true] at h
      obtain ⟨g0, g1, g2⟩ := h
      have hc := hcol (26 - f) (by omega)
      rcases (show s.getD (26 - f) 0 = 0 ∨ s.getD (26 - f) 0 = 1 ∨ s.getD (26 - f) 0 = 2 by omega) with e | e | e
      · rcases g0 with g | g
        · exact h0.f _ g (by omega) (by omega) (by rw [show 27 - f - 1 = 26 - f by omega]; exact e)
        · exact ih _ _ _ _ _ _ (by omega) (h0.add hl (by omega) e h3) h1.stay h2.stay g
      · rcases g1 with g | g
        · exact h1.f _ g (by omega) (by omega) (by rw [show 27 - f - 1 = 26 - f by omega]; exact e)
        · exact ih _ _ _ _ _ _ (by omega) h0.stay (h1.add hl (by omega) e h3) h2.stay g
      · rcases g2 with g | g
        · exact h2.f _ g (by omega) (by omega) (by rw [show 27 - f - 1 = 26 - f by omega]; exact e)
        · exact ih _ _ _ _ _ _ (by omega) h0.stay h1.stay (h2.add hl (by omega) e h3) g

/-- No colouring of 35 numbers with 2 colours goes on without progressions of length 4. -/
def badV (M n : Nat) : Bool := (List.range ((n - 1) / 3)).any fun b => M.testBit (n - (b + 1)) && (M.testBit (n - 2 * (b + 1)) && M.testBit (n - 3 * (b + 1)))
def noV : Nat → Nat → Nat → Bool
  | 0, _, _ => false
  | f + 1, M0, M1 => (badV M0 (35 - f) || told (M0 ||| 1 <<< (35 - f)) fun m => noV f m M1) && (badV M1 (35 - f) || told (M1 ||| 1 <<< (35 - f)) fun m => noV f M0 m)
def RV (s : List Nat) (c M : Nat) : Prop := ∀ j, M.testBit j = true → 1 ≤ j ∧ j ≤ 35 ∧ s.getD (j - 1) 0 = c
theorem RV.add {s : List Nat} {c M n : Nat} (h : RV s c M) (h1 : 1 ≤ n) (h2 : n ≤ 35) (hc : s.getD (n - 1) 0 = c) : RV s c (M ||| 1 <<< n) := by
  intro j hj
  rw [Nat.testBit_or, Bool.or_eq_true] at hj
  rcases hj with hj | hj
  · exact h j hj
  · rw [Nat.one_shiftLeft, Nat.testBit_two_pow, decide_eq_true_eq] at hj
    subst hj
    exact ⟨h1, h2, hc⟩
theorem badV_no {s : List Nat} {c M n : Nat} (h : RV s c M) (hl : s.length = 35) (h1 : 1 ≤ n) (h2 : n ≤ 35) (hc : s.getD (n - 1) 0 = c)
    (h4 : ∀ a b, 1 ≤ b → a + 3 * b < s.length → ¬ (s.getD (a + b) 0 = s.getD a 0 ∧ s.getD (a + 2 * b) 0 = s.getD a 0 ∧ s.getD (a + 3 * b) 0 = s.getD a 0)) : badV M n = true → False := by
  intro hb
  unfold badV at hb
  obtain ⟨b, hb1, hb2⟩ := List.any_eq_true.1 hb
  have hb1 := List.mem_range.1 hb1
  rw [Bool.and_eq_true, Bool.and_eq_true] at hb2
  have k1 := h _ hb2.1
  have k2 := h _ hb2.2.1
  have k3 := h _ hb2.2.2
  refine h4 (n - 3 * (b + 1) - 1) (b + 1) (by omega) (by omega) ⟨?_, ?_, ?_⟩
  · rw [show n - 3 * (b + 1) - 1 + (b + 1) = n - 2 * (b + 1) - 1 by omega, k2.2.2, k3.2.2]
  · rw [show n - 3 * (b + 1) - 1 + 2 * (b + 1) = n - (b + 1) - 1 by omega, k1.2.2, k3.2.2]
  · rw [show n - 3 * (b + 1) - 1 + 3 * (b + 1) = n - 1 by omega, hc, k3.2.2]
theorem noV_sound (s : List Nat) (hl : s.length = 35) (hb : ∀ x ∈ s, x < 2) (h4 : ∀ a b, 1 ≤ b → a + 3 * b < s.length → ¬ (s.getD (a + b) 0 = s.getD a 0 ∧ s.getD (a + 2 * b) 0 = s.getD a 0 ∧ s.getD (a + 3 * b) 0 = s.getD a 0)) (f : Nat) :
    ∀ M0 M1, f ≤ 35 → RV s 0 M0 → RV s 1 M1 → noV f M0 M1 = true → False := by
  induction f with
  | zero => intro M0 M1 _ _ _ h; simp [noV] at h
  | succ f ih =>
    intro M0 M1 hf h0 h1 h
    have hc : s.getD (35 - f - 1) 0 < 2 := hb _ (by simp [show 35 - f - 1 < s.length by omega])
    unfold noV at h
    simp only [told_eq, Bool.and_eq_true, Bool.or_eq_true] at h
    obtain ⟨g0, g1⟩ := h
    rcases (show s.getD (35 - f - 1) 0 = 0 ∨ s.getD (35 - f - 1) 0 = 1 by omega) with e | e
    · rcases g0 with g | g
      · exact badV_no h0 hl (by omega) (by omega) e h4 g
      · exact ih _ _ (by omega) (h0.add (by omega) (by omega) e) h1 g
    · rcases g1 with g | g
      · exact badV_no h1 hl (by omega) (by omega) e h4 g
      · exact ih _ _ (by omega) h0 (h1.add (by omega) (by omega) e) g
end Go.Proofs.Ytlalfjkenkmojaa
