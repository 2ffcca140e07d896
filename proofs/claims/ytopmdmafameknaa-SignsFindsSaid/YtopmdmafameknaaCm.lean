/- SignsColumns: the mathematics -/
import Derived.Test.YtopmdmafameknaaOv
import Derived.Test.YtopmdmafameknaaTm
import Derived.Test.YtopmdmafameknaaSq
namespace Go.Proofs.Ytopmdmafameknaa
open Go.RowKit

theorem pop_full (n x : Nat) : pop n (x ^^^ (2 ^ n - 1)) + pop n x = n := by
  have h := rowS_full n x
  unfold rowS at h
  have h1 := pop_le n x
  have h2 := pop_le n (x ^^^ (2 ^ n - 1))
  omega
theorem pop_xor_and (n x y : Nat) : pop n (x ^^^ y) + 2 * pop n (x &&& y) = pop n x + pop n y := by
  induction n with
  | zero => rfl
  | succ n ih =>
    simp only [pop, Nat.testBit_xor, Nat.testBit_and]
    cases x.testBit n <;> cases y.testBit n <;> simp <;> omega

/-- Matrices whose rows differ alike are balanced alike. -/
theorem bal_iff {n : Nat} {hs gs : List Nat} (h : ∀ i, i < n → ∀ k, k < i → gs.getD i 0 ^^^ gs.getD k 0 = hs.getD i 0 ^^^ hs.getD k 0 ∨ gs.getD i 0 ^^^ gs.getD k 0 = (hs.getD i 0 ^^^ hs.getD k 0) ^^^ (2 ^ n - 1)) : balB n gs = balB n hs := by
  have e : Bal n gs ↔ Bal n hs := by
    constructor
    · intro hb i hi k hk
      have h1 := hb i hi k hk
      rcases h i hi k hk with e | e
      · rw [← e]; exact h1
      · rw [e] at h1
        have := pop_full n (hs.getD i 0 ^^^ hs.getD k 0)
        omega
    · intro hb i hi k hk
      have h1 := hb i hi k hk
      rcases h i hi k hk with e | e
      · rw [e]; exact h1
      · rw [e]
        have := pop_full n (hs.getD i 0 ^^^ hs.getD k 0)
        omega
  unfold balB
  by_cases c : Bal n hs
  · rw [decide_eq_true c, decide_eq_true (e.2 c)]
  · rw [decide_eq_false c, decide_eq_false fun h => c (e.1 h)]

theorem xor_pair (a b c : Nat) : (a ^^^ c) ^^^ (b ^^^ c) = a ^^^ b := by
  rw [Nat.xor_assoc, Nat.xor_comm b c, ← Nat.xor_assoc c, Nat.xor_self, Nat.zero_xor]
theorem xor_ext {n x y : Nat} (hx : x < 2 ^ n) (hy : y < 2 ^ n) (h : ∀ j, j < n → x.testBit j = y.testBit j) : x = y := by
  refine Nat.eq_of_testBit_eq fun j => ?_
  by_cases hj : j < n
  · exact h j hj
  · rw [Nat.testBit_lt_two_pow (Nat.lt_of_lt_of_le hx (Nat.pow_le_pow_right (by decide) (by omega))), Nat.testBit_lt_two_pow (Nat.lt_of_lt_of_le hy (Nat.pow_le_pow_right (by decide) (by omega)))]

theorem bal_turn {n : Nat} {hs : List Nat} (r : Int) (c : Nat) : balB n (turnL n hs r c) = balB n hs := by
  refine bal_iff fun i hi k hk => ?_
  rw [turnL_get n hs r c i hi, turnL_get n hs r c k (by omega)]
  unfold turnF
  cases bitI r i <;> cases bitI r k <;> simp only [if_true, Bool.false_eq_true, if_false, Nat.xor_zero]
  · left; exact xor_pair _ _ _
  · right
    rw [← Nat.xor_assoc, xor_pair]
  · right
    rw [Nat.xor_assoc (hs.getD i 0 ^^^ c), Nat.xor_comm (2 ^ n - 1), ← Nat.xor_assoc, xor_pair]
  · left
    rw [xor_pair, xor_pair]
theorem bal_norm {n : Nat} {hs : List Nat} (hm : Mat n hs) : balB n (normL n hs) = balB n hs := by
  refine bal_iff fun i hi k hk => ?_
  have e : ∀ j, j < n → (normL n hs).getD j 0 = normR n (hs.getD j 0 ^^^ hs.getD 0 0) := fun j hj => by
    rw [normR_mk n hs hm]; exact plant_get hj
  rw [e i hi, e k (by omega)]
  unfold normR
  split <;> split
  · left; rw [xor_pair, xor_pair]
  · right
    rw [Nat.xor_assoc (hs.getD i 0 ^^^ hs.getD 0 0), Nat.xor_comm (2 ^ n - 1), ← Nat.xor_assoc, xor_pair]
  · right
    rw [← Nat.xor_assoc, xor_pair]
  · left; exact xor_pair _ _ _

/-- The rows of the normal form begin with 1, and the first one has no -1. -/
theorem norm_bit {n : Nat} {hs : List Nat} (i : Nat) (hi : i < n) : (normL n hs).getD i 0 % 2 = 0 := by
  have e : (normL n hs).getD i 0 = mk n (normF hs i) := plant_get hi
  have h : (mk n (normF hs i)).testBit 0 = false := by
    rw [mk_bit]; unfold normF; cases (hs.getD i 0).testBit 0 <;> cases (hs.getD 0 0).testBit 0 <;> simp
  rw [e]
  rw [Nat.testBit_zero] at h
  rcases Nat.mod_two_eq_zero_or_one (mk n (normF hs i)) with e | e
  · exact e
  · rw [e] at h; cases h
theorem norm_first {n : Nat} {hs : List Nat} (hm : Mat n hs) : (normL n hs).getD 0 0 = 0 := by
  have e : (normL n hs).getD 0 0 = mk n (normF hs 0) := plant_get hm.pos
  rw [e]
  refine mk_ext (Nat.two_pow_pos n) fun j _ => ?_
  rw [Nat.zero_testBit]
  unfold normF
  cases (hs.getD 0 0).testBit j <;> cases (hs.getD 0 0).testBit 0 <;> rfl

/-- A balanced matrix of more than two rows has a number of rows that 4 divides. -/
theorem bal_four {n : Nat} {hs : List Nat} (hb : Bal n hs) (h3 : 3 ≤ n) : n % 4 = 0 := by
  have h1 := hb 1 (by omega) 0 (by omega)
  have h2 := hb 2 (by omega) 0 (by omega)
  have h4 := hb 2 (by omega) 1 (by omega)
  have hx := pop_xor_and n (hs.getD 2 0 ^^^ hs.getD 0 0) (hs.getD 1 0 ^^^ hs.getD 0 0)
  rw [xor_pair] at hx
  omega

/-- The product of two rows. -/
def dotS (n : Nat) (hs : List Nat) (i k : Nat) : Int := sumK (fun j => sg (hs.getD i 0) j * sg (hs.getD k 0) j) n
theorem dotS_pop (n : Nat) (hs : List Nat) (i k : Nat) : dotS n hs i k = n - 2 * pop n (hs.getD i 0 ^^^ hs.getD k 0) := by
  rw [← dotK_pop]
  have e : ∀ m, sumK (fun j => sg (hs.getD i 0) j * sg (hs.getD k 0) j) m = dotK (hs.getD i 0) (hs.getD k 0) m := by
    intro m
    induction m with
    | zero => rfl
    | succ m ih => simp only [sumK, dotK, ih]
  exact e n
theorem dotS_self (n : Nat) (hs : List Nat) (i : Nat) : dotS n hs i i = n := by
  unfold dotS; simp only [sg_sq]; rw [sumK_const]; simp
theorem dotS_comm (n : Nat) (hs : List Nat) (i k : Nat) : dotS n hs i k = dotS n hs k i := sumK_congr fun _ _ => Int.mul_comm _ _
theorem bal_dot {n : Nat} {hs : List Nat} : Bal n hs ↔ ∀ i, i < n → ∀ k, k < n → i ≠ k → dotS n hs i k = 0 := by
  constructor
  · intro hb i hi k hk hne
    rcases Nat.lt_or_ge i k with h | h
    · rw [dotS_comm, dotS_pop]; have := hb k hk i h; omega
    · rw [dotS_pop]; have := hb i hi k (by omega); omega
  · intro h i hi k hk
    have := h i hi k (by omega) (by omega)
    rw [dotS_pop] at this
    omega

theorem sum_nonneg {F : Nat → Int} {k : Nat} (h : ∀ i, i < k → 0 ≤ F i) : 0 ≤ sumK F k := by
  have := sumK_le (F := fun _ => 0) (G := F) (k := k) h
  rwa [sumK_zero] at this
theorem sum_one_le {F : Nat → Int} {k : Nat} (h : ∀ i, i < k → 0 ≤ F i) {j : Nat} (hj : j < k) : F j ≤ sumK F k := by
  induction k with
  | zero => omega
  | succ k ih =>
    simp only [sumK]
    have h1 := sum_nonneg (F := F) (k := k) fun i hi => h i (by omega)
    have h2 := h k (by omega)
    by_cases e : j = k
    · subst e; omega
    · have := ih (fun i hi => h i (by omega)) (by omega); omega
theorem sum_two_le {F : Nat → Int} {k : Nat} (h : ∀ i, i < k → 0 ≤ F i) {j l : Nat} (hj : j < k) (hl : l < k) (hne : j ≠ l) : F j + F l ≤ sumK F k := by
  induction k with
  | zero => omega
  | succ k ih =>
    simp only [sumK]
    by_cases e : j = k
    · subst e
      have := sum_one_le (F := F) (k := j) (fun i hi => h i (by omega)) (j := l) (by omega)
      omega
    · by_cases e' : l = k
      · subst e'
        have := sum_one_le (F := F) (k := l) (fun i hi => h i (by omega)) (j := j) (by omega)
        omega
      · have := ih (fun i hi => h i (by omega)) (by omega) (by omega)
        have := h k (by omega)
        omega
theorem sum_pick (i m : Nat) (G : Nat → Int) (hi : i < m) : sumK (fun k => if i = k then G k else 0) m = G i := by
  induction m with
  | zero => omega
  | succ m ih =>
    simp only [sumK]
    by_cases e : i = m
    · subst e
      rw [if_pos rfl]
      have : sumK (fun k => if i = k then G k else 0) i = 0 := by
        rw [sumK_congr (G := fun _ => 0) fun j hj => if_neg (by omega), sumK_zero]
      omega
    · rw [if_neg e, ih (by omega)]; omega

/-- The sum of the squares of all products of rows is that of the columns. -/
theorem frob (n : Nat) (F : Nat → Nat → Int) : sumK (fun j => sumK (fun l => sumK (fun i => F i j * F i l) n * sumK (fun i => F i j * F i l) n) n) n = sumK (fun i => sumK (fun k => sumK (fun j => F i j * F k j) n * sumK (fun j => F i j * F k j) n) n) n := by
  have sq : ∀ (A : Nat → Int), sumK A n * sumK A n = sumK (fun i => sumK (fun k => A i * A k) n) n := by
    intro A
    rw [← sumK_mulr]
    refine sumK_congr fun i _ => ?_
    rw [← sumK_mul]
  have L : ∀ j l, sumK (fun i => F i j * F i l) n * sumK (fun i => F i j * F i l) n = sumK (fun i => sumK (fun k => (F i j * F k j) * (F i l * F k l)) n) n := by
    intro j l
    rw [sq]
    refine sumK_congr fun i _ => sumK_congr fun k _ => ?_
    simp only [Int.mul_left_comm, Int.mul_comm]
  have R : ∀ i k, sumK (fun j => F i j * F k j) n * sumK (fun j => F i j * F k j) n = sumK (fun j => sumK (fun l => (F i j * F k j) * (F i l * F k l)) n) n := fun i k => sq _
  simp only [L, R]
  -- sum over j l i k = sum over i k j l
  rw [sumK_congr (G := fun j => sumK (fun i => sumK (fun l => sumK (fun k => F i j * F k j * (F i l * F k l)) n) n) n) fun j _ => sumK_swap (fun l i => sumK (fun k => F i j * F k j * (F i l * F k l)) n) n n]
  rw [sumK_swap (fun j i => sumK (fun l => sumK (fun k => F i j * F k j * (F i l * F k l)) n) n) n n]
  refine sumK_congr fun i _ => ?_
  rw [sumK_congr (G := fun j => sumK (fun k => sumK (fun l => F i j * F k j * (F i l * F k l)) n) n) fun j _ => sumK_swap (fun l k => F i j * F k j * (F i l * F k l)) n n]
  exact sumK_swap (fun j k => sumK (fun l => F i j * F k j * (F i l * F k l)) n) n n

/-- Rows of numbers with square 1: if any two are orthogonal, so are any two columns. -/
theorem orth_cols {n : Nat} {F : Nat → Nat → Int} (h1 : ∀ i j, F i j * F i j = 1) (hr : ∀ i, i < n → ∀ k, k < n → i ≠ k → sumK (fun j => F i j * F k j) n = 0) :
    ∀ j, j < n → ∀ l, l < n → j ≠ l → sumK (fun i => F i j * F i l) n = 0 := by
  intro j hj l hl hne
  have hself : ∀ i, sumK (fun j => F i j * F i j) n = n := fun i => by simp only [h1]; rw [sumK_const]; simp
  have hselfc : ∀ j, sumK (fun i => F i j * F i j) n = n := fun j => by simp only [h1]; rw [sumK_const]; simp
  have hR : sumK (fun i => sumK (fun k => sumK (fun j => F i j * F k j) n * sumK (fun j => F i j * F k j) n) n) n = n * (n * n) := by
    rw [sumK_congr (G := fun _ => (n:Int) * n) ?_, sumK_const]
    intro i hi
    rw [sumK_congr (G := fun k => if i = k then (n:Int) * n else 0) ?_, sum_pick i n (fun _ => (n:Int) * n) hi]
    intro k hk
    by_cases e : i = k
    · subst e; rw [if_pos rfl, hself]
    · rw [if_neg e, hr i hi k hk e]; rfl
  have hL := frob n F
  rw [hR] at hL
  have nn : ∀ j l, 0 ≤ sumK (fun i => F i j * F i l) n * sumK (fun i => F i j * F i l) n := fun j l => sq_nn _
  -- each column's sum is at least n * n
  have hcol : ∀ j, j < n → (n:Int) * n ≤ sumK (fun l => sumK (fun i => F i j * F i l) n * sumK (fun i => F i j * F i l) n) n := by
    intro j hj
    have := sum_one_le (F := fun l => sumK (fun i => F i j * F i l) n * sumK (fun i => F i j * F i l) n) (k := n) (fun l _ => nn j l) hj
    simp only [hselfc] at this
    exact this
  -- if this one were not 0 the whole would be more
  have hthis : (n:Int) * n + sumK (fun i => F i j * F i l) n * sumK (fun i => F i j * F i l) n ≤ sumK (fun l => sumK (fun i => F i j * F i l) n * sumK (fun i => F i j * F i l) n) n := by
    have := sum_two_le (F := fun l => sumK (fun i => F i j * F i l) n * sumK (fun i => F i j * F i l) n) (k := n) (fun l _ => nn j l) hj hl hne
    simp only [hselfc] at this
    exact this
  have hdiff : ∀ q, q < n → 0 ≤ sumK (fun l => sumK (fun i => F i q * F i l) n * sumK (fun i => F i q * F i l) n) n - (n:Int) * n := fun q hq => by have := hcol q hq; omega
  have hsum := sum_one_le (F := fun q => sumK (fun l => sumK (fun i => F i q * F i l) n * sumK (fun i => F i q * F i l) n) n - (n:Int) * n) (k := n) hdiff hj
  have hsub : sumK (fun q => sumK (fun l => sumK (fun i => F i q * F i l) n * sumK (fun i => F i q * F i l) n) n - (n:Int) * n) n = 0 := by
    have : ∀ (A : Nat → Int) (a : Int) (m : Nat), sumK (fun q => A q - a) m = sumK A m - m * a := by
      intro A a m
      induction m with
      | zero => simp [sumK]
      | succ m ih => simp only [sumK, ih]; rw [Int.natCast_add, Int.add_mul]; simp; omega
    rw [this, hL]; omega
  rw [hsub] at hsum
  have hzero : sumK (fun i => F i j * F i l) n * sumK (fun i => F i j * F i l) n ≤ 0 := by omega
  have := nn j l
  have h0 : sumK (fun i => F i j * F i l) n * sumK (fun i => F i j * F i l) n = 0 := by omega
  rcases Int.mul_eq_zero.1 h0 with h | h <;> exact h

theorem over_sg {n : Nat} {hs : List Nat} {a b : Nat} (ha : a < n) (hb : b < n) : sg ((overL n hs).getD a 0) b = sg (hs.getD b 0) a := by
  have : (overL n hs).getD a 0 = mk n (colF hs a) := plant_get ha
  rw [this, sg_mk hb]; rfl
theorem bal_over_of {n : Nat} {hs : List Nat} (hb : Bal n hs) : Bal n (overL n hs) := by
  rw [bal_dot] at *
  intro i hi k hk hne
  have := orth_cols (n := n) (F := fun i j => sg (hs.getD i 0) j) (fun i j => sg_sq _ _) hb i hi k hk hne
  unfold dotS
  rw [← this]
  refine sumK_congr fun j hj => ?_
  rw [over_sg hi hj, over_sg hk hj]
theorem over_over {n : Nat} {hs : List Nat} (hm : Mat n hs) : overL n (overL n hs) = hs := by
  refine List.ext_getElem (by rw [overL, plant_length, hm.len]) fun i h1 h2 => ?_
  have hi : i < n := by rw [← hm.len]; exact h2
  have e : (overL n (overL n hs)).getD i 0 = hs.getD i 0 := by
    have : (overL n (overL n hs)).getD i 0 = mk n (colF (overL n hs) i) := plant_get hi
    rw [this]
    refine mk_ext (hm.get i) fun j hj => ?_
    unfold colF
    have : (overL n hs).getD j 0 = mk n (colF hs j) := plant_get hj
    rw [this, mk_bit, decide_eq_true hi]; rfl
  simpa [h1, h2] using e
theorem bal_over {n : Nat} {hs : List Nat} (hm : Mat n hs) : balB n (overL n hs) = balB n hs := by
  unfold balB
  by_cases c : Bal n hs
  · rw [decide_eq_true c, decide_eq_true (bal_over_of c)]
  · rw [decide_eq_false c, decide_eq_false fun h => c (by have := bal_over_of h; rwa [over_over hm] at this)]
end Go.Proofs.Ytopmdmafameknaa
