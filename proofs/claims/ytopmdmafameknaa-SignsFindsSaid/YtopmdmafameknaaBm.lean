/- Best: the mathematics -/
import Derived.Test.YtopmdmafameknaaSu
namespace Go.Proofs.Ytopmdmafameknaa
open Go.RowKit

theorem sumK_add (F G : Nat → Int) (k : Nat) : sumK (fun i => F i + G i) k = sumK F k + sumK G k := by
  induction k with
  | zero => rfl
  | succ k ih => simp only [sumK, ih]; omega
theorem sumK_mul (F : Nat → Int) (a : Int) (k : Nat) : sumK (fun i => a * F i) k = a * sumK F k := by
  induction k with
  | zero => simp [sumK]
  | succ k ih => simp only [sumK, ih, Int.mul_add]
theorem sumK_mulr (F : Nat → Int) (a : Int) (k : Nat) : sumK (fun i => F i * a) k = sumK F k * a := by
  induction k with
  | zero => simp [sumK]
  | succ k ih => simp only [sumK, ih, Int.add_mul]
theorem sumK_zero (k : Nat) : sumK (fun _ => 0) k = 0 := by
  induction k with
  | zero => rfl
  | succ k ih => simp only [sumK, ih]; rfl
theorem sumK_const (a : Int) (k : Nat) : sumK (fun _ => a) k = k * a := by
  induction k with
  | zero => simp [sumK]
  | succ k ih => rw [sumK, ih, Int.natCast_add, Int.add_mul]; simp
theorem sumK_swap (F : Nat → Nat → Int) (n m : Nat) : sumK (fun i => sumK (F i) m) n = sumK (fun j => sumK (fun i => F i j) n) m := by
  induction n with
  | zero => simp only [sumK]; exact (sumK_zero m).symm
  | succ n ih => simp only [sumK, ih, ← sumK_add]
theorem maxK_ge (F : Nat → Int) {c m : Nat} (h : c < m) : F c ≤ maxK F m := by
  induction m with
  | zero => omega
  | succ m ih =>
    simp only [maxK]
    by_cases e : c = m
    · subst e; omega
    · have := ih (by omega); omega
theorem maxK_le (F : Nat → Int) {b : Int} {m : Nat} (hb : 0 ≤ b) (h : ∀ c, c < m → F c ≤ b) : maxK F m ≤ b := by
  induction m with
  | zero => exact hb
  | succ m ih => have := ih fun c hc => h c (by omega); have := h m (by omega); simp only [maxK]; omega
theorem maxK_get (F : Nat → Int) {m : Nat} (hm : 0 < m) (h : ∀ c, 0 ≤ F c) : ∃ c, c < m ∧ maxK F m = F c := by
  induction m with
  | zero => omega
  | succ m ih =>
    rcases Nat.eq_zero_or_pos m with e | e
    · subst e; exact ⟨0, by omega, by simp only [maxK]; have := h 0; omega⟩
    · obtain ⟨c, hc, he⟩ := ih e
      simp only [maxK, he]
      by_cases hle : F c ≤ F m
      · exact ⟨m, by omega, by omega⟩
      · exact ⟨c, by omega, by omega⟩

theorem sg_xor (x y j : Nat) : sg (x ^^^ y) j = sg x j * sg y j := by
  simp only [sg_sgb, Nat.testBit_xor, sgb_mul]
theorem sg_sq (x j : Nat) : sg x j * sg x j = 1 := by rcases sg_cases x j with h | h <;> rw [h] <;> rfl
theorem sg_mk {n : Nat} {f : Nat → Bool} {i : Nat} (h : i < n) : sg (mk n f) i = sgb (f i) := by
  rw [sg_sgb, mk_bit]; simp [h]

/-- The sum of all entries with the rows of r and the columns of c turned. -/
def turnS (n : Nat) (hs : List Nat) (r c : Nat) : Int := sumK (fun i => sumK (fun j => sg (hs.getD i 0) j * sg c j * sg r i) n) n
theorem turnS_row (n : Nat) (hs : List Nat) (r c : Nat) : turnS n hs r c = sumK (fun i => rowS n (hs.getD i 0 ^^^ c) * sg r i) n := by
  unfold turnS
  refine sumK_congr fun i _ => ?_
  rw [sumK_mulr, rowS_sg]
  simp only [sg_xor]
theorem turnS_col (n : Nat) (hs : List Nat) (r c : Nat) : turnS n hs r c = sumK (fun j => colK hs r j n * sg c j) n := by
  unfold turnS
  rw [sumK_swap]
  refine sumK_congr fun j _ => ?_
  unfold colK
  rw [← sumK_mulr]
  refine sumK_congr fun i _ => ?_
  rw [Int.mul_assoc, Int.mul_comm (sg c j), ← Int.mul_assoc]
theorem abs_sg (x : Int) (r i : Nat) : x * sg r i ≤ absI x := by
  unfold absI; rcases sg_cases r i with h | h <;> rw [h] <;> omega
theorem abs_sgb (x : Int) : x * sgb (decide (x < 0)) = absI x := by
  unfold absI
  by_cases h : x < 0
  · rw [decide_eq_true h]; simp only [sgb, if_true]; omega
  · rw [decide_eq_false h]; simp only [sgb, Bool.false_eq_true, if_false]; omega
theorem turnS_le_C (n : Nat) (hs : List Nat) (r c : Nat) : turnS n hs r c ≤ bestC n hs c n := by
  rw [turnS_row]; exact sumK_le fun i _ => abs_sg _ _ _
theorem turnS_le_R (n : Nat) (hs : List Nat) (r c : Nat) : turnS n hs r c ≤ bestR n hs r n := by
  rw [turnS_col]; exact sumK_le fun i _ => abs_sg _ _ _
theorem turnS_C (n : Nat) (hs : List Nat) (c : Nat) : ∃ r, r < 2 ^ n ∧ turnS n hs r c = bestC n hs c n := by
  refine ⟨mk n fun i => decide (rowS n (hs.getD i 0 ^^^ c) < 0), mk_lt _ _, ?_⟩
  rw [turnS_row]
  refine sumK_congr fun i hi => ?_
  rw [sg_mk hi, abs_sgb]
theorem turnS_R (n : Nat) (hs : List Nat) (r : Nat) : ∃ c, c < 2 ^ n ∧ turnS n hs r c = bestR n hs r n := by
  refine ⟨mk n fun j => decide (colK hs r j n < 0), mk_lt _ _, ?_⟩
  rw [turnS_col]
  refine sumK_congr fun i hi => ?_
  rw [sg_mk hi, abs_sgb]
theorem best_same (n : Nat) (hs : List Nat) (hn : n ≤ 16) : bestP n hs (2 ^ n) = bestQ n hs (2 ^ n) := by
  refine Int.le_antisymm ?_ ?_
  · refine maxK_le _ (bestQ_bd n _ hs hn).1 fun c hc => ?_
    obtain ⟨r, hr, e⟩ := turnS_C n hs c
    rw [← e]
    exact Int.le_trans (turnS_le_R n hs r c) (maxK_ge (fun r => bestR n hs r n) hr)
  · refine maxK_le _ (bestP_bd n _ hs hn).1 fun r hr => ?_
    obtain ⟨c, hc, e⟩ := turnS_R n hs r
    rw [← e]
    exact Int.le_trans (turnS_le_C n hs r c) (maxK_ge (fun c => bestC n hs c n) hc)

theorem sq_nn (a : Int) : 0 ≤ a * a := by
  rcases Int.le_total 0 a with h | h
  · exact Int.mul_nonneg h h
  · have := Int.mul_nonneg (a := -a) (b := -a) (by omega) (by omega)
    rwa [Int.neg_mul_neg] at this
/-- Cauchy and Schwarz, for a row of ones. -/
theorem sq_sum (F : Nat → Int) (k : Nat) : sumK F k * sumK F k ≤ k * sumK (fun i => F i * F i) k := by
  induction k with
  | zero => simp [sumK]
  | succ k ih =>
    have h : 2 * sumK F k * F k ≤ sumK (fun i => F i * F i) k + k * (F k * F k) := by
      rw [← sumK_const, ← sumK_add, Int.mul_comm 2, Int.mul_assoc, ← sumK_mulr]
      refine sumK_le fun j _ => ?_
      have := sq_nn (F j - F k)
      have e : (F j - F k) * (F j - F k) = F j * F j + F k * F k - F j * (2 * F k) := by
        simp only [Int.sub_mul, Int.mul_sub, Int.two_mul, Int.mul_add, Int.mul_comm (F k) (F j)]; omega
      omega
    simp only [sumK]
    generalize sumK F k = s at *
    generalize sumK (fun i => F i * F i) k = q at *
    generalize F k = a at *
    have e1 : (s + a) * (s + a) = s * s + 2 * s * a + a * a := by
      simp only [Int.add_mul, Int.mul_add, Int.two_mul, Int.mul_comm a s]; omega
    have e2 : ((k+1 : Nat) : Int) * (q + a * a) = k * q + k * (a * a) + q + a * a := by
      rw [Int.natCast_add, Int.add_mul, Int.mul_add]; simp; omega
    rw [e1, e2]
    omega

/-- Of a balanced matrix: the squares of what the columns sum to. -/
theorem bal_sq (n : Nat) (hs : List Nat) (r : Nat) (hb : Bal n hs) : sumK (fun j => colK hs r j n * colK hs r j n) n = n * n := by
  have dot : ∀ i, i < n → ∀ k, k < n → sumK (fun j => sg (hs.getD i 0) j * sg (hs.getD k 0) j) n = if i = k then (n : Int) else 0 := by
    intro i hi k hk
    have e : ∀ m, sumK (fun j => sg (hs.getD i 0) j * sg (hs.getD k 0) j) m = dotK (hs.getD i 0) (hs.getD k 0) m := by
      intro m
      induction m with
      | zero => rfl
      | succ m ih => simp only [sumK, dotK, ih]
    by_cases h : i = k
    · subst h
      rw [if_pos rfl]
      have : ∀ m : Nat, sumK (fun j => sg (hs.getD i 0) j * sg (hs.getD i 0) j) m = m := by
        intro m; simp only [sg_sq]; rw [sumK_const]; simp
      exact this n
    · rw [if_neg h, e, dotK_pop]
      rcases Nat.lt_or_ge i k with h' | h'
      · have := hb k hk i h'; rw [Nat.xor_comm] at this; omega
      · have := hb i hi k (by omega); omega
  have pick : ∀ (i m : Nat) (G : Nat → Int), i < m → sumK (fun k => if i = k then G k else 0) m = G i := by
    intro i m G hi
    induction m with
    | zero => omega
    | succ m ih =>
      simp only [sumK]
      by_cases e : i = m
      · subst e
        rw [if_pos rfl]
        have : sumK (fun k => if i = k then G k else 0) i = 0 := by
          rw [sumK_congr (G := fun _ => 0) fun j hj => if_neg (by omega), sumK_zero]
        omega
      · rw [if_neg e, ih (by omega)]; omega
  have step : ∀ j, colK hs r j n * colK hs r j n = sumK (fun i => sumK (fun k => (sg r i * sg r k) * (sg (hs.getD i 0) j * sg (hs.getD k 0) j)) n) n := by
    intro j
    have h1 : colK hs r j n * colK hs r j n = sumK (fun i => (sg (hs.getD i 0) j * sg r i) * colK hs r j n) n := by
      rw [sumK_mulr]; rfl
    rw [h1]
    refine sumK_congr fun i _ => ?_
    have h2 : colK hs r j n = sumK (fun k => sg (hs.getD k 0) j * sg r k) n := rfl
    rw [h2, ← sumK_mul]
    refine sumK_congr fun k _ => ?_
    generalize sg (hs.getD i 0) j = a
    generalize sg (hs.getD k 0) j = b
    generalize sg r i = c
    generalize sg r k = d
    simp only [Int.mul_left_comm, Int.mul_comm]
  rw [sumK_congr (G := fun j => sumK (fun i => sumK (fun k => (sg r i * sg r k) * (sg (hs.getD i 0) j * sg (hs.getD k 0) j)) n) n) fun j _ => step j]
  rw [← sumK_swap (fun i j => sumK (fun k => (sg r i * sg r k) * (sg (hs.getD i 0) j * sg (hs.getD k 0) j)) n)]
  rw [sumK_congr (G := fun _ => (n:Int)) ?_, sumK_const]
  intro i hi
  rw [← sumK_swap (fun k j => (sg r i * sg r k) * (sg (hs.getD i 0) j * sg (hs.getD k 0) j))]
  rw [sumK_congr (G := fun k => if i = k then sg r i * sg r k * n else 0) ?_, pick i n _ hi, sg_sq, Int.one_mul]
  intro k hk
  rw [sumK_mul, dot i hi k hk]
  split <;> simp

theorem best_bal (n : Nat) (hs : List Nat) (hn : n ≤ 16) (hb : Bal n hs) : bestP n hs (2 ^ n) * bestP n hs (2 ^ n) ≤ n * n * n := by
  rw [best_same n hs hn]
  obtain ⟨r, _, e⟩ := maxK_get (fun r => bestR n hs r n) (Nat.two_pow_pos n) (fun r => (bestR_bd n n hs r hn hn).1)
  show maxK _ _ * maxK _ _ ≤ _
  rw [e]
  refine Int.le_trans (sq_sum _ n) ?_
  have : sumK (fun j => absI (colK hs r j n) * absI (colK hs r j n)) n = n * n := by
    rw [← bal_sq n hs r hb]
    refine sumK_congr fun j _ => ?_
    unfold absI
    rcases Int.le_total 0 (colK hs r j n) with h | h
    · rw [Int.max_eq_left (by omega)]
    · rw [Int.max_eq_right (by omega), Int.neg_mul_neg]
  rw [this, ← Int.mul_assoc]
  exact Int.le_refl _
end Go.Proofs.Ytopmdmafameknaa
