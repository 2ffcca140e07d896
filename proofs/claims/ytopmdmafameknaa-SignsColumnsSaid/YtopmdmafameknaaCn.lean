/- SignsColumns: products of balanced matrices -/
import Derived.Test.YtopmdmafameknaaCm
import Derived.Test.YtopmdmafameknaaRt
namespace Go.Proofs.Ytopmdmafameknaa
open Go.RowKit

theorem sumK_split (F : Nat → Int) (a n : Nat) : sumK F (a + n) = sumK F a + sumK (fun j => F (a + j)) n := by
  induction n with
  | zero => simp [sumK]
  | succ n ih => rw [← Nat.add_assoc, sumK, ih, sumK]; omega
theorem sum_prod (f g : Nat → Int) (m n : Nat) (hn : 0 < n) : sumK (fun c => f (c / n) * g (c % n)) (m * n) = sumK f m * sumK g n := by
  induction m with
  | zero => simp [sumK]
  | succ m ih =>
    rw [Nat.succ_mul, sumK_split, ih, sumK, Int.add_mul]
    congr 1
    rw [← sumK_mul]
    refine sumK_congr fun j hj => ?_
    have e1 : (m * n + j) / n = m := by rw [Nat.mul_comm, Nat.mul_add_div hn, Nat.div_eq_of_lt hj]; omega
    have e2 : (m * n + j) % n = j := by rw [Nat.mul_comm, Nat.mul_add_mod, Nat.mod_eq_of_lt hj]
    rw [e1, e2]

theorem times_sg {m n : Nat} {a b : List Nat} {p c : Nat} (hp : p < m * n) (hc : c < m * n) : sg ((timesS m n a b).getD p 0) c = sg (a.getD (p / n) 0) (c / n) * sg (b.getD (p % n) 0) (c % n) := by
  have : (timesS m n a b).getD p 0 = mk (m * n) (timesF a b n p) := plant_get hp
  rw [this, sg_mk hc, timesF_sg]
theorem times_dot {m n : Nat} {a b : List Nat} {p q : Nat} (hn : 0 < n) (hp : p < m * n) (hq : q < m * n) : dotS (m * n) (timesS m n a b) p q = dotS m a (p / n) (q / n) * dotS n b (p % n) (q % n) := by
  unfold dotS
  rw [← sum_prod _ _ m n hn]
  refine sumK_congr fun c hc => ?_
  rw [times_sg hp hc, times_sg hq hc]
  generalize sg (a.getD (p / n) 0) (c / n) = x
  generalize sg (b.getD (p % n) 0) (c % n) = y
  generalize sg (a.getD (q / n) 0) (c / n) = z
  generalize sg (b.getD (q % n) 0) (c % n) = u
  rw [Int.mul_assoc, Int.mul_assoc, Int.mul_left_comm y]
theorem bal_times {m n : Nat} {a b : List Nat} (ha : Mat m a) (hb : Mat n b) : balB (m * n) (timesS m n a b) = (balB m a && balB n b) := by
  have hn := hb.pos
  have hm := ha.pos
  have e : Bal (m * n) (timesS m n a b) ↔ Bal m a ∧ Bal n b := by
    simp only [bal_dot]
    constructor
    · intro h
      constructor
      · intro i hi k hk hne
        have hlt : ∀ x, x < m → x * n < m * n := fun x hx => Nat.mul_lt_mul_of_pos_right hx hn
        have := h (i * n) (hlt i hi) (k * n) (hlt k hk) (fun e => hne (Nat.eq_of_mul_eq_mul_right hn e))
        rw [times_dot hn (hlt i hi) (hlt k hk), Nat.mul_div_cancel _ hn, Nat.mul_div_cancel _ hn, Nat.mul_mod_left, Nat.mul_mod_left, dotS_self] at this
        rcases Int.mul_eq_zero.1 this with h | h
        · exact h
        · omega
      · intro i hi k hk hne
        have hlt : ∀ x, x < n → x < m * n := fun x hx => Nat.lt_of_lt_of_le hx (Nat.le_mul_of_pos_left n hm)
        have := h i (hlt i hi) k (hlt k hk) hne
        rw [times_dot hn (hlt i hi) (hlt k hk), Nat.div_eq_of_lt hi, Nat.div_eq_of_lt hk, Nat.mod_eq_of_lt hi, Nat.mod_eq_of_lt hk, dotS_self] at this
        rcases Int.mul_eq_zero.1 this with h | h
        · omega
        · exact h
    · rintro ⟨h1, h2⟩ p hp q hq hne
      rw [times_dot hn hp hq]
      have hpd : p / n < m := Nat.div_lt_of_lt_mul (by rw [Nat.mul_comm]; exact hp)
      have hqd : q / n < m := Nat.div_lt_of_lt_mul (by rw [Nat.mul_comm]; exact hq)
      by_cases e1 : p / n = q / n
      · have e2 : p % n ≠ q % n := fun e2 => hne (by rw [← Nat.div_add_mod p n, ← Nat.div_add_mod q n, e1, e2])
        rw [h2 _ (Nat.mod_lt _ hn) _ (Nat.mod_lt _ hn) e2, Int.mul_zero]
      · rw [h1 _ hpd _ hqd e1, Int.zero_mul]
  unfold balB
  by_cases c : Bal m a ∧ Bal n b
  · rw [decide_eq_true (e.2 c), decide_eq_true c.1, decide_eq_true c.2]; rfl
  · rw [decide_eq_false fun h => c (e.1 h)]
    by_cases c1 : Bal m a
    · rw [decide_eq_true c1, decide_eq_false fun h => c ⟨c1, h⟩]; rfl
    · rw [decide_eq_false c1]; rfl

theorem bal_double : ∀ k < 5, balB (2 ^ k) (doubleS k) = true := by decide +kernel
theorem bal_sq3 : balB 4 (squaresS 3) = true := by decide +kernel
theorem bal_sq7 : balB 8 (squaresS 7) = true := by decide +kernel
theorem bal_sq11 : balB 12 (squaresS 11) = true := by decide +kernel
end Go.Proofs.Ytopmdmafameknaa
