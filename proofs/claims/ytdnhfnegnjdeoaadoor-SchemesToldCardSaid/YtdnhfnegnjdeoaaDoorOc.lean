/- Pure: how many bits are set; the steps of bits.OnesCount. -/
import Derived.WalkKit
namespace Go.Proofs.YtdnhfnegnjdeoaaDoor

/-- How many of the first n bits of x are set. -/
def pop : Nat → Nat → Nat
  | 0, _ => 0
  | n+1, x => pop n x + (x.testBit n).toNat

def ocA (x : Nat) : Nat := ((x / 2) &&& 6148914691236517205) + (x &&& 6148914691236517205)
def ocB (a : Nat) : Nat := ((a / 4) &&& 3689348814741910323) + (a &&& 3689348814741910323)
def ocC (b : Nat) : Nat := (b / 16 + b) &&& 1085102592571150095
def ocD (c : Nat) : Nat := c + c / 256
def ocE (d : Nat) : Nat := d + d / 65536
def ocF (e : Nat) : Nat := e + e / 4294967296
def ocN (x : Nat) : Nat := ocF (ocE (ocD (ocC (ocB (ocA x))))) &&& 127

def popF : Nat → Nat → Nat
  | 0, _ => 0
  | n+1, x => x % 2 + popF n (x / 2)
theorem pop_low (n x : Nat) : pop (n+1) x = x % 2 + pop n (x / 2) := by
  induction n with
  | zero =>
    show 0 + (x.testBit 0).toNat = x % 2 + 0
    rw [Nat.testBit_zero]
    rcases Nat.mod_two_eq_zero_or_one x with h | h <;> simp [h]
  | succ n ih =>
    show pop (n+1) x + (x.testBit (n+1)).toNat = x % 2 + (pop n (x/2) + ((x/2).testBit n).toNat)
    rw [ih, Nat.testBit_succ]; omega
theorem pop_popF (n x : Nat) : pop n x = popF n x := by
  induction n generalizing x with
  | zero => rfl
  | succ n ih => rw [pop_low, ih]; rfl
def popQ (x : Nat) : Nat := x % 2 + (x / 2 % 2 + (x / 4 % 2 + (x / 8 % 2 + (x / 16 % 2 + (x / 32 % 2 + (x / 64 % 2 + (x / 128 % 2 + (x / 256 % 2 + (x / 512 % 2 + (x / 1024 % 2 + (x / 2048 % 2 + (x / 4096 % 2 + (x / 8192 % 2 + (x / 16384 % 2 + x / 32768 % 2))))))))))))))
theorem popF_popQ (x : Nat) : popF 16 x = popQ x := by
  simp only [popF, popQ, Nat.div_div_eq_div_mul, Nat.reduceMul, Nat.add_zero]
def chk : Nat → Nat → Bool
  | 0, _ => true
  | n+1, x => Nat.beq (ocN x) (popQ x) && chk n (x+1)
theorem chk_of (n x : Nat) (h : chk n x = true) : ∀ y, x ≤ y → y < x + n → ocN y = popQ y := by
  induction n generalizing x with
  | zero => intro y h1 h2; omega
  | succ n ih =>
    intro y h1 h2
    simp only [chk, Bool.and_eq_true] at h
    by_cases e : y = x
    · subst e; exact Nat.eq_of_beq_eq_true h.1
    · exact ih (x+1) h.2 y (by omega) (by omega)
theorem chk_all : ∀ a < 64, chk 1024 (1024 * a) = true := by decide +kernel
theorem ocN_pop (x : Nat) (h : x < 65536) : ocN x = pop 16 x := by
  rw [pop_popF, popF_popQ]
  exact chk_of 1024 (1024 * (x / 1024)) (chk_all (x / 1024) (by omega)) x (by omega) (by omega)

theorem pop_cut (n m x : Nat) (h : x < 2 ^ n) : pop (n + m) x = pop n x := by
  induction m with
  | zero => rfl
  | succ m ih =>
    show pop (n + m) x + (x.testBit (n + m)).toNat = pop n x
    rw [ih, Nat.testBit_lt_two_pow (Nat.lt_of_lt_of_le h (Nat.pow_le_pow_right (by decide) (by omega)))]
    rfl
theorem pop16 (n x : Nat) (hn : n ≤ 16) (h : x < 2 ^ n) : pop 16 x = pop n x := by
  have := pop_cut n (16 - n) x h
  rwa [show n + (16 - n) = 16 by omega] at this
theorem pop_le (n x : Nat) : pop n x ≤ n := by
  induction n with
  | zero => exact Nat.le_refl _
  | succ n ih => show pop n x + (x.testBit n).toNat ≤ n + 1; have := Bool.toNat_le (x.testBit n); omega

/-- Taking one from x and keeping what both have takes the lowest bit away. -/
theorem pop_kern (n x : Nat) (h0 : 0 < x) (h : x < 2 ^ n) : pop n (x &&& (x - 1)) + 1 = pop n x := by
  induction n generalizing x with
  | zero => simp at h; omega
  | succ n ih =>
    rw [pop_low, pop_low]
    have hd : (x &&& (x - 1)) / 2 = (x / 2) &&& ((x - 1) / 2) := by
      have := Nat.shiftRight_and_distrib (a := x) (b := x - 1) (i := 1)
      simpa [Nat.shiftRight_eq_div_pow] using this
    have hm : (x &&& (x - 1)) % 2 = 0 := by
      have h1 : (x &&& (x - 1)).testBit 0 = false := by
        rw [Nat.testBit_and, Nat.testBit_zero, Nat.testBit_zero]
        rcases Nat.mod_two_eq_zero_or_one x with e | e
        · simp [e]
        · have : (x - 1) % 2 = 0 := by omega
          simp [this]
      rw [Nat.testBit_zero] at h1
      rcases Nat.mod_two_eq_zero_or_one (x &&& (x - 1)) with e | e
      · exact e
      · rw [e] at h1; cases h1
    rw [hd, hm]
    rcases Nat.mod_two_eq_zero_or_one x with e | e
    · have e2 : (x - 1) / 2 = x / 2 - 1 := by omega
      have := ih (x / 2) (by omega) (by have : 2 ^ (n+1) = 2 * 2 ^ n := by rw [Nat.pow_succ]; omega
                                        omega)
      rw [e2, e]; omega
    · have e2 : (x - 1) / 2 = x / 2 := by omega
      rw [e2, Nat.and_self, e]; omega

theorem and_lt_one (x : Nat) (h : 0 < x) : x &&& (x - 1) < x := by
  have := Nat.and_le_right (n := x) (m := x - 1)
  omega

end Go.Proofs.YtdnhfnegnjdeoaaDoor
