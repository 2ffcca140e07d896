/- bits.OnesCount -/
import Derived.Test.YtopmdmafameknaaSa
import Derived.IntWalk
namespace Go.Proofs.Ytopmdmafameknaa
open Go.RowKit

/-- How many of the first n bits of x are set. -/
def pop : Nat → Nat → Nat
  | 0, _ => 0
  | n+1, x => pop n x + (x.testBit n).toNat

def ocA (x : Nat) : Nat := ((x / 2) &&& 6148914691236517205) + (x &&& 6148914691236517205)
def ocB (a : Nat) : Nat := ((a / 4) &&& 3689348814741910323) + (a &&& 3689348814741910323)
def ocC (b : Nat) : Nat := (b / 16 + b) &&& 1085102592571150095
def ocD (c : Nat) : Nat := c + c / 256
def ocE (d : Nat) : Nat := d + d / 65536
def ocF (e : Nat) : Nat := e + e / 4294967296
def ocN (x : Nat) : Nat := ocF (ocE (ocD (ocC (ocB (ocA x))))) &&& 127

def popF : Nat → Nat → Nat
  | 0, _ => 0
  | n+1, x => x % 2 + popF n (x / 2)
theorem pop_low (n x : Nat) : pop (n+1) x = x % 2 + pop n (x / 2) := by
  induction n with
  | zero =>
    show 0 + (x.testBit 0).toNat = x % 2 + 0
    rw [Nat.testBit_zero]
    rcases Nat.mod_two_eq_zero_or_one x with h | h <;> simp [h]
  | succ n ih =>
    show pop (n+1) x + (x.testBit (n+1)).toNat = x % 2 + (pop n (x/2) + ((x/2).testBit n).toNat)
    rw [ih, Nat.testBit_succ]; omega
theorem pop_popF (n x : Nat) : pop n x = popF n x := by
  induction n generalizing x with
  | zero => rfl
  | succ n ih => rw [pop_low, ih]; rfl
def popQ (x : Nat) : Nat := x % 2 + (x / 2 % 2 + (x / 4 % 2 + (x / 8 % 2 + (x / 16 % 2 + (x / 32 % 2 + (x / 64 % 2 + (x / 128 % 2 + (x / 256 % 2 + (x / 512 % 2 + (x / 1024 % 2 + (x / 2048 % 2 + (x / 4096 % 2 + (x / 8192 % 2 + (x / 16384 % 2 + x / 32768 % 2))))))))))))))
theorem popF_popQ (x : Nat) : popF 16 x = popQ x := by
  simp only [popF, popQ, Nat.div_div_eq_div_mul, Nat.reduceMul, Nat.add_zero]
def chk : Nat → Nat → Bool
  | 0, _ => true
  | n+1, x => Nat.beq (ocN x) (popQ x) && chk n (x+1)
theorem chk_of (n x : Nat) (h : chk n x = true) : ∀ y, x ≤ y → y < x + n → ocN y = popQ y := by
  induction n generalizing x with
  | zero => intro y h1 h2; omega
  | succ n ih =>
    intro y h1 h2
    simp only [chk, Bool.and_eq_true] at h
    by_cases e : y = x
    · subst e; exact Nat.eq_of_beq_eq_true h.1
    · exact ih (x+1) h.2 y (by omega) (by omega)
theorem chk_all : ∀ a < 64, chk 1024 (1024 * a) = true := by decide +kernel
theorem ocN_pop (x : Nat) (h : x < 65536) : ocN x = pop 16 x := by
  rw [pop_popF, popF_popQ]
  exact chk_of 1024 (1024 * (x / 1024)) (chk_all (x / 1024) (by omega)) x (by omega) (by omega)

theorem u64_and (a b : Nat) (ha : a < 18446744073709551616) (hb : b < 18446744073709551616) : bits .and .u64 (a : Int) (b : Int) = ((a &&& b : Nat) : Int) := by
  have hx : a &&& b < 2 ^ 64 := Nat.and_lt_two_pow _ (by omega)
  have h1 : (BitVec.ofInt 64 (a : Int)).toNat = a := by
    rw [BitVec.ofInt_natCast, BitVec.toNat_ofNat]; exact Nat.mod_eq_of_lt (by omega)
  have h2 : (BitVec.ofInt 64 (b : Int)).toNat = b := by
    rw [BitVec.ofInt_natCast, BitVec.toNat_ofNat]; exact Nat.mod_eq_of_lt (by omega)
  show IntKind.u64.wrap ((BitVec.ofInt 64 (a : Int) &&& BitVec.ofInt 64 (b : Int)).toNat : Int) = _
  rw [BitVec.toNat_and, h1, h2, IntKind.wrap_u64]
  omega
theorem i64_of {k : Int} (h : 0 ≤ k) (h2 : k < 9223372036854775808) : IntKind.i64.wrap k = k := IntWalk.i64_in _ (by omega)
theorem bv64 {a : Nat} (ha : a < 9223372036854775808) : (BitVec.ofInt 64 (a : Int)).toNat = a := by
  rw [BitVec.ofInt_natCast, BitVec.toNat_ofNat]; exact Nat.mod_eq_of_lt (by omega)
theorem i64_and (a b : Nat) (ha : a < 9223372036854775808) (hb : b < 9223372036854775808) : bits .and .i64 (a : Int) (b : Int) = ((a &&& b : Nat) : Int) := by
  have hx : a &&& b < 2 ^ 63 := Nat.and_lt_two_pow _ (by omega)
  show IntKind.i64.wrap ((BitVec.ofInt 64 (a : Int) &&& BitVec.ofInt 64 (b : Int)).toNat : Int) = _
  rw [BitVec.toNat_and, bv64 ha, bv64 hb]
  exact i64_of (by omega) (by omega)
theorem i64_xor (a b : Nat) (ha : a < 9223372036854775808) (hb : b < 9223372036854775808) : bits .xor .i64 (a : Int) (b : Int) = ((a ^^^ b : Nat) : Int) := by
  have hx : a ^^^ b < 2 ^ 63 := Nat.xor_lt_two_pow (by omega) (by omega)
  show IntKind.i64.wrap ((BitVec.ofInt 64 (a : Int) ^^^ BitVec.ofInt 64 (b : Int)).toNat : Int) = _
  rw [BitVec.toNat_xor, bv64 ha, bv64 hb]
  exact i64_of (by omega) (by omega)
theorem i64_or (a b : Nat) (ha : a < 9223372036854775808) (hb : b < 9223372036854775808) : bits .or .i64 (a : Int) (b : Int) = ((a ||| b : Nat) : Int) := by
  have hx : a ||| b < 2 ^ 63 := Nat.or_lt_two_pow (by omega) (by omega)
  show IntKind.i64.wrap ((BitVec.ofInt 64 (a : Int) ||| BitVec.ofInt 64 (b : Int)).toNat : Int) = _
  rw [BitVec.toNat_or, bv64 ha, bv64 hb]
  exact i64_of (by omega) (by omega)

theorem ucast {k : Int} (h : 0 ≤ k) (h2 : k < 18446744073709551616) : IntKind.u64.wrap k = k := by rw [IntKind.wrap_u64]; omega

set_option maxHeartbeats 1000000 in
theorem ones64_any (x : Nat) (w : World) (hx : x < 65536) :
    Calls Try.prog 100 #[.int .u64 x] w fun e w' => e = .returned (.int .i64 (pop 16 x)) ∧ w = w' := by
  have hA : bits .and .u64 ((x:Int) / 2) 6148914691236517205 = (((x / 2) &&& 6148914691236517205 : Nat) : Int) := by
    rw [← u64_and (x/2) 6148914691236517205 (by omega) (by omega)]; rfl
  have hA' : bits .and .u64 (x:Int) 6148914691236517205 = ((x &&& 6148914691236517205 : Nat) : Int) := u64_and x 6148914691236517205 (by omega) (by omega)
  have hAs : IntKind.u64.wrap (bits .and .u64 ((x:Int) / 2) 6148914691236517205 + bits .and .u64 (x:Int) 6148914691236517205) = (ocA x : Int) ∧ ocA x < 131072 := by
    have l1 : (x / 2) &&& 6148914691236517205 ≤ x / 2 := Nat.and_le_left
    have l2 : x &&& 6148914691236517205 ≤ x := Nat.and_le_left
    rw [hA, hA']
    unfold ocA
    exact ⟨by rw [ucast (by omega) (by omega)]; rfl, by omega⟩
  obtain ⟨eA, lA⟩ := hAs
  have hBs : IntKind.u64.wrap (bits .and .u64 ((ocA x : Int) / 4) 3689348814741910323 + bits .and .u64 (ocA x : Int) 3689348814741910323) = (ocB (ocA x) : Int) ∧ ocB (ocA x) < 1048576 := by
    generalize ocA x = a at *
    have l1 : (a / 4) &&& 3689348814741910323 ≤ a / 4 := Nat.and_le_left
    have l2 : a &&& 3689348814741910323 ≤ a := Nat.and_le_left
    have e1 : bits .and .u64 ((a:Int) / 4) 3689348814741910323 = (((a / 4) &&& 3689348814741910323 : Nat) : Int) := by
      rw [← u64_and (a/4) 3689348814741910323 (by omega) (by omega)]; rfl
    have e2 : bits .and .u64 (a:Int) 3689348814741910323 = ((a &&& 3689348814741910323 : Nat) : Int) := u64_and a 3689348814741910323 (by omega) (by omega)
    rw [e1, e2]
    unfold ocB
    exact ⟨by rw [ucast (by omega) (by omega)]; rfl, by omega⟩
  obtain ⟨eB, lB⟩ := hBs
  have hCs : bits .and .u64 (IntKind.u64.wrap ((ocB (ocA x) : Int) / 16 + (ocB (ocA x) : Int))) 1085102592571150095 = (ocC (ocB (ocA x)) : Int) ∧ ocC (ocB (ocA x)) < 2097152 := by
    generalize ocB (ocA x) = b at *
    have l1 : (b / 16 + b) &&& 1085102592571150095 ≤ b / 16 + b := Nat.and_le_left
    rw [ucast (by omega) (by omega)]
    unfold ocC
    exact ⟨by rw [← u64_and (b/16 + b) 1085102592571150095 (by omega) (by omega)]; rfl, by omega⟩
  obtain ⟨eC, lC⟩ := hCs
  have eD : IntKind.u64.wrap ((ocC (ocB (ocA x)) : Int) + (ocC (ocB (ocA x)) : Int) / 256) = (ocD (ocC (ocB (ocA x))) : Int) := by
    rw [ucast (by omega) (by omega)]; rfl
  have lD : ocD (ocC (ocB (ocA x))) < 4194304 := by unfold ocD; omega
  have eE : IntKind.u64.wrap ((ocD (ocC (ocB (ocA x))) : Int) + (ocD (ocC (ocB (ocA x))) : Int) / 65536) = (ocE (ocD (ocC (ocB (ocA x)))) : Int) := by
    rw [ucast (by omega) (by omega)]; rfl
  have lE : ocE (ocD (ocC (ocB (ocA x)))) < 8388608 := by unfold ocE; omega
  have eF : IntKind.u64.wrap ((ocE (ocD (ocC (ocB (ocA x)))) : Int) + (ocE (ocD (ocC (ocB (ocA x)))) : Int) / 4294967296) = (ocF (ocE (ocD (ocC (ocB (ocA x))))) : Int) := by
    rw [ucast (by omega) (by omega)]; rfl
  have lF : ocF (ocE (ocD (ocC (ocB (ocA x))))) < 16777216 := by unfold ocF; omega
  have eN : bits .and .i64 (ocF (ocE (ocD (ocC (ocB (ocA x)))))  : Int) 127 = (ocN x : Int) := i64_and _ 127 (by omega) (by omega)
  have eW : IntKind.i64.wrap (ocF (ocE (ocD (ocC (ocB (ocA x)))))  : Int) = (ocF (ocE (ocD (ocC (ocB (ocA x)))))  : Int) := i64_of (by omega) (by omega)
  have eP : Hid (ocN x = pop 16 x) := ocN_pop x hx
  clear hA hA' lA lB lC lD lE lF hx
  go_enter Try.func100, Try.ntmps100
  go_wp2
  go_ret
  exact ⟨ret_int (by rw [eP.out]), rfl⟩

theorem pop_cut (n m x : Nat) (h : x < 2 ^ n) : pop (n + m) x = pop n x := by
  induction m with
  | zero => rfl
  | succ m ih =>
    show pop (n + m) x + (x.testBit (n + m)).toNat = pop n x
    rw [ih, Nat.testBit_lt_two_pow (Nat.lt_of_lt_of_le h (Nat.pow_le_pow_right (by decide) (by omega)))]
    rfl
theorem pop16 (n x : Nat) (hn : n ≤ 16) (h : x < 2 ^ n) : pop 16 x = pop n x := by
  have := pop_cut n (16 - n) x h
  rwa [show n + (16 - n) = 16 by omega] at this
theorem pop_le (n x : Nat) : pop n x ≤ n := by
  induction n with
  | zero => exact Nat.le_refl _
  | succ n ih => show pop n x + (x.testBit n).toNat ≤ n + 1; have := Bool.toNat_le (x.testBit n); omega

set_option maxHeartbeats 400000 in
theorem ones_any (x : Nat) (w : World) (hx : x < 65536) :
    Calls Try.prog 70 #[.int .u64 x] w fun e w' => e = .returned (.int .i64 (pop 16 x)) ∧ w = w' := by
  go_enter Try.func70, Try.ntmps70
  go_wp2_with fail
  refine (ones64_any x w hx).mono ?_
  rintro e w' ⟨rfl, rfl⟩
  go_wp2
  go_ret
  exact ⟨rfl, rfl⟩
end Go.Proofs.Ytopmdmafameknaa
