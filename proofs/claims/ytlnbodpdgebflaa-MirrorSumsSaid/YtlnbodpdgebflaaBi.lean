/- bits -/
import Derived.Test.YtlnbodpdgebflaaSa
import Derived.IntWalk
namespace Go.Proofs.Ytlnbodpdgebflaa
open Go.RowKit

theorem i64_of {k : Int} (h : 0 ≤ k) (h2 : k < 9223372036854775808) : IntKind.i64.wrap k = k := IntWalk.i64_in _ (by omega)
theorem bv64 {a : Nat} (ha : a < 9223372036854775808) : (BitVec.ofInt 64 (a : Int)).toNat = a := by
  rw [BitVec.ofInt_natCast, BitVec.toNat_ofNat]; exact Nat.mod_eq_of_lt (by omega)
theorem i64_and (a b : Nat) (ha : a < 9223372036854775808) (hb : b < 9223372036854775808) : bits .and .i64 (a : Int) (b : Int) = ((a &&& b : Nat) : Int) := by
  have hx : a &&& b < 2 ^ 63 := Nat.and_lt_two_pow _ (by omega)
  show IntKind.i64.wrap ((BitVec.ofInt 64 (a : Int) &&& BitVec.ofInt 64 (b : Int)).toNat : Int) = _
  rw [BitVec.toNat_and, bv64 ha, bv64 hb]
  exact i64_of (by omega) (by omega)
theorem i64_xor (a b : Nat) (ha : a < 9223372036854775808) (hb : b < 9223372036854775808) : bits .xor .i64 (a : Int) (b : Int) = ((a ^^^ b : Nat) : Int) := by
  have hx : a ^^^ b < 2 ^ 63 := Nat.xor_lt_two_pow (by omega) (by omega)
  show IntKind.i64.wrap ((BitVec.ofInt 64 (a : Int) ^^^ BitVec.ofInt 64 (b : Int)).toNat : Int) = _
  rw [BitVec.toNat_xor, bv64 ha, bv64 hb]
  exact i64_of (by omega) (by omega)
theorem i64_or (a b : Nat) (ha : a < 9223372036854775808) (hb : b < 9223372036854775808) : bits .or .i64 (a : Int) (b : Int) = ((a ||| b : Nat) : Int) := by
  have hx : a ||| b < 2 ^ 63 := Nat.or_lt_two_pow (by omega) (by omega)
  show IntKind.i64.wrap ((BitVec.ofInt 64 (a : Int) ||| BitVec.ofInt 64 (b : Int)).toNat : Int) = _
  rw [BitVec.toNat_or, bv64 ha, bv64 hb]
  exact i64_of (by omega) (by omega)

theorem ucast {k : Int} (h : 0 ≤ k) (h2 : k < 18446744073709551616) : IntKind.u64.wrap k = k := by rw [IntKind.wrap_u64]; omega
theorem i64_andNot (a b : Nat) (ha : a < 9223372036854775808) (hb : b < 9223372036854775808) : bits .andNot .i64 (a : Int) (b : Int) = ((a ^^^ (a &&& b) : Nat) : Int) := by
  have e : BitVec.ofInt 64 (a : Int) &&& ~~~ BitVec.ofInt 64 (b : Int) = BitVec.ofInt 64 (a : Int) ^^^ (BitVec.ofInt 64 (a : Int) &&& BitVec.ofInt 64 (b : Int)) := by
    refine BitVec.eq_of_getLsbD_eq fun i hi => ?_
    simp only [BitVec.getLsbD_and, BitVec.getLsbD_not, BitVec.getLsbD_xor, hi, decide_true, Bool.true_and]
    cases (BitVec.ofInt 64 (a : Int)).getLsbD i <;> cases (BitVec.ofInt 64 (b : Int)).getLsbD i <;> rfl
  have hx : a &&& b < 2 ^ 63 := Nat.and_lt_two_pow _ (by omega)
  have hx' : a ^^^ (a &&& b) < 2 ^ 63 := Nat.xor_lt_two_pow (by omega) hx
  show IntKind.i64.wrap ((BitVec.ofInt 64 (a : Int) &&& ~~~ BitVec.ofInt 64 (b : Int)).toNat : Int) = _
  rw [e, BitVec.toNat_xor, BitVec.toNat_and, bv64 ha, bv64 hb]
  exact i64_of (by omega) (by omega)

theorem pw_bd (n : Nat) (h : n ≤ 16) : (1:Int) ≤ 2 ^ n ∧ (2:Int) ^ n ≤ 65536 := by
  have h1 : 2 ^ n ≤ 2 ^ 16 := Nat.pow_le_pow_right (by decide) h
  have h2 : 0 < 2 ^ n := Nat.two_pow_pos n
  have e : ((2 ^ n : Nat) : Int) = (2:Int) ^ n := by simp
  rw [← e]; omega
theorem pw_cast (n : Nat) : ((2 ^ n : Nat) : Int) = (2:Int) ^ n := by simp
theorem pw_nat (n : Nat) (h : n ≤ 16) : 1 ≤ 2 ^ n ∧ 2 ^ n ≤ 65536 := ⟨Nat.two_pow_pos n, Nat.pow_le_pow_right (by decide) h⟩
theorem wrap_in {x : Int} (h : -9223372036854775808 ≤ x) (h2 : x < 9223372036854775808) : wrap64 x = x := by unfold wrap64; omega
theorem wrap_pw (n : Nat) (h : n ≤ 16) : wrap64 (2 ^ n) = 2 ^ n := by have := pw_bd n h; exact wrap_in (by omega) (by omega)

theorem bit_and1 (x n : Nat) (h : x < 65536) : bits .and .i64 ((x:Int) / 2 ^ n) 1 = ((x.testBit n).toNat : Int) := by
  have hd : (x:Int) / 2 ^ n = ((x / 2 ^ n : Nat) : Int) := by rw [← pw_cast]; exact (Int.natCast_ediv x (2^n)).symm
  have hl : x / 2 ^ n ≤ x := Nat.div_le_self _ _
  rw [hd, show (1:Int) = ((1:Nat):Int) from rfl, i64_and _ _ (by omega) (by omega), Nat.and_one_is_mod]
  congr 1
  rw [Nat.testBit_eq_decide_div_mod_eq]
  have : x / 2 ^ n % 2 = 0 ∨ x / 2 ^ n % 2 = 1 := by omega
  rcases this with e | e <;> simp [e]
theorem bit_and1' (x n : Nat) (h : x < 65536) : (bits .and .i64 ((x:Int) / 2 ^ n) 1 == 1) = x.testBit n := by
  rw [bit_and1 x n h]; cases x.testBit n <;> rfl

end Go.Proofs.Ytlnbodpdgebflaa
