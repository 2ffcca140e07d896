/- Bits of numbers, blocks of ints known whole. -/
import Derived.Test.YtdnhfnegnjdeoaaDoorSa
import Derived.IntWalk
import Derived.Test.YtdnhfnegnjdeoaaDoorBt
namespace Go.Proofs.YtdnhfnegnjdeoaaDoor
open Go.RowKit

theorem u64_and (a b : Nat) (ha : a < 18446744073709551616) (hb : b < 18446744073709551616) : bits .and .u64 (a : Int) (b : Int) = ((a &&& b : Nat) : Int) := by
  have hx : a &&& b < 2 ^ 64 := Nat.and_lt_two_pow _ (by omega)
  have h1 : (BitVec.ofInt 64 (a : Int)).toNat = a := by
    rw [BitVec.ofInt_natCast, BitVec.toNat_ofNat]; exact Nat.mod_eq_of_lt (by omega)
  have h2 : (BitVec.ofInt 64 (b : Int)).toNat = b := by
    rw [BitVec.ofInt_natCast, BitVec.toNat_ofNat]; exact Nat.mod_eq_of_lt (by omega)
  show IntKind.u64.wrap ((BitVec.ofInt 64 (a : Int) &&& BitVec.ofInt 64 (b : Int)).toNat : Int) = _
  rw [BitVec.toNat_and, h1, h2, IntKind.wrap_u64]
  omega
theorem i64_of {k : Int} (h : 0 ≤ k) (h2 : k < 9223372036854775808) : IntKind.i64.wrap k = k := IntWalk.i64_in _ (by omega)
theorem bv64 {a : Nat} (ha : a < 9223372036854775808) : (BitVec.ofInt 64 (a : Int)).toNat = a := by
  rw [BitVec.ofInt_natCast, BitVec.toNat_ofNat]; exact Nat.mod_eq_of_lt (by omega)
theorem i64_and (a b : Nat) (ha : a < 9223372036854775808) (hb : b < 9223372036854775808) : bits .and .i64 (a : Int) (b : Int) = ((a &&& b : Nat) : Int) := by
  have hx : a &&& b < 2 ^ 63 := Nat.and_lt_two_pow _ (by omega)
  show IntKind.i64.wrap ((BitVec.ofInt 64 (a : Int) &&& BitVec.ofInt 64 (b : Int)).toNat : Int) = _
  rw [BitVec.toNat_and, bv64 ha, bv64 hb]
  exact i64_of (by omega) (by omega)
theorem i64_xor (a b : Nat) (ha : a < 9223372036854775808) (hb : b < 9223372036854775808) : bits .xor .i64 (a : Int) (b : Int) = ((a ^^^ b : Nat) : Int) := by
  have hx : a ^^^ b < 2 ^ 63 := Nat.xor_lt_two_pow (by omega) (by omega)
  show IntKind.i64.wrap ((BitVec.ofInt 64 (a : Int) ^^^ BitVec.ofInt 64 (b : Int)).toNat : Int) = _
  rw [BitVec.toNat_xor, bv64 ha, bv64 hb]
  exact i64_of (by omega) (by omega)
theorem i64_or (a b : Nat) (ha : a < 9223372036854775808) (hb : b < 9223372036854775808) : bits .or .i64 (a : Int) (b : Int) = ((a ||| b : Nat) : Int) := by
  have hx : a ||| b < 2 ^ 63 := Nat.or_lt_two_pow (by omega) (by omega)
  show IntKind.i64.wrap ((BitVec.ofInt 64 (a : Int) ||| BitVec.ofInt 64 (b : Int)).toNat : Int) = _
  rw [BitVec.toNat_or, bv64 ha, bv64 hb]
  exact i64_of (by omega) (by omega)

theorem ucast {k : Int} (h : 0 ≤ k) (h2 : k < 18446744073709551616) : IntKind.u64.wrap k = k := by rw [IntKind.wrap_u64]; omega
theorem i64_andNot (a b : Nat) (ha : a < 9223372036854775808) (hb : b < 9223372036854775808) : bits .andNot .i64 (a : Int) (b : Int) = ((a ^^^ (a &&& b) : Nat) : Int) := by
  have e : BitVec.ofInt 64 (a : Int) &&& ~~~ BitVec.ofInt 64 (b : Int) = BitVec.ofInt 64 (a : Int) ^^^ (BitVec.ofInt 64 (a : Int) &&& BitVec.ofInt 64 (b : Int)) := by
    refine BitVec.eq_of_getLsbD_eq fun i hi => ?_
    simp only [BitVec.getLsbD_and, BitVec.getLsbD_not, BitVec.getLsbD_xor, hi, decide_true, Bool.true_and]
    cases (BitVec.ofInt 64 (a : Int)).getLsbD i <;> cases (BitVec.ofInt 64 (b : Int)).getLsbD i <;> rfl
  have hx : a &&& b < 2 ^ 63 := Nat.and_lt_two_pow _ (by omega)
  have hx' : a ^^^ (a &&& b) < 2 ^ 63 := Nat.xor_lt_two_pow (by omega) hx
  show IntKind.i64.wrap ((BitVec.ofInt 64 (a : Int) &&& ~~~ BitVec.ofInt 64 (b : Int)).toNat : Int) = _
  rw [e, BitVec.toNat_xor, BitVec.toNat_and, bv64 ha, bv64 hb]
  exact i64_of (by omega) (by omega)

theorem pw_bd (n : Nat) (h : n ≤ 16) : (1:Int) ≤ 2 ^ n ∧ (2:Int) ^ n ≤ 65536 := by
  have h1 : 2 ^ n ≤ 2 ^ 16 := Nat.pow_le_pow_right (by decide) h
  have h2 : 0 < 2 ^ n := Nat.two_pow_pos n
  have e : ((2 ^ n : Nat) : Int) = (2:Int) ^ n := by simp
  rw [← e]; omega
theorem pw_cast (n : Nat) : ((2 ^ n : Nat) : Int) = (2:Int) ^ n := by simp
theorem pw_nat (n : Nat) (h : n ≤ 16) : 1 ≤ 2 ^ n ∧ 2 ^ n ≤ 65536 := ⟨Nat.two_pow_pos n, Nat.pow_le_pow_right (by decide) h⟩
theorem wrap_in {x : Int} (h : -9223372036854775808 ≤ x) (h2 : x < 9223372036854775808) : wrap64 x = x := by unfold wrap64; omega
theorem wrap_pw (n : Nat) (h : n ≤ 16) : wrap64 (2 ^ n) = 2 ^ n := by have := pw_bd n h; exact wrap_in (by omega) (by omega)

theorem bit_and1 (x n : Nat) (h : x < 65536) : bits .and .i64 ((x:Int) / 2 ^ n) 1 = ((x.testBit n).toNat : Int) := by
  have hd : (x:Int) / 2 ^ n = ((x / 2 ^ n : Nat) : Int) := by rw [← pw_cast]; exact (Int.natCast_ediv x (2^n)).symm
  have hl : x / 2 ^ n ≤ x := Nat.div_le_self _ _
  rw [hd, show (1:Int) = ((1:Nat):Int) from rfl, i64_and _ _ (by omega) (by omega), Nat.and_one_is_mod]
  congr 1
  rw [Nat.testBit_eq_decide_div_mod_eq]
  have : x / 2 ^ n % 2 = 0 ∨ x / 2 ^ n % 2 = 1 := by omega
  rcases this with e | e <;> simp [e]
theorem bit_and1' (x n : Nat) (h : x < 65536) : (bits .and .i64 ((x:Int) / 2 ^ n) 1 == 1) = x.testBit n := by
  rw [bit_and1 x n h]; cases x.testBit n <;> rfl

/-- A row of numbers, as ints. -/
def nats (hs : List Nat) : List Int := hs.map fun (x : Nat) => (x : Int)
theorem nats_length (hs : List Nat) : (nats hs).length = hs.length := by simp [nats]
theorem nats_getD (hs : List Nat) (k : Nat) : (nats hs).getD k 0 = ((hs.getD k 0 : Nat) : Int) := by
  simp only [nats, List.getD_eq_getElem?_getD, List.getElem?_map]
  cases hs[k]? <;> rfl
abbrev Nats (w : World) (v : Value) (hs : List Nat) : Prop := Ints w v (nats hs)
theorem Nats.open {w : World} {v : Value} {hs : List Nat} (h : Nats w v hs) :
    ∃ ao cap, v = .slice ao hs.length cap ∧ hs.length ≤ cap ∧ hs.length ≤ 17592186044416 ∧
      (∀ k, k < hs.length → ∃ b o, ao = some ⟨b, o, none⟩ ∧ w.cell? ⟨b, o + k, none⟩ = some (.int .i64 (hs.getD k 0 : Nat))) := by
  obtain ⟨ao, cap, hv, h1, h2, h3⟩ := Ints.open h
  rw [nats_length] at *
  exact ⟨ao, cap, hv, h1, h2, fun k hk => by obtain ⟨b, o, e, hc⟩ := h3 k hk; rw [nats_getD] at hc; exact ⟨b, o, e, hc⟩⟩
theorem natD_mem {hs : List Nat} {k : Nat} (h : k < hs.length) : hs.getD k 0 ∈ hs := by simp [h]
theorem mk_cells (c : Nat) : (madeCells (Value.int .i64 0).cells (c * 1)) = (ints (List.replicate c 0)).toArray := by
  have := toList_madeCells_one (Value.int .i64 0) c
  simp only [Value.cells, Nat.mul_one]
  rw [← Array.toArray_toList (xs := madeCells #[Value.int .i64 0] c), this]
  simp [ints]
theorem run_make22 (p n : Nat) (hp : p ≤ n) (hn : n ≤ 100000) (W : World) : (Instr.makeSlice 22 (.int .i64 p) (.int .i64 n)).run Tryd.prog W = .ok (.slice (some ⟨W.heap.size, 0, none⟩) p n) (W.alloc (.cells (ints (List.replicate n 0)).toArray 3)) := by
  obtain ⟨i3, hi3, hz0, hz1, hz2⟩ := info_parts Tryd.info3
  have h := run_make (P := Tryd.prog) W 22 3 i3 (.int .i64 0) Tryd.underlying22 hi3 hz0 .i64 .i64 (p : Int) (n : Int) (by omega) (by omega) (by rw [hz2]; omega) (by omega)
  rw [h, hz1]
  simp only [Int.toNat_natCast]
  rw [mk_cells]

/-- A block of ints that a call has made. -/
def NatBlk (w : World) (g : Nat) (hs : List Nat) : Prop := w.heap[g]? = some (.cells (ints (nats hs)).toArray 3 (0, 0))
theorem heap_set_at {w : World} {b k : Nat} {cs : Array Value} {t : TypeId} {fr : Nat × Nat} (h : w.heap[b]? = some (.cells cs t fr)) (v : Value) :
    (w.setCell ⟨b, k, none⟩ v).heap[b]? = some (.cells (cs.setIfInBounds k v) t fr) := by
  simp [World.setCell, Array.getElem?_modify, h]
theorem NatBlk.set {w : World} {g : Nat} {hs : List Nat} (h : NatBlk w g hs) (k x : Nat) : NatBlk (w.setCell ⟨g, k, none⟩ (.int .i64 x)) g (hs.set k x) := by
  unfold NatBlk; rw [heap_set_at h]; simp [ints, nats, List.map_set]
theorem NatBlk.below {w w' : World} {g : Nat} {hs : List Nat} (h : NatBlk w g hs) (hb : Below w.heap.size w w') : NatBlk w' g hs := (hb.block g (lt_of_block h)).trans h
theorem NatBlk.cell {w : World} {g : Nat} {hs : List Nat} (h : NatBlk w g hs) {k : Nat} (hk : k < hs.length) : w.cell? ⟨g, k, none⟩ = some (.int .i64 (hs.getD k 0 : Nat)) ∧ w.frozen? ⟨g, k, none⟩ = false := by
  constructor
  · simp only [World.cell?, show w.heap[g]? = _ from h]
    simp [ints, nats, hk]
  · simp [World.frozen?, show w.heap[g]? = _ from h]
theorem NatBlk.nats {w : World} {g : Nat} {hs : List Nat} (h : NatBlk w g hs) (hl : hs.length ≤ 1000000) (hb : ∀ x ∈ hs, x < 65536) : Nats w (.slice (some ⟨g, 0, none⟩) hs.length hs.length) hs := by
  refine ⟨⟨_, hs.length, by rw [ints_length, nats_length], by rw [ints_length, nats_length]; exact Nat.le_refl _, by rw [ints_length, nats_length]; omega, by unfold maxLen; omega, .inr ⟨g, 0, rfl, lt_of_block h, fun j x hx => ?_⟩⟩, fun x hx => ?_⟩
  · have hj := (List.getElem?_eq_some_iff.1 hx).1
    rw [ints_length, nats_length] at hj
    rw [Nat.zero_add, (h.cell hj).1, ← hx]
    simp [ints, Go.Proofs.YtdnhfnegnjdeoaaDoor.nats, hj]
  · obtain ⟨y, hy, rfl⟩ := List.mem_map.1 hx
    have := hb y hy
    unfold I64; omega
theorem NatBlk.start (w : World) (hs : List Nat) : NatBlk (w.alloc (.cells (ints (Go.Proofs.YtdnhfnegnjdeoaaDoor.nats hs)).toArray 3)) w.heap.size hs := heap_alloc_new w _


/-- a without the elements of b. -/
def sub (a b : Nat) : Nat := a ^^^ (a &&& b)
theorem sub_bit (a b j : Nat) : (sub a b).testBit j = (a.testBit j && !b.testBit j) := by
  unfold sub
  rw [Nat.testBit_xor, Nat.testBit_and]
  cases a.testBit j <;> cases b.testBit j <;> rfl
theorem sub_le (a b n : Nat) (h : a < 2 ^ n) : sub a b < 2 ^ n :=
  Nat.xor_lt_two_pow h (Nat.lt_of_le_of_lt Nat.and_le_left h)
end Go.Proofs.YtdnhfnegnjdeoaaDoor
