/- Graphs as sets of neighbours: pure facts. -/
import Derived.Test.YtdnhfnegnjdeoaaDoorBi
import Derived.Test.YtdnhfnegnjdeoaaDoorOc
namespace Go.Proofs.YtdnhfnegnjdeoaaDoor
open Go.RowKit

/-- Bit i of an int. -/
def ibit (z : Int) (i : Nat) : Bool := decide (z / 2 ^ i % 2 = 1)
theorem ibit_nat (x i : Nat) : ibit (x : Int) i = x.testBit i := by
  unfold ibit
  rw [Nat.testBit_eq_decide_div_mod_eq, ← pw_cast]
  have e : (x:Int) / ((2 ^ i : Nat) : Int) % 2 = ((x / 2 ^ i % 2 : Nat) : Int) := by
    rw [Int.natCast_emod, Int.natCast_ediv]; rfl
  rw [e]
  generalize x / 2 ^ i % 2 = y
  by_cases h : y = 1
  · rw [decide_eq_true h, decide_eq_true (by omega)]
  · rw [decide_eq_false h, decide_eq_false (by omega)]
theorem int_and1 (y : Int) : bits .and .i64 y 1 = y % 2 := by
  show IntKind.i64.wrap ((BitVec.ofInt 64 y &&& BitVec.ofInt 64 1).toNat : Int) = _
  have h1 : (BitVec.ofInt 64 (1:Int)).toNat = 1 := by decide
  rw [BitVec.toNat_and, h1, Nat.and_one_is_mod, BitVec.toNat_ofInt, i64_of (by omega) (by omega)]
  omega
theorem int_bit (z : Int) (i : Nat) : bits .and .i64 (z / 2 ^ i) 1 = ((ibit z i).toNat : Int) := by
  rw [int_and1]
  unfold ibit
  generalize z / 2 ^ i = y
  have : y % 2 = 0 ∨ y % 2 = 1 := by omega
  rcases this with e | e <;> simp [e]
theorem int_bit1 (z : Int) (i : Nat) : (bits .and .i64 (z / 2 ^ i) 1 == 1) = ibit z i := by
  rw [int_bit]; cases ibit z i <;> rfl

def setB (x : Int) (n : Nat) : Bool := decide (0 ≤ x ∧ x < 2 ^ n)
/-- Whether a slice is a graph. -/
def graphB (xs : List Int) : Bool := decide (1 ≤ xs.length ∧ xs.length ≤ 16 ∧ (∀ i, i < xs.length → setB (xs.getD i 0) xs.length = true ∧ ibit (xs.getD i 0) i = false) ∧
  ∀ i, i < xs.length → ∀ j, j < xs.length → ibit (xs.getD i 0) j = ibit (xs.getD j 0) i)
theorem graphB_len {xs : List Int} (h : xs.length < 1 ∨ 16 < xs.length) : graphB xs = false := decide_eq_false fun ⟨a, b, _⟩ => by omega
theorem graphB_set {xs : List Int} {i : Nat} (hi : i < xs.length) (h : setB (xs.getD i 0) xs.length = false) : graphB xs = false :=
  decide_eq_false fun ⟨_, _, c, _⟩ => by rw [(c i hi).1] at h; cases h
theorem graphB_irr {xs : List Int} {i : Nat} (hi : i < xs.length) (h : ibit (xs.getD i 0) i = true) : graphB xs = false :=
  decide_eq_false fun ⟨_, _, c, _⟩ => by rw [(c i hi).2] at h; cases h
theorem graphB_sym {xs : List Int} {i j : Nat} (hi : i < xs.length) (hj : j < xs.length) (h : ibit (xs.getD i 0) j ≠ ibit (xs.getD j 0) i) : graphB xs = false :=
  decide_eq_false fun ⟨_, _, _, c⟩ => h (c i hi j hj)
theorem graphB_good {xs : List Int} (h1 : 1 ≤ xs.length) (h2 : xs.length ≤ 16) (h : ∀ i, i < xs.length → setB (xs.getD i 0) xs.length = true ∧ ibit (xs.getD i 0) i = false)
    (h' : ∀ i, i < xs.length → ∀ j, j < xs.length → ibit (xs.getD i 0) j = ibit (xs.getD j 0) i) : graphB xs = true := decide_eq_true ⟨h1, h2, h, h'⟩
/-- It is enough that each neighbour of i has i as neighbour. -/
theorem graphB_good1 {xs : List Int} (h1 : 1 ≤ xs.length) (h2 : xs.length ≤ 16) (h : ∀ i, i < xs.length → setB (xs.getD i 0) xs.length = true ∧ ibit (xs.getD i 0) i = false)
    (h' : ∀ i, i < xs.length → ∀ j, j < xs.length → ibit (xs.getD i 0) j = true → ibit (xs.getD j 0) i = true) : graphB xs = true := by
  refine graphB_good h1 h2 h fun i hi j hj => ?_
  have a := h' i hi j hj
  have b := h' j hj i hi
  cases e : ibit (xs.getD i 0) j <;> cases f : ibit (xs.getD j 0) i
  · rfl
  · rw [b f] at e; cases e
  · rw [a e] at f; cases f
  · rfl
theorem graphB_take (xs : List Int) : graphB (xs.take 20) = graphB xs := by
  by_cases h : xs.length ≤ 20
  · rw [List.take_of_length_le h]
  · rw [graphB_len (.inr (by rw [List.length_take]; omega)), graphB_len (.inr (by omega))]

/-- A graph of n nodes. -/
structure Gr (n : Nat) (bs : List Nat) : Prop where
  len : bs.length = n
  pos : 1 ≤ n
  le : n ≤ 16
  lt : ∀ x ∈ bs, x < 2 ^ n
  irr : ∀ i, i < n → (bs.getD i 0).testBit i = false
  sym : ∀ i j, i < n → j < n → (bs.getD i 0).testBit j = (bs.getD j 0).testBit i
theorem Gr.get {n : Nat} {bs : List Nat} (h : Gr n bs) (k : Nat) : bs.getD k 0 < 2 ^ n := by
  by_cases hk : k < bs.length
  · exact h.lt _ (natD_mem hk)
  · have : bs.getD k 0 = 0 := by simp [show bs.length ≤ k by omega]
    rw [this]; exact Nat.two_pow_pos n
theorem Gr.get16 {n : Nat} {bs : List Nat} (h : Gr n bs) (k : Nat) : bs.getD k 0 < 65536 := Nat.lt_of_lt_of_le (h.get k) (pw_nat n h.le).2
theorem Gr.bit {n : Nat} {bs : List Nat} (h : Gr n bs) (k : Nat) {j : Nat} (hj : n ≤ j) : (bs.getD k 0).testBit j = false :=
  Nat.testBit_lt_two_pow (Nat.lt_of_lt_of_le (h.get k) (Nat.pow_le_pow_right (by decide) hj))
theorem Gr.open {w : World} {v : Value} {n : Nat} {bs : List Nat} (hm : Gr n bs) (h : Nats w v bs) :
    ∃ ao cap, v = .slice ao n cap ∧ n ≤ cap ∧ (∀ k, k < n → ∃ b o, ao = some ⟨b, o, none⟩ ∧ w.cell? ⟨b, o + k, none⟩ = some (.int .i64 (bs.getD k 0 : Nat))) := by
  obtain ⟨ao, cap, hv, h1, _, h3⟩ := Nats.open h
  rw [hm.len] at hv h1 h3
  exact ⟨ao, cap, hv, h1, h3⟩
theorem graphB_of {xs : List Int} (h : graphB xs = true) : ∃ bs, xs = nats bs ∧ Gr xs.length bs := by
  obtain ⟨h1, h2, h3, h4⟩ := of_decide_eq_true h
  have e : xs = nats (xs.map Int.toNat) := by
    unfold nats
    rw [List.map_map]
    refine (List.map_id xs).symm.trans (List.map_congr_left fun x hx => ?_)
    obtain ⟨k, hk, rfl⟩ := mem_getD hx
    have := of_decide_eq_true (h3 k hk).1
    show xs.getD k 0 = (((xs.getD k 0).toNat : Nat) : Int)
    omega
  have hl : (xs.map Int.toNat).length = xs.length := by simp
  have hg : ∀ k, xs.getD k 0 = (((xs.map Int.toNat).getD k 0 : Nat) : Int) := fun k => by
    have := nats_getD (xs.map Int.toNat) k
    rw [← e] at this; exact this
  generalize xs.map Int.toNat = bs at *
  refine ⟨bs, e, hl, h1, h2, ?_, ?_, ?_⟩
  · intro x hx
    obtain ⟨k, hk, rfl⟩ := List.mem_iff_getElem.1 hx
    have := of_decide_eq_true (h3 k (by omega)).1
    rw [hg k, ← pw_cast] at this
    have e2 : bs.getD k 0 = bs[k] := by simp [hk]
    rw [e2] at this; omega
  · intro i hi
    have := (h3 i hi).2
    rw [hg i, ibit_nat] at this; exact this
  · intro i j hi hj
    have := h4 i hi j hj
    rw [hg i, hg j, ibit_nat, ibit_nat] at this; exact this
theorem graphB_mk {n : Nat} {bs : List Nat} (h : Gr n bs) : graphB (nats bs) = true := by
  have hl : (nats bs).length = n := by rw [nats_length, h.len]
  refine graphB_good (by rw [hl]; exact h.pos) (by rw [hl]; exact h.le) (fun i hi => ?_) (fun i hi j hj => ?_)
  · rw [hl] at hi ⊢
    rw [nats_getD, ibit_nat]
    refine ⟨decide_eq_true ⟨by omega, ?_⟩, h.irr i hi⟩
    have := h.get i
    rw [← pw_cast]; omega
  · rw [hl] at hi hj
    rw [nats_getD, nats_getD, ibit_nat, ibit_nat]
    exact h.sym i j hi hj

/-- Two sets of numbers below n with the same bits below n. -/
theorem bits_ext {n x y : Nat} (hx : x < 2 ^ n) (hy : y < 2 ^ n) (h : ∀ j, j < n → x.testBit j = y.testBit j) : x = y := by
  refine Nat.eq_of_testBit_eq fun j => ?_
  by_cases hj : j < n
  · exact h j hj
  · rw [Nat.testBit_lt_two_pow (Nat.lt_of_lt_of_le hx (Nat.pow_le_pow_right (by decide) (show n ≤ j by omega))), Nat.testBit_lt_two_pow (Nat.lt_of_lt_of_le hy (Nat.pow_le_pow_right (by decide) (show n ≤ j by omega)))]
theorem pow_bit (i j : Nat) : (2 ^ i).testBit j = decide (i = j) := Nat.testBit_two_pow ..
theorem full_bit (n j : Nat) : (2 ^ n - 1).testBit j = decide (j < n) := Nat.testBit_two_pow_sub_one ..

/-- The graph of all others. -/
def oth (n : Nat) (bs : List Nat) : List Nat := (List.range n).map fun i => sub (2 ^ n - 1) (bs.getD i 0 ||| 2 ^ i)
theorem oth_length (n : Nat) (bs : List Nat) : (oth n bs).length = n := by simp [oth]
theorem oth_get {n : Nat} {bs : List Nat} {i : Nat} (h : i < n) : (oth n bs).getD i 0 = sub (2 ^ n - 1) (bs.getD i 0 ||| 2 ^ i) := by simp [oth, h]
theorem oth_bit {n : Nat} {bs : List Nat} {i j : Nat} (h : i < n) : ((oth n bs).getD i 0).testBit j = (decide (j < n) && !((bs.getD i 0).testBit j || decide (i = j))) := by
  rw [oth_get h, sub_bit, full_bit, Nat.testBit_or, pow_bit]
theorem oth_gr {n : Nat} {bs : List Nat} (h : Gr n bs) : Gr n (oth n bs) := by
  have hp := Nat.two_pow_pos n
  refine ⟨oth_length n bs, h.pos, h.le, fun x hx => ?_, fun i hi => ?_, fun i j hi hj => ?_⟩
  · obtain ⟨i, _, rfl⟩ := List.mem_map.1 hx
    exact sub_le _ _ _ (by omega)
  · rw [oth_bit hi]; simp
  · rw [oth_bit hi, oth_bit hj, h.sym i j hi hj]
    by_cases e : i = j
    · subst e; rfl
    · simp [hi, hj, e, show ¬ j = i from fun x => e x.symm]
theorem oth_oth {n : Nat} {bs : List Nat} (h : Gr n bs) : oth n (oth n bs) = bs := by
  refine List.ext_getElem (by rw [oth_length, h.len]) fun i h1 h2 => ?_
  have hi : i < n := by rw [oth_length] at h1; exact h1
  have e1 : (oth n (oth n bs))[i] = (oth n (oth n bs)).getD i 0 := by simp [h1]
  have e2 : bs[i] = bs.getD i 0 := by simp [h2]
  rw [e1, e2]
  refine bits_ext ((oth_gr (oth_gr h)).get i) (h.get i) fun j hj => ?_
  rw [oth_bit hi, oth_bit hi]
  by_cases e : i = j
  · subst e; rw [h.irr i hi]; simp
  · cases (bs.getD i 0).testBit j <;> simp [hj, e]

theorem pop3 {n a b c : Nat} (h : ∀ j, j < n → (a.testBit j).toNat + (b.testBit j).toNat + (c.testBit j).toNat = 1) : pop n a + pop n b + pop n c = n := by
  induction n with
  | zero => rfl
  | succ n ih =>
    have h1 := ih fun j hj => h j (by omega)
    have h2 := h n (by omega)
    simp only [pop]
    omega
theorem pop_pow (n i : Nat) : pop n (2 ^ i) = if i < n then 1 else 0 := by
  induction n with
  | zero => rfl
  | succ n ih =>
    simp only [pop, ih, pow_bit]
    by_cases h : i < n
    · have : ¬ i = n := by omega
      simp [h, this, show i < n + 1 by omega]
    · by_cases e : i = n
      · subst e; simp
      · simp [h, e, show ¬ i < n + 1 by omega]
theorem pop_zero {n x : Nat} (hx : x < 2 ^ n) (h : pop n x = 0) : x = 0 := by
  refine bits_ext hx (Nat.two_pow_pos n) fun j hj => ?_
  rw [Nat.zero_testBit]
  clear hx
  induction n with
  | zero => omega
  | succ n ih =>
    simp only [pop] at h
    by_cases e : j = n
    · subst e; cases hb : x.testBit j
      · rfl
      · rw [hb] at h; simp at h
    · exact ih (by omega) (by omega)
theorem pop_of_zero (n : Nat) : pop n 0 = 0 := by
  induction n with
  | zero => rfl
  | succ n ih => simp [pop, ih]
theorem Gr.pop {n : Nat} {bs : List Nat} (h : Gr n bs) (x : Nat) (hx : x < 2 ^ n) : Go.Proofs.YtdnhfnegnjdeoaaDoor.pop 16 x = Go.Proofs.YtdnhfnegnjdeoaaDoor.pop n x := pop16 n x h.le hx
theorem and_lt {n : Nat} {a b : Nat} (ha : a < 2 ^ n) : a &&& b < 2 ^ n := Nat.lt_of_le_of_lt Nat.and_le_left ha
/-- How many others a node has. -/
theorem oth_pop {n : Nat} {bs : List Nat} (h : Gr n bs) {i : Nat} (hi : i < n) : Go.Proofs.YtdnhfnegnjdeoaaDoor.pop n ((oth n bs).getD i 0) + Go.Proofs.YtdnhfnegnjdeoaaDoor.pop n (bs.getD i 0) + 1 = n := by
  have := pop3 (n := n) (a := (oth n bs).getD i 0) (b := bs.getD i 0) (c := 2 ^ i) fun j hj => by
    rw [oth_bit hi, pow_bit]
    by_cases e : i = j
    · subst e; rw [h.irr i hi]; simp [hi]
    · cases (bs.getD i 0).testBit j <;> simp [hj, e]
  rw [pop_pow, if_pos hi] at this
  exact this
end Go.Proofs.YtdnhfnegnjdeoaaDoor
