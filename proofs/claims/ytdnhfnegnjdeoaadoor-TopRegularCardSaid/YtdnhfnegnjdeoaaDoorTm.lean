/- TopRegular: finite facts -/
import Derived.Test.YtdnhfnegnjdeoaaDoorTt
import Derived.Test.YtdnhfnegnjdeoaaDoorTr
import Derived.Test.YtdnhfnegnjdeoaaDoorFm
namespace Go.Proofs.YtdnhfnegnjdeoaaDoor
open Go.RowKit

def stepG (X g : List Nat) (i j : Nat) : List Nat := if (X.getD i 0).testBit j && decide (i ≠ j) then (g.set i (g.getD i 0 ||| 2 ^ j)).set j (g.getD j 0 ||| 2 ^ i) else g
def gJ (X : List Nat) (i : Nat) (g : List Nat) : Nat → List Nat
  | 0 => g
  | d+1 => stepG X (gJ X i g d) i d
def gI (X : List Nat) : Nat → List Nat
  | 0 => List.replicate 16 0
  | i+1 => gJ X i (gI X i) 16
theorem stepG_length (X g : List Nat) (i j : Nat) : (stepG X g i j).length = g.length := by unfold stepG; split <;> simp
theorem gJ_length (X : List Nat) (i : Nat) (g : List Nat) (d : Nat) : (gJ X i g d).length = g.length := by
  induction d with
  | zero => rfl
  | succ d ih => rw [gJ, stepG_length, ih]
theorem gI_length (X : List Nat) (i : Nat) : (gI X i).length = 16 := by
  induction i with
  | zero => simp [gI]
  | succ i ih => rw [gI, gJ_length, ih]
theorem set_lt {g : List Nat} {B x k : Nat} (h : ∀ y ∈ g, y < B) (hx : x < B) : ∀ y ∈ g.set k x, y < B := fun y hy => (List.mem_or_eq_of_mem_set hy).elim (h y) fun e => e ▸ hx
theorem all_get {g : List Nat} {B : Nat} (hB : 0 < B) (h : ∀ y ∈ g, y < B) (k : Nat) : g.getD k 0 < B := by
  by_cases hk : k < g.length
  · exact h _ (natD_mem hk)
  · rw [show g.getD k 0 = 0 by simp [show g.length ≤ k by omega]]; exact hB
theorem stepG_lt {X g : List Nat} {i j : Nat} (hi : i < 16) (hj : j < 16) (h : ∀ y ∈ g, y < 65536) : ∀ y ∈ stepG X g i j, y < 65536 := by
  have h1 : 2 ^ j < 2 ^ 16 := Nat.pow_lt_pow_right (by decide) hj
  have h2 : 2 ^ i < 2 ^ 16 := Nat.pow_lt_pow_right (by decide) hi
  unfold stepG
  split
  · exact set_lt (set_lt h (Nat.or_lt_two_pow (n := 16) (all_get (by decide) h i) h1)) (Nat.or_lt_two_pow (n := 16) (all_get (by decide) h j) h2)
  · exact h
theorem gJ_lt {X : List Nat} {i : Nat} {g : List Nat} (hi : i < 16) (h : ∀ y ∈ g, y < 65536) {d : Nat} (hd : d ≤ 16) : ∀ y ∈ gJ X i g d, y < 65536 := by
  induction d with
  | zero => exact h
  | succ d ih => rw [gJ]; exact stepG_lt hi (by omega) (ih (by omega))
theorem gI_lt (X : List Nat) {i : Nat} (hi : i ≤ 16) : ∀ y ∈ gI X i, y < 65536 := by
  induction i with
  | zero => intro y hy; rw [gI] at hy; have := List.eq_of_mem_replicate hy; omega
  | succ i ih => rw [gI]; exact gJ_lt (by omega) (ih (by omega)) (Nat.le_refl _)

def symB (X : List Nat) : Bool := (List.range 16).all fun i => (List.range 16).all fun j => ((X.getD i 0).testBit j == (X.getD j 0).testBit i) && ((X.getD i 0).testBit i == (X.getD 0 0).testBit 0)
theorem symB_of {X : List Nat} (h : ∀ i, i < 16 → ∀ j, j < 16 → (X.getD i 0).testBit j = (X.getD j 0).testBit i ∧ (X.getD i 0).testBit i = (X.getD 0 0).testBit 0) : symB X = true := by
  unfold symB
  refine List.all_eq_true.2 fun i hi => List.all_eq_true.2 fun j hj => ?_
  have := h i (List.mem_range.1 hi) j (List.mem_range.1 hj)
  rw [this.1, this.2]; simp
def P24 : List (List Nat) := [[1, 2, 4, 8], [1, 2, 8, 4], [1, 4, 2, 8], [1, 4, 8, 2], [1, 8, 2, 4], [1, 8, 4, 2], [2, 1, 4, 8], [2, 1, 8, 4], [2, 4, 1, 8], [2, 4, 8, 1], [2, 8, 1, 4], [2, 8, 4, 1], [4, 1, 2, 8], [4, 1, 8, 2], [4, 2, 1, 8], [4, 2, 8, 1], [4, 8, 1, 2], [4, 8, 2, 1], [8, 1, 2, 4], [8, 1, 4, 2], [8, 2, 1, 4], [8, 2, 4, 1], [8, 4, 1, 2], [8, 4, 2, 1]]
def T16 : List (List Nat × List Nat × List Nat × Bool) := [
  ([1, 2, 4, 8], [1, 2, 4, 8], [4382, 8749, 17483, 34951, 4577, 8914, 17588, 34936, 7697, 11554, 19268, 34696, 57617, 53794, 46148, 30856], false),
  ([1, 2, 4, 8], [2, 1, 8, 4], [8748, 4380, 34947, 17475, 8898, 4545, 34872, 17460, 11298, 7185, 33672, 17220, 49698, 49425, 14472, 13380], true),
  ([1, 2, 4, 8], [4, 8, 1, 2], [17482, 34949, 4378, 8741, 17572, 34904, 4513, 8786, 19012, 34184, 6673, 9506, 42052, 22664, 41233, 21026], true),
  ([1, 2, 4, 8], [8, 4, 2, 1], [34950, 17481, 8745, 4374, 34920, 17556, 8850, 4449, 34440, 18756, 10530, 5649, 26760, 37956, 37410, 24849], true),
  ([2, 1, 8, 4], [1, 2, 4, 8], [4576, 8912, 17584, 34928, 4366, 8717, 17419, 34823, 57361, 53282, 45124, 28808, 3601, 3362, 2884, 1928], true),
  ([2, 1, 8, 4], [2, 1, 8, 4], [8914, 4577, 34936, 17588, 8749, 4382, 34951, 17483, 53794, 57617, 30856, 46148, 11554, 7697, 34696, 19268], false),
  ([2, 1, 8, 4], [4, 8, 1, 2], [17588, 34936, 4577, 8914, 17483, 34951, 4382, 8749, 46148, 30856, 57617, 53794, 19268, 34696, 7697, 11554], false),
  ([2, 1, 8, 4], [8, 4, 2, 1], [34936, 17588, 8914, 4577, 34951, 17483, 8749, 4382, 30856, 46148, 53794, 57617, 34696, 19268, 11554, 7697], false),
  ([4, 8, 1, 2], [1, 2, 4, 8], [7696, 11552, 19264, 34688, 57601, 53762, 46084, 30728, 4126, 8237, 16459, 32903, 481, 722, 1204, 2168], true),
  ([4, 8, 1, 2], [2, 1, 8, 4], [11554, 7697, 34696, 19268, 53794, 57617, 30856, 46148, 8749, 4382, 34951, 17483, 8914, 4577, 34936, 17588], false),
  ([4, 8, 1, 2], [4, 8, 1, 2], [19268, 34696, 7697, 11554, 46148, 30856, 57617, 53794, 17483, 34951, 4382, 8749, 17588, 34936, 4577, 8914], false),
  ([4, 8, 1, 2], [8, 4, 2, 1], [34696, 19268, 11554, 7697, 30856, 46148, 53794, 57617, 34951, 17483, 8749, 4382, 34936, 17588, 8914, 4577], false),
  ([8, 4, 2, 1], [1, 2, 4, 8], [57616, 53792, 46144, 30848, 7681, 11522, 19204, 34568, 4321, 8402, 16564, 32888, 286, 557, 1099, 2183], true),
  ([8, 4, 2, 1], [2, 1, 8, 4], [53794, 57617, 30856, 46148, 11554, 7697, 34696, 19268, 8914, 4577, 34936, 17588, 8749, 4382, 34951, 17483], false),
  ([8, 4, 2, 1], [4, 8, 1, 2], [46148, 30856, 57617, 53794, 19268, 34696, 7697, 11554, 17588, 34936, 4577, 8914, 17483, 34951, 4382, 8749], false),
  ([8, 4, 2, 1], [8, 4, 2, 1], [30856, 46148, 53794, 57617, 34696, 19268, 11554, 7697, 34936, 17588, 8914, 4577, 34951, 17483, 8749, 4382], false)]
def prX (a b : List Nat) : List Nat := plantL 16 (timesF a b 4)
theorem p24_mat : ∀ a ∈ P24, a.length = 4 ∧ ∀ x ∈ a, x < 2 ^ 4 := by decide +kernel
theorem p24_all : ((List.range 4).all fun a => (List.range 4).all fun b => (List.range 4).all fun c => (List.range 4).all fun d => !(regB [(a : Nat), (b : Nat), (c : Nat), (d : Nat)]) || P24.contains (pwL [(a : Nat), (b : Nat), (c : Nat), (d : Nat)])) = true := by decide +kernel
theorem p24_reg (a : Nat) (ha : a < 4) (b : Nat) (hb : b < 4) (c : Nat) (hc : c < 4) (d : Nat) (hd : d < 4) (h : regB [(a : Nat), (b : Nat), (c : Nat), (d : Nat)] = true) : pwL [(a : Nat), (b : Nat), (c : Nat), (d : Nat)] ∈ P24 := by
  have := List.all_eq_true.1 (List.all_eq_true.1 (List.all_eq_true.1 (List.all_eq_true.1 p24_all a (List.mem_range.2 ha)) b (List.mem_range.2 hb)) c (List.mem_range.2 hc)) d (List.mem_range.2 hd)
  rw [h] at this
  exact List.contains_iff_mem.1 this
theorem sym_t16 : ∀ a ∈ P24, ∀ b ∈ P24, symB (prX a b) = true → (T16.any fun t => t.1 == a && t.2.1 == b) = true := by decide +kernel
theorem t16_g : ∀ t ∈ T16, gI (prX t.1 t.2.1) 16 = t.2.2.1 := by decide +kernel
theorem t16_gr : ∀ t ∈ T16, t.2.2.1.length = 16 ∧ (∀ x ∈ t.2.2.1, x < 2 ^ 16) ∧ (∀ i, i < 16 → (t.2.2.1.getD i 0).testBit i = false ∧ ∀ j, j < 16 → (t.2.2.1.getD i 0).testBit j = (t.2.2.1.getD j 0).testBit i) := by decide +kernel
theorem t16_d : ∀ t ∈ T16, ((prX t.1 t.2.1).getD 0 0).testBit 0 = t.2.2.2 := by decide +kernel
theorem t16_r : ∀ t ∈ T16, t.2.2.2 = false → readP 16 t.2.2.1 = some (6, 2, 2) := by decide +kernel
theorem prX_good {a b : List Nat} (ha : a ∈ P24) (hb : b ∈ P24) (h : symB (prX a b) = true) : Gr 16 (gI (prX a b) 16) ∧ (((prX a b).getD 0 0).testBit 0 = false → readP 16 (gI (prX a b) 16) = some (6, 2, 2)) := by
  obtain ⟨t, ht, he⟩ := List.any_eq_true.1 (sym_t16 a ha b hb h)
  obtain ⟨rfl, rfl⟩ : t.1 = a ∧ t.2.1 = b := by simpa using he
  have hg := t16_gr t ht
  rw [t16_g t ht, t16_d t ht]
  exact ⟨gr_of ⟨hg.1, by decide, by decide, hg.2.1, hg.2.2⟩, t16_r t ht⟩
theorem reg_p24 {xs : List Int} (h : regB xs = true) : pwL xs ∈ P24 := by
  obtain ⟨hl, hg⟩ := of_decide_eq_true h
  match xs, hl with
  | [a, b, c, d], _ =>
    have h0 := (hg 0 (by simp)).1
    have h1 := (hg 1 (by simp)).1
    have h2 := (hg 2 (by simp)).1
    have h3 := (hg 3 (by simp)).1
    simp only [List.getD_cons_zero, List.getD_cons_succ] at h0 h1 h2 h3
    obtain ⟨a, rfl⟩ := Int.eq_ofNat_of_zero_le h0.1
    obtain ⟨b, rfl⟩ := Int.eq_ofNat_of_zero_le h1.1
    obtain ⟨c, rfl⟩ := Int.eq_ofNat_of_zero_le h2.1
    obtain ⟨d, rfl⟩ := Int.eq_ofNat_of_zero_le h3.1
    exact p24_reg a (by omega) b (by omega) c (by omega) d (by omega) h
theorem mat_p24 {a : List Nat} (h : a ∈ P24) : Mat 4 a := ⟨(p24_mat a h).1, by decide, by decide, (p24_mat a h).2⟩
theorem prX_length (a b : List Nat) : (prX a b).length = 16 := plant_length _ _
theorem prX_lt (a b : List Nat) (k : Nat) : (prX a b).getD k 0 < 65536 := all_get (by decide) (fun y hy => by obtain ⟨i, _, rfl⟩ := List.mem_map.1 hy; exact mk_lt 16 _) k
theorem stepG_yes {X g : List Nat} {i j : Nat} (h : (X.getD i 0).testBit j = true) (hij : i ≠ j) : stepG X g i j = (g.set i (g.getD i 0 ||| 2 ^ j)).set j (g.getD j 0 ||| 2 ^ i) := by unfold stepG; rw [if_pos (by rw [h]; simp [hij])]
theorem stepG_no {X g : List Nat} {i j : Nat} (h : (X.getD i 0).testBit j = false ∨ i = j) : stepG X g i j = g := by 
  unfold stepG
  rcases h with h | h
  · rw [if_neg (by rw [h]; simp)]
  · rw [if_neg (by simp [h])]
theorem low_and (x : Nat) (h : x < 65536) : bits .and .i64 (x:Int) 1 = ((x.testBit 0).toNat : Int) := by
  have := bit_and1 x 0 h
  rwa [show (x:Int) / 2 ^ 0 = (x:Int) by simp] at this
end Go.Proofs.YtdnhfnegnjdeoaaDoor
