/- Sums over nodes; a graph without a node that was made alone: its odd threes, its edges, its numbers -/
import Derived.Test.YtdnhfnegnjdeoaaDoorRe
import Derived.Test.YtdnhfnegnjdeoaaDoorSm
import Derived.Test.YtdnhfnegnjdeoaaDoorDl
namespace Go.Proofs.YtdnhfnegnjdeoaaDoor
open Go.RowKit

def sm (f : Nat → Int) : Nat → Int
  | 0 => 0
  | n + 1 => sm f n + f n
theorem sm_congr {f g : Nat → Int} : ∀ (n : Nat), (∀ i, i < n → f i = g i) → sm f n = sm g n
  | 0, _ => rfl
  | n + 1, h => by rw [sm, sm, sm_congr n fun i hi => h i (by omega), h n (by omega)]
theorem sm_add (f g : Nat → Int) : ∀ n, sm (fun i => f i + g i) n = sm f n + sm g n
  | 0 => rfl
  | n + 1 => by rw [sm, sm, sm, sm_add f g n]; omega
theorem sm_sub (f g : Nat → Int) : ∀ n, sm (fun i => f i - g i) n = sm f n - sm g n
  | 0 => rfl
  | n + 1 => by rw [sm, sm, sm, sm_sub f g n]; omega
theorem sm_one : ∀ n, sm (fun _ => 1) n = n
  | 0 => rfl
  | n + 1 => by rw [sm, sm_one n]; omega
theorem sm_zero : ∀ n, sm (fun _ => 0) n = 0
  | 0 => rfl
  | n + 1 => by rw [sm, sm_zero n]; rfl
/-- The numbers but v. -/
def sk (v i : Nat) : Nat := if i < v then i else i + 1
theorem sk_ne (v i : Nat) : sk v i ≠ v := by unfold sk; split <;> omega
theorem sk_lt {v i m : Nat} (hi : i < m) : sk v i < m + 1 := by unfold sk; split <;> omega
theorem sk_inj {v i j : Nat} (h : sk v i = sk v j) : i = j := by unfold sk at h; split at h <;> split at h <;> omega
theorem sk_lo {v i : Nat} (h : i < v) : sk v i = i := if_pos h
theorem sk_hi {v i : Nat} (h : v ≤ i) : sk v i = i + 1 := if_neg (by omega)
theorem sm_split (f : Nat → Int) (v : Nat) : ∀ m, v ≤ m → sm f (m + 1) = f v + sm (fun i => f (sk v i)) m
  | 0, h => by
    obtain rfl : v = 0 := by omega
    simp [sm]
  | m + 1, h => by
    by_cases e : v = m + 1
    · subst e
      rw [sm, sm_congr (f := fun i => f (sk (m + 1) i)) (g := f) (m + 1) fun i hi => by rw [sk_lo hi]]
      omega
    · rw [sm, sm_split f v m (by omega), sm, sk_hi (by omega)]
      omega
def P2 (g : Nat → Nat → Int) (n : Nat) : Int := sm (fun i => sm (fun j => g i j) i) n
def P3 (f : Nat → Nat → Nat → Int) (n : Nat) : Int := sm (fun i => P2 (f i) i) n
theorem P2_succ (g : Nat → Nat → Int) (n : Nat) : P2 g (n + 1) = P2 g n + sm (fun j => g n j) n := rfl
theorem P3_succ (f : Nat → Nat → Nat → Int) (n : Nat) : P3 f (n + 1) = P3 f n + P2 (f n) n := rfl
theorem P2_congr {f g : Nat → Nat → Int} (n : Nat) (h : ∀ i j, i < n → j < i → f i j = g i j) : P2 f n = P2 g n :=
  sm_congr n fun i hi => sm_congr i fun j hj => h i j hi hj
theorem P3_congr {f g : Nat → Nat → Nat → Int} (n : Nat) (h : ∀ i j k, i < n → j < i → k < j → f i j k = g i j k) : P3 f n = P3 g n :=
  sm_congr n fun i hi => P2_congr i fun j k hj hk => h i j k hi hj hk
theorem P2_split (g : Nat → Nat → Int) (v : Nat) (hs : ∀ i j, g i j = g j i) : ∀ m, v ≤ m → P2 g (m + 1) = P2 (fun i j => g (sk v i) (sk v j)) m + sm (fun i => g (sk v i) v) m
  | 0, h => by
    obtain rfl : v = 0 := by omega
    simp [P2, sm]
  | m + 1, h => by
    by_cases e : v = m + 1
    · subst e
      rw [P2_succ, P2_congr (f := fun i j => g (sk (m + 1) i) (sk (m + 1) j)) (g := g) (m + 1) fun i j hi hj => by rw [sk_lo hi, sk_lo (by omega)]]
      rw [sm_congr (f := fun i => g (sk (m + 1) i) (m + 1)) (g := fun j => g (m + 1) j) (m + 1) fun i hi => by rw [sk_lo hi, hs]]
    · rw [P2_succ, P2_split g v hs m (by omega), P2_succ, sm_split (fun j => g (m + 1) j) v m (by omega), sm]
      rw [sk_hi (v := v) (i := m) (by omega)]
      omega
theorem P3_split (f : Nat → Nat → Nat → Int) (v : Nat) (hs : ∀ i j k, f i j k = f i k j) (ht : ∀ i j k, f i j k = f j i k) : ∀ m, v ≤ m →
    P3 f (m + 1) = P3 (fun i j k => f (sk v i) (sk v j) (sk v k)) m + P2 (fun i j => f (sk v i) (sk v j) v) m
  | 0, h => by
    obtain rfl : v = 0 := by omega
    simp [P3, P2, sm]
  | m + 1, h => by
    by_cases e : v = m + 1
    · subst e
      rw [P3_succ, P3_congr (f := fun i j k => f (sk (m + 1) i) (sk (m + 1) j) (sk (m + 1) k)) (g := f) (m + 1) fun i j k hi hj hk => by rw [sk_lo hi, sk_lo (by omega), sk_lo (by omega)]]
      rw [P2_congr (f := fun i j => f (sk (m + 1) i) (sk (m + 1) j) (m + 1)) (g := f (m + 1)) (m + 1) fun i j hi hj => by
        rw [sk_lo hi, sk_lo (by omega), hs i j, ht i (m + 1) j]]
    · rw [P3_succ, P3_split f v hs ht m (by omega), P3_succ, P2_split (f (m + 1)) v (hs (m + 1)) m (by omega), P2_succ]
      rw [sk_hi (v := v) (i := m) (by omega)]
      omega
/-- Over all pairs in both orders: twice. -/
theorem both_sum (g : Nat → Nat → Int) (hs : ∀ i j, g i j = g j i) (h0 : ∀ i, g i i = 0) : ∀ m, sm (fun i => sm (fun z => g i z) m) m = 2 * P2 g m
  | 0 => rfl
  | m + 1 => by
    rw [P2_succ, sm]
    have e1 : sm (fun i => sm (fun z => g i z) (m + 1)) m = sm (fun i => sm (fun z => g i z) m) m + sm (fun j => g m j) m := by
      have e0 : sm (fun i => sm (fun z => g i z) (m + 1)) m = sm (fun i => sm (fun z => g i z) m + g i m) m := sm_congr m fun i _ => rfl
      rw [e0, sm_add, sm_congr (f := fun i => g i m) (g := fun j => g m j) m fun i _ => hs i m]
    rw [e1, both_sum g hs h0 m, sm, h0]
    omega

/-- A Boolean as a number. -/
def bi (b : Bool) : Int := (b.toNat : Int)
theorem pop_sm (x : Nat) : ∀ n, (pop n x : Int) = sm (fun z => bi (x.testBit z)) n
  | 0 => rfl
  | n + 1 => by rw [pop, sm, Int.natCast_add, pop_sm x n]; rfl
def adj (bs : List Nat) (i j : Nat) : Bool := (bs.getD i 0).testBit j
theorem deg_sm {n : Nat} {bs : List Nat} (h : Gr n bs) (i : Nat) : (pop 16 (bs.getD i 0) : Int) = sm (fun z => bi (adj bs i z)) n := by
  rw [h.pop _ (h.get i), pop_sm]; rfl
theorem com_sm {n : Nat} {bs : List Nat} (h : Gr n bs) (i j : Nat) : (com bs i j : Int) = sm (fun z => bi (adj bs i z && adj bs j z)) n := by
  unfold com
  rw [pop16 n _ h.le (Nat.lt_of_le_of_lt Nat.and_le_left (h.get i)), pop_sm]
  refine sm_congr n fun z _ => ?_
  rw [Nat.testBit_and]; rfl

theorem woN_bit (v r j : Nat) : (woN v r).testBit j = r.testBit (sk v j) := by
  unfold woN
  rw [Nat.testBit_or, Nat.testBit_and, Nat.testBit_two_pow_sub_one, ← Nat.shiftLeft_eq, Nat.testBit_shiftLeft, Nat.testBit_div_two_pow]
  by_cases h : j < v
  · rw [sk_lo h]
    simp [h, show ¬ v ≤ j by omega]
  · rw [sk_hi (by omega), show j - v + (v + 1) = j + 1 by omega]
    simp [h, show v ≤ j by omega]
theorem withoutL_get (bs : List Nat) (v k : Nat) (hv : v < bs.length) (hk : k < bs.length - 1) : (withoutL bs v v).getD k 0 = woN v (bs.getD (sk v k) 0) := by
  unfold withoutL
  by_cases h : k < v
  · rw [sk_lo h]
    have h1 : k < (bs.take v).length := by rw [List.length_take]; omega
    simp only [List.getD_eq_getElem?_getD, List.getElem?_map, List.getElem?_append_left h1, List.getElem?_take_of_lt h]
    simp [show k < bs.length by omega]
  · rw [sk_hi (by omega)]
    have hl : (bs.take v).length = v := by rw [List.length_take]; omega
    simp only [List.getD_eq_getElem?_getD, List.getElem?_map]
    rw [List.getElem?_append_right (by omega), hl, List.getElem?_drop, show v + 1 + (k - v) = k + 1 by omega]
    simp [show k + 1 < bs.length by omega]
theorem alone_adj {m : Nat} {bs : List Nat} {v i j : Nat} (hv : v ≤ m) (hi : i < m) (hj : j < m) :
    adj (aloneL (m + 1) bs v) i j = (adj bs (sk v i) (sk v j) != (adj bs v (sk v i) != adj bs v (sk v j))) := by
  unfold adj aloneL
  rw [withoutL_get _ _ _ (by rw [swL_length]; omega) (by rw [swL_length]; omega), woN_bit, swL_bit (sk_lt hi) (sk_lt hj)]
theorem alone_gr {m : Nat} {bs : List Nat} (h : Gr (m + 1) bs) {v : Nat} (hv : v ≤ m) (h1 : 1 ≤ m) : Gr m (aloneL (m + 1) bs v) := by
  obtain ⟨a, b⟩ := alone_gr_lt h (v := v) (by omega)
  refine ⟨a, h1, by have := h.le; omega, b, fun i hi => ?_, fun i j hi hj => ?_⟩
  · have := alone_adj (bs := bs) hv hi hi
    unfold adj at this
    rw [this, h.irr _ (sk_lt hi)]
    simp
  · have e1 := alone_adj (bs := bs) hv hi hj
    have e2 := alone_adj (bs := bs) hv hj hi
    unfold adj at e1 e2
    rw [e1, e2, h.sym _ _ (sk_lt hi) (sk_lt hj)]
    generalize (bs.getD v 0).testBit (sk v i) = x
    generalize (bs.getD v 0).testBit (sk v j) = y
    generalize (bs.getD (sk v j) 0).testBit (sk v i) = z
    cases x <;> cases y <;> cases z <;> rfl
end Go.Proofs.YtdnhfnegnjdeoaaDoor
