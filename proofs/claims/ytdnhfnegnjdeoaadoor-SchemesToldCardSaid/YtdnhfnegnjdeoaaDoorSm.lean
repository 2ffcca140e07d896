/- Switching: pure facts. -/
import Derived.Test.YtdnhfnegnjdeoaaDoorGm
namespace Go.Proofs.YtdnhfnegnjdeoaaDoor
open Go.RowKit

/-- A graph switched by a set. -/
def swN (n s i x : Nat) : Nat := if s.testBit i then x ^^^ sub (2 ^ n - 1) s else x ^^^ s
def swL (n : Nat) (bs : List Nat) (s : Nat) : List Nat := (List.range n).map fun i => swN n s i (bs.getD i 0)
theorem swL_length (n : Nat) (bs : List Nat) (s : Nat) : (swL n bs s).length = n := by simp [swL]
theorem swL_get {n : Nat} {bs : List Nat} {s i : Nat} (h : i < n) : (swL n bs s).getD i 0 = swN n s i (bs.getD i 0) := by simp [swL, h]
theorem swN_lt {n s i x : Nat} (hs : s < 2 ^ n) (hx : x < 2 ^ n) : swN n s i x < 2 ^ n := by
  have := Nat.two_pow_pos n
  unfold swN
  split
  · exact Nat.xor_lt_two_pow hx (sub_le _ _ _ (by omega))
  · exact Nat.xor_lt_two_pow hx hs
theorem swN_bit {n s i x j : Nat} (hj : j < n) : (swN n s i x).testBit j = (x.testBit j != (s.testBit i != s.testBit j)) := by
  unfold swN
  cases h : s.testBit i
  · simp [Nat.testBit_xor]
  · simp [Nat.testBit_xor, sub_bit, hj]
theorem swL_bit {n : Nat} {bs : List Nat} {s i j : Nat} (hi : i < n) (hj : j < n) :
    ((swL n bs s).getD i 0).testBit j = ((bs.getD i 0).testBit j != (s.testBit i != s.testBit j)) := by rw [swL_get hi, swN_bit hj]
theorem swL_gr {n : Nat} {bs : List Nat} {s : Nat} (h : Gr n bs) (hs : s < 2 ^ n) : Gr n (swL n bs s) := by
  refine ⟨swL_length n bs s, h.pos, h.le, fun x hx => ?_, fun i hi => ?_, fun i j hi hj => ?_⟩
  · obtain ⟨i, _, rfl⟩ := List.mem_map.1 hx
    exact swN_lt hs (h.get i)
  · rw [swL_bit hi hi, h.irr i hi]; simp
  · rw [swL_bit hi hj, swL_bit hj hi, h.sym i j hi hj]
    cases s.testBit i <;> cases s.testBit j <;> rfl
theorem list_ext {n : Nat} {bs cs : List Nat} (h : bs.length = n) (h' : cs.length = n) (hg : ∀ i, i < n → bs.getD i 0 = cs.getD i 0) : bs = cs := by
  refine List.ext_getElem (by omega) fun i h1 h2 => ?_
  have := hg i (by omega)
  simpa [h1, h2] using this
theorem gr_ext {n : Nat} {bs cs : List Nat} (h : Gr n bs) (h' : Gr n cs) (hb : ∀ i j, i < n → j < n → (bs.getD i 0).testBit j = (cs.getD i 0).testBit j) : bs = cs :=
  list_ext h.len h'.len fun i hi => bits_ext (h.get i) (h'.get i) fun j hj => hb i j hi hj
theorem swL_swL {n : Nat} {bs : List Nat} {s : Nat} (h : Gr n bs) (hs : s < 2 ^ n) : swL n (swL n bs s) s = bs := by
  refine gr_ext (swL_gr (swL_gr h hs) hs) h fun i j hi hj => ?_
  rw [swL_bit hi hj, swL_bit hi hj]
  cases (bs.getD i 0).testBit j <;> cases s.testBit i <;> cases s.testBit j <;> rfl

/-- Whether three nodes have one or three pairs of neighbours. -/
def odd3 (bs : List Nat) (i j k : Nat) : Bool := ((bs.getD i 0).testBit j != (bs.getD i 0).testBit k) != (bs.getD j 0).testBit k
theorem odd3_sw {n : Nat} {bs : List Nat} {s i j k : Nat} (hi : i < n) (hj : j < n) (hk : k < n) : odd3 (swL n bs s) i j k = odd3 bs i j k := by
  unfold odd3
  rw [swL_bit hi hj, swL_bit hi hk, swL_bit hj hk]
  cases (bs.getD i 0).testBit j <;> cases (bs.getD i 0).testBit k <;> cases (bs.getD j 0).testBit k <;> cases s.testBit i <;> cases s.testBit j <;> cases s.testBit k <;> rfl
def oddK (bs : List Nat) (i j : Nat) : Nat → Nat
  | 0 => 0
  | k + 1 => oddK bs i j k + (odd3 bs i j k).toNat
def oddJ (bs : List Nat) (i : Nat) : Nat → Nat
  | 0 => 0
  | j + 1 => oddJ bs i j + oddK bs i j j
def oddI (bs : List Nat) : Nat → Nat
  | 0 => 0
  | i + 1 => oddI bs i + oddJ bs i i
theorem oddK_le (bs : List Nat) (i j k : Nat) : oddK bs i j k ≤ k := by
  induction k with
  | zero => exact Nat.le_refl _
  | succ k ih => have := Bool.toNat_le (odd3 bs i j k); simp only [oddK]; omega
theorem oddJ_le (bs : List Nat) (i j : Nat) (h : j ≤ 16) : oddJ bs i j ≤ 16 * j := by
  induction j with
  | zero => exact Nat.le_refl _
  | succ j ih => have := ih (by omega); have := oddK_le bs i j j; simp only [oddJ]; omega
theorem oddI_le (bs : List Nat) (i : Nat) (h : i ≤ 16) : oddI bs i ≤ 256 * i := by
  induction i with
  | zero => exact Nat.le_refl _
  | succ i ih => have := ih (by omega); have := oddJ_le bs i i (by omega); simp only [oddI]; omega
theorem oddI_congr {n : Nat} {bs cs : List Nat} (h : ∀ i j k, i < n → j < i → k < j → odd3 bs i j k = odd3 cs i j k) : ∀ i, i ≤ n → oddI bs i = oddI cs i := by
  intro i
  induction i with
  | zero => intro _; rfl
  | succ i ih =>
    intro hi
    have hJ : ∀ j, j ≤ i → oddJ bs i j = oddJ cs i j := by
      intro j
      induction j with
      | zero => intro _; rfl
      | succ j ihj =>
        intro hj
        have hK : ∀ k, k ≤ j → oddK bs i j k = oddK cs i j k := by
          intro k
          induction k with
          | zero => intro _; rfl
          | succ k ihk => intro hk; simp only [oddK]; rw [ihk (by omega), h i j k (by omega) (by omega) (by omega)]
        simp only [oddJ]; rw [ihj (by omega), hK j (Nat.le_refl _)]
    simp only [oddI]; rw [ih (by omega), hJ i (Nat.le_refl _)]

/-- The set by which one graph becomes another one, if any does. -/
def setOf (n : Nat) (bs cs : List Nat) : Nat := bs.getD (n - 1) 0 ^^^ cs.getD (n - 1) 0
theorem setOf_bit (n : Nat) (bs cs : List Nat) (j : Nat) : (setOf n bs cs).testBit j = ((bs.getD (n - 1) 0).testBit j != (cs.getD (n - 1) 0).testBit j) := Nat.testBit_xor ..
theorem setOf_lt {n : Nat} {bs cs : List Nat} (h : Gr n bs) (h' : Gr n cs) : setOf n bs cs < 2 ^ n := Nat.xor_lt_two_pow (h.get _) (h'.get _)
theorem setOf_last {n : Nat} {bs cs : List Nat} (h : Gr n bs) (h' : Gr n cs) : (setOf n bs cs).testBit (n - 1) = false := by
  have := h.pos
  rw [setOf_bit, h.irr _ (by omega), h'.irr _ (by omega)]; rfl
theorem setOf_low {n : Nat} {bs cs : List Nat} (h : Gr n bs) (h' : Gr n cs) : setOf n bs cs < 2 ^ (n - 1) := by
  have hp := h.pos
  have h1 := setOf_lt h h'
  have h2 := setOf_last h h'
  obtain ⟨m, rfl⟩ : ∃ m, n = m + 1 := ⟨n - 1, by omega⟩
  rw [Nat.add_sub_cancel] at h2 ⊢
  refine Nat.lt_of_not_le fun hle => ?_
  have : (setOf (m + 1) bs cs).testBit m = true := by
    have e : setOf (m + 1) bs cs / 2 ^ m = 1 := by
      have hp := Nat.two_pow_pos m
      rw [Nat.pow_succ] at h1
      refine Nat.div_eq_of_lt_le (by omega) (by omega)
    rw [Nat.testBit_eq_decide_div_mod_eq, e]; rfl
  rw [this] at h2; cases h2
theorem same_sw {n : Nat} {bs cs : List Nat} (h : Gr n bs) (h' : Gr n cs) (ho : ∀ i j k, i < n → j < i → k < j → odd3 bs i j k = odd3 cs i j k) : swL n bs (setOf n bs cs) = cs := by
  have hp := h.pos
  refine gr_ext (swL_gr h (setOf_lt h h')) h' fun i j hi hj => ?_
  rw [swL_bit hi hj, setOf_bit, setOf_bit]
  have key : ∀ a b, a < n - 1 → b < a → ((bs.getD a 0).testBit b != (((bs.getD (n - 1) 0).testBit a != (cs.getD (n - 1) 0).testBit a) != ((bs.getD (n - 1) 0).testBit b != (cs.getD (n - 1) 0).testBit b))) = (cs.getD a 0).testBit b := by
    intro a b ha hb
    have := ho (n - 1) a b (by omega) ha hb
    unfold odd3 at this
    revert this
    cases (bs.getD (n - 1) 0).testBit a <;> cases (bs.getD (n - 1) 0).testBit b <;> cases (bs.getD a 0).testBit b <;> cases (cs.getD (n - 1) 0).testBit a <;> cases (cs.getD (n - 1) 0).testBit b <;> cases (cs.getD a 0).testBit b <;> simp
  by_cases e : i = j
  · subst e
    rw [h.irr i hi, h'.irr i hi]; simp
  by_cases e1 : i = n - 1
  · subst e1
    rw [h.irr _ (by omega), h'.irr _ (by omega)]
    cases (bs.getD (n - 1) 0).testBit j <;> cases (cs.getD (n - 1) 0).testBit j <;> rfl
  by_cases e2 : j = n - 1
  · subst e2
    rw [h.irr _ (by omega), h'.irr _ (by omega), h.sym i _ hi (by omega), h'.sym i _ hi (by omega)]
    cases (bs.getD (n - 1) 0).testBit i <;> cases (cs.getD (n - 1) 0).testBit i <;> rfl
  rcases Nat.lt_or_gt_of_ne e with hl | hl
  · rw [h.sym i j hi hj, h'.sym i j hi hj, ← key j i (by omega) hl]
    cases (bs.getD (n - 1) 0).testBit i <;> cases (bs.getD (n - 1) 0).testBit j <;> cases (cs.getD (n - 1) 0).testBit i <;> cases (cs.getD (n - 1) 0).testBit j <;> rfl
  · exact key i j (by omega) hl
/-- A set that makes cs of bs is the one told, or has the last node. -/
theorem set_least {n : Nat} {bs cs : List Nat} {s : Nat} (h : Gr n bs) (h' : Gr n cs) (hs : s < 2 ^ n) (he : swL n bs s = cs) : setOf n bs cs ≤ s ∧ swL n bs (setOf n bs cs) = cs := by
  have hp := h.pos
  refine ⟨?_, same_sw h h' fun i j k hi hj hk => ?_⟩
  · cases hl : s.testBit (n - 1) with
    | true =>
      have : 2 ^ (n - 1) ≤ s := Nat.ge_two_pow_of_testBit hl
      have := setOf_low h h'
      omega
    | false =>
      refine Nat.le_of_eq (bits_ext (setOf_lt h h') hs fun j hj => ?_)
      rw [setOf_bit, ← he, swL_bit (by omega) hj, hl]
      cases (bs.getD (n - 1) 0).testBit j <;> cases s.testBit j <;> rfl
  · rw [← he]; exact (odd3_sw hi (by omega) (by omega)).symm
end Go.Proofs.YtdnhfnegnjdeoaaDoor
