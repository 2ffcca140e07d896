/- The flag of SchemesTwice's loops; clone of a graph -/
import Derived.Test.YtdnhfnegnjdeoaaDoorLm
namespace Go.Proofs.YtdnhfnegnjdeoaaDoor
open Go.RowKit

def fK (bs cs : List Nat) (b : Bool) (i j : Nat) : Nat → Bool
  | 0 => b
  | k + 1 => fK bs cs b i j k && (odd3 bs i j k == odd3 cs i j k)
def fJ (bs cs : List Nat) (b : Bool) (i : Nat) : Nat → Bool
  | 0 => b
  | j + 1 => fK bs cs (fJ bs cs b i j) i j j
def fI (bs cs : List Nat) : Nat → Bool
  | 0 => true
  | i + 1 => fJ bs cs (fI bs cs i) i i
theorem fK_iff (bs cs : List Nat) (b : Bool) (i j k : Nat) : fK bs cs b i j k = true ↔ b = true ∧ ∀ k', k' < k → odd3 bs i j k' = odd3 cs i j k' := by
  induction k with
  | zero => simp [fK]
  | succ k ih =>
    rw [fK, Bool.and_eq_true, ih, beq_iff_eq]
    constructor
    · rintro ⟨⟨h1, h2⟩, h3⟩
      refine ⟨h1, fun k' hk => ?_⟩
      by_cases e : k' = k
      · subst e; exact h3
      · exact h2 k' (by omega)
    · rintro ⟨h1, h2⟩
      exact ⟨⟨h1, fun k' hk => h2 k' (by omega)⟩, h2 k (by omega)⟩
theorem fJ_iff (bs cs : List Nat) (b : Bool) (i j : Nat) : fJ bs cs b i j = true ↔ b = true ∧ ∀ j', j' < j → ∀ k, k < j' → odd3 bs i j' k = odd3 cs i j' k := by
  induction j with
  | zero => simp [fJ]
  | succ j ih =>
    rw [fJ, fK_iff, ih]
    constructor
    · rintro ⟨⟨h1, h2⟩, h3⟩
      refine ⟨h1, fun j' hj => ?_⟩
      by_cases e : j' = j
      · subst e; exact h3
      · exact h2 j' (by omega)
    · rintro ⟨h1, h2⟩
      exact ⟨⟨h1, fun j' hj => h2 j' (by omega)⟩, h2 j (by omega)⟩
theorem fI_iff (bs cs : List Nat) (i : Nat) : fI bs cs i = true ↔ ∀ i', i' < i → ∀ j, j < i' → ∀ k, k < j → odd3 bs i' j k = odd3 cs i' j k := by
  induction i with
  | zero => simp [fI]
  | succ i ih =>
    rw [fI, fJ_iff, ih]
    constructor
    · rintro ⟨h2, h3⟩ i' hi
      by_cases e : i' = i
      · subst e; exact h3
      · exact h2 i' (by omega)
    · intro h2
      exact ⟨fun i' hi => h2 i' (by omega), h2 i (by omega)⟩
theorem fI_same {n : Nat} {bs cs : List Nat} (h : Gr n bs) (h' : Gr n cs) : fI bs cs n = true ↔ swL n bs (setOf n bs cs) = cs := by
  rw [fI_iff]
  constructor
  · exact fun c => same_sw h h' fun i j k hi hj hk => c i hi j hj k hk
  · intro e i hi j hj k hk
    rw [← e]; exact (odd3_sw hi (by omega) (by omega)).symm
theorem odd_twice {n : Nat} {bs : List Nat} (s : Nat) : oddI (swL n bs s) n = oddI bs n :=
  oddI_congr (n := n) (fun _ _ _ hi hj hk => odd3_sw hi (by omega) (by omega)) n (Nat.le_refl _)
theorem cloneG_any (v : Value) (bs : List Nat) (n : Nat) (w : World) (hg : Gr n bs) (h : Nats w v bs) :
    Calls Tryd.prog 52 #[v] w fun e w' => ∃ v', e = .returned v' ∧ Nats w' v' bs ∧ Below w.heap.size w w' :=
  (clone1_any v (nats bs) w h).mono fun _ _ ⟨ao, c, he, ho, hb⟩ => ⟨_, he, Ints.of_owns ho (by rw [nats_length, hg.len]; have := hg.le; omega) hg.i64, hb⟩
theorem last_and {n : Nat} {bs cs : List Nat} (h : Gr n bs) (h' : Gr n cs) : bits .and .i64 ((setOf n bs cs : Nat) : Int) ((2:Int) ^ (n - 1)) = 0 := by
  have h1 := setOf_lt h h'
  have h2 := pw_nat n h.le
  have h3 : 2 ^ (n - 1) ≤ 2 ^ n := Nat.pow_le_pow_right (by decide) (by omega)
  rw [← pw_cast, i64_and _ _ (by omega) (by omega)]
  have : setOf n bs cs &&& 2 ^ (n - 1) = 0 := Nat.eq_of_testBit_eq fun j => by
    rw [Nat.testBit_and, pow_bit, Nat.zero_testBit]
    by_cases e : n - 1 = j
    · subst e; rw [setOf_last h h']; rfl
    · rw [decide_eq_false e, Bool.and_false]
  rw [this]; rfl
end Go.Proofs.YtdnhfnegnjdeoaaDoor
