/- cards moved, three cards that are a set, all cards, in plain numbers -/
import Derived.Test.YtlalfjkenkmojaaMm
namespace Go.Proofs.Ytlalfjkenkmojaa

/-- A card moved by another one, digit by digit. -/
def addN : Nat → Nat → Nat → Nat
  | 0, _, _ => 0
  | d + 1, a, b => (a % 3 + b % 3) % 3 + 3 * addN d (a / 3) (b / 3)
theorem addN_lt (d a b : Nat) : addN d a b < 3 ^ d := by
  induction d generalizing a b with
  | zero => exact Nat.one_pos
  | succ d ih => rw [addN, Nat.pow_succ]; have := ih (a / 3) (b / 3); omega
theorem third_add (d a b t : Nat) : thirdN d (addN d a t) (addN d b t) = addN d (thirdN d a b) t := by
  induction d generalizing a b t with
  | zero => rfl
  | succ d ih =>
    have e1 : ∀ x, addN (d + 1) x t / 3 = addN d (x / 3) (t / 3) := fun x => by rw [addN]; omega
    have e2 : ∀ x, addN (d + 1) x t % 3 = (x % 3 + t % 3) % 3 := fun x => by rw [addN]; omega
    have e3 : thirdN (d + 1) a b / 3 = thirdN d (a / 3) (b / 3) := by rw [thirdN]; omega
    have e4 : thirdN (d + 1) a b % 3 = (6 - a % 3 - b % 3) % 3 := by rw [thirdN]; omega
    rw [thirdN, e1, e1, e2, e2, ih, addN, e3, e4]
    congr 1
    omega
theorem addN_inj (d a b t : Nat) (ha : a < 3 ^ d) (hb : b < 3 ^ d) (h : addN d a t = addN d b t) : a = b := by
  induction d generalizing a b t with
  | zero => simp at ha hb; omega
  | succ d ih =>
    rw [Nat.pow_succ] at ha hb
    rw [addN, addN] at h
    have := ih (a / 3) (b / 3) (t / 3) (by omega) (by omega) (by omega)
    omega
theorem setsN_all (d : Nat) (h1 : 1 ≤ d) (h4 : d ≤ 4) : setsN d (List.range' 0 (3 ^ d)) = 3 ^ d * (3 ^ d - 1) / 6 := by
  rcases (show d = 1 ∨ d = 2 ∨ d = 3 ∨ d = 4 by omega) with rfl | rfl | rfl | rfl
  · decide +kernel
  · decide +kernel
  · decide +kernel
  · decide +kernel
theorem setsN_three (d x y z : Nat) (h : thirdN d z y = x) : setsN d [x, y, z] = 1 := by
  have e : List.range 3 = [0, 1, 2] := rfl
  have e2 : List.range 2 = [0, 1] := rfl
  unfold setsN pairs
  simp only [List.length_cons, List.length_nil, Nat.zero_add, Nat.reduceAdd, e, List.map_cons, List.map_nil]
  have h1 : List.range 0 = [] := rfl
  have h2 : List.range 1 = [0] := rfl
  rw [h1, h2, e2]
  simp [setP, h]
/-- Three cards, each the third of the others, that lie in order. -/
theorem three_sorted {d a b c : Nat} (ha : a < 3 ^ d) (hb : b < 3 ^ d) (hab : a ≠ b) (hc : c = thirdN d a b) {l : List Nat} (hp : List.Perm l [a, b, c]) (hs : l.Pairwise (· ≤ ·)) :
    Deck d l ∧ setsN d l = 1 := by
  have hca : c ≠ a := fun e => hab (thirdN_eq d a b ha hb (by rw [← hc, e]))
  have hcb : c ≠ b := fun e => hab (thirdN_eq d b a hb ha (by rw [thirdN_comm, ← hc, e])).symm
  have hcl : c < 3 ^ d := by rw [hc]; exact thirdN_lt d a b
  have t1 : thirdN d a c = b := by rw [hc]; exact thirdN_back d a b hb
  have t2 : thirdN d b c = a := by rw [hc, thirdN_comm d a b]; exact thirdN_back d b a ha
  have t3 : thirdN d b a = c := by rw [thirdN_comm, hc]
  have t4 : thirdN d c a = b := by rw [thirdN_comm, t1]
  have t5 : thirdN d c b = a := by rw [thirdN_comm, t2]
  have hnd : l.Nodup := hp.nodup_iff.2 (by simp; omega)
  have hu : Up l := by
    unfold Up
    refine (hs.and hnd).imp fun h => ?_
    omega
  have hm : ∀ x, x ∈ l ↔ x = a ∨ x = b ∨ x = c := fun x => by rw [hp.mem_iff]; simp
  refine ⟨⟨hu, fun x hx => by rcases (hm x).1 hx with rfl | rfl | rfl <;> assumption⟩, ?_⟩
  have hl : l.length = 3 := by rw [hp.length_eq]; rfl
  match l, hl with
  | [x, y, z], _ =>
    refine setsN_three d x y z ?_
    have hx := (hm x).1 (by simp)
    have hy := (hm y).1 (by simp)
    have hz := (hm z).1 (by simp)
    simp at hnd
    rcases hx with rfl | rfl | rfl <;> rcases hy with rfl | rfl | rfl <;> rcases hz with rfl | rfl | rfl <;> first | assumption | (exact hc.symm) | (exfalso; simp at hnd)
end Go.Proofs.Ytlalfjkenkmojaa
