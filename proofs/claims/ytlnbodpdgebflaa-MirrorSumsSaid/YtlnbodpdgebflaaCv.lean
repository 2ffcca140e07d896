/- what lies below an element: letter by letter; what it covers -/
import Derived.Test.YtlnbodpdgebflaaWm
import Derived.Test.YtlnbodpdgebflaaMo
namespace Go.Proofs.Ytlnbodpdgebflaa
open Go.RowKit
/-- With and without each letter. -/
def lwF (g : Nat) (l : List Nat) : Nat → Bool := l.foldl (fun f s j => f j || f (rt g j s)) (fun j => j == 0)
theorem lwF_snoc (g : Nat) (l : List Nat) (s j : Nat) : lwF g (l ++ [s]) j = (lwF g l j || lwF g l (rt g j s)) := by simp [lwF]
theorem lwF_nil (g j : Nat) : lwF g [] j = (j == 0) := rfl
theorem low_chk : ((List.range 17).all fun g => (List.range (nE g)).all fun x => x == 0 || (
  let s := lastL g x
  let y := rt g x s
  (wd g x == wd g y ++ [s]) && (List.range (nE g)).all fun j => (lom g x).testBit j == ((lom g y).testBit j || (lom g y).testBit (rt g j s)))) = true := by decide +kernel
theorem low_step {g x : Nat} (hg : g < 17) (hx : x < nE g) (h0 : x ≠ 0) : wd g x = wd g (rt g x (lastL g x)) ++ [lastL g x] ∧ ∀ j, j < nE g → (lom g x).testBit j = ((lom g (rt g x (lastL g x))).testBit j || (lom g (rt g x (lastL g x))).testBit (rt g j (lastL g x))) := by
  have h := List.all_eq_true.1 (List.all_eq_true.1 low_chk g (List.mem_range.2 hg)) x (List.mem_range.2 hx)
  simp only [Bool.and_eq_true, Bool.or_eq_true, beq_iff_eq, List.all_eq_true, List.mem_range] at h
  exact h.resolve_left h0
theorem lwF_lo {g : Nat} (hg : g < 17) : ∀ (n x : Nat), ln g x = n → x < nE g → ∀ j, j < nE g → lwF g (wd g x) j = loB g j x := by
  intro n
  induction n using Nat.strongRecOn with
  | ind n ih =>
    intro x hn hx j hj
    rw [lo_bit hg hj hx]
    by_cases h0 : x = 0
    · subst h0
      rw [(tg hg).2.2.2.2.2.2.2.1, lwF_nil, lom_zero hg]
      cases j with
      | zero => rfl
      | succ j => rw [show (1:Nat) = 2 ^ 0 from rfl, Nat.testBit_two_pow]; rfl
    · obtain ⟨_, hl, hlt⟩ := last_ok hg hx h0
      obtain ⟨e, hb⟩ := low_step hg hx h0
      have hy := (tb hg hx hl).2.1
      have hj2 := (tb hg hj hl).2.1
      rw [e, lwF_snoc, hb j hj, ← lo_bit hg hj hy, ← lo_bit hg hj2 hy, ih _ (by omega) _ rfl hy j hj, ih _ (by omega) _ rfl hy _ hj2]
/-- A letter is on its way: the first i elements are through. -/
def lwI (g : Nat) (l : List Nat) (s i j : Nat) : Bool := lwF g l j || (decide (rt g j s < i) && lwF g l (rt g j s))
theorem lwI_zero (g : Nat) (l : List Nat) (s j : Nat) : lwI g l s 0 j = lwF g l j := by simp [lwI]
theorem lwI_end {g : Nat} (hg : g < 17) (l : List Nat) {s j : Nat} (hs : s < kM g) (hj : j < nE g) : lwI g l s (nE g) j = lwF g (l ++ [s]) j := by
  rw [lwF_snoc]; unfold lwI; rw [decide_eq_true (tb hg hj hs).2.1]; simp
theorem lwI_no {g : Nat} (l : List Nat) {s i j : Nat} (h : lwF g l i = false) : lwI g l s (i + 1) j = lwI g l s i j := by
  unfold lwI
  by_cases e : rt g j s = i
  · rw [e, h]; simp
  · rw [show decide (rt g j s < i + 1) = decide (rt g j s < i) from decide_eq_decide.2 (by omega)]
theorem lwI_yes {g : Nat} (hg : g < 17) (l : List Nat) {s i j : Nat} (hs : s < kM g) (hi : i < nE g) (hj : j < nE g) (h : lwF g l i = true) : lwI g l s (i + 1) j = if j = rt g i s then true else lwI g l s i j := by
  unfold lwI
  by_cases e : j = rt g i s
  · rw [if_pos e, e, rt_rt hg hi hs, h]; simp
  · rw [if_neg e, show decide (rt g j s < i + 1) = decide (rt g j s < i) from decide_eq_decide.2 ?_]
    have : rt g j s ≠ i := fun q => e (by rw [← q, rt_rt hg hj hs])
    omega
/-- What x covers, among the first k elements. -/
def cvL (g x k : Nat) : List Nat := (List.range k).filter fun u => (ln g u + 1 == ln g x) && loB g u x
theorem cvL_succ (g x k : Nat) : cvL g x (k + 1) = if (ln g k + 1 == ln g x && loB g k x) = true then cvL g x k ++ [k] else cvL g x k := by
  unfold cvL
  rw [List.range_succ, List.filter_append]
  by_cases h : (ln g k + 1 == ln g x && loB g k x) = true
  · rw [if_pos h]; simp [h]
  · rw [if_neg h]; simp [h]
theorem cvL_lt {g x k u : Nat} (h : u ∈ cvL g x k) : u < k := List.mem_range.1 (List.mem_filter.1 h).1
theorem cvL_len (g x k : Nat) : (cvL g x k).length ≤ k := by
  have := List.length_filter_le (fun u => (ln g u + 1 == ln g x) && loB g u x) (List.range k)
  simpa [cvL] using this
end Go.Proofs.Ytlnbodpdgebflaa
