/- diamonds: how often each element is met two steps below -/
import Derived.Test.YtlnbodpdgebflaaCv
namespace Go.Proofs.Ytlnbodpdgebflaa
open Go.RowKit
/-- One more element is met: the elements met so far, and how often. -/
def dSt (p : List Nat × List Nat) (y : Nat) : List Nat × List Nat :=
  if p.1.idxOf y < p.1.length then (p.1, p.2.set (p.1.idxOf y) (p.2.getD (p.1.idxOf y) 0 + 1)) else (p.1 ++ [y], p.2 ++ [1])
def dAl (l : List Nat) (p : List Nat × List Nat) : List Nat × List Nat := l.foldl dSt p
def dRn (g : Nat) (l : List Nat) : List Nat × List Nat := l.foldl (fun p u => dAl (cvL g u (nE g)) p) ([], [])
theorem dAl_snoc (l : List Nat) (p : List Nat × List Nat) (y : Nat) : dAl (l ++ [y]) p = dSt (dAl l p) y := by simp [dAl]
theorem dRn_snoc (g : Nat) (l : List Nat) (u : Nat) : dRn g (l ++ [u]) = dAl (cvL g u (nE g)) (dRn g l) := by simp [dRn]
/-- Both lists are equally long, the elements are of the group and numbers stay small. -/
structure DOk (g n : Nat) (p : List Nat × List Nat) : Prop where
  len : p.1.length = p.2.length
  el : ∀ y ∈ p.1, y < nE g
  le : p.1.length ≤ n
  tm : ∀ k ∈ p.2, k ≤ n
theorem mem_setD {l : List Nat} {i v x : Nat} (h : x ∈ l.set i v) : x = v ∨ x ∈ l := by
  rcases List.mem_or_eq_of_mem_set h with h | h
  · exact .inr h
  · exact .inl h
theorem DOk.step {g n y : Nat} {p : List Nat × List Nat} (h : DOk g n p) (hy : y < nE g) : DOk g (n + 1) (dSt p y) := by
  unfold dSt
  split
  · rename_i hi
    refine ⟨by simp [h.len], h.el, Nat.le_succ_of_le h.le, fun k hk => ?_⟩
    rcases mem_setD hk with rfl | hk
    · have hl : p.1.idxOf y < p.2.length := by rw [← h.len]; exact hi
      have : p.2.getD (p.1.idxOf y) 0 ∈ p.2 := by simp [hl]
      have := h.tm _ this
      omega
    · have := h.tm k hk; omega
  · refine ⟨by simp [h.len], fun z hz => ?_, by simp; exact h.le, fun k hk => ?_⟩
    · rcases List.mem_append.1 hz with hz | hz
      · exact h.el z hz
      · rw [List.mem_singleton.1 hz]; exact hy
    · rcases List.mem_append.1 hk with hk | hk
      · have := h.tm k hk; omega
      · rw [List.mem_singleton.1 hk]; omega
/-- What x covers, by the sets of the order. -/
def cvM (g x : Nat) : List Nat := (List.range (nE g)).filter fun u => (lf g u + 1 == lf g x) && (lom g x).testBit u
theorem cvM_eq {g x : Nat} (hg : g < 17) (hx : x < nE g) : cvL g x (nE g) = cvM g x := by
  unfold cvL cvM
  refine List.filter_congr fun u hu => ?_
  have hu' := List.mem_range.1 hu
  rw [lo_bit hg hu' hx, (fast hg hx).1, (fast hg hu').1]
def dChk (g x : Nat) : Bool := ((cvM g x).foldl (fun p u => dAl (cvM g u) p) ([], [])).2.all (· == 2) && ((cvM g x).isEmpty == (x == 0)) && decide ((cvM g x).length ≤ 20)
theorem d_chk0 : ((List.range 17).all fun g => g == 3 || (List.range (nE g)).all (dChk g)) = true := by decide +kernel
theorem d_chk3a : ((List.range 60).all (dChk 3)) = true := by decide +kernel
theorem d_chk3b : ((List.range 60).all fun x => dChk 3 (60 + x)) = true := by decide +kernel
theorem d_chk {g x : Nat} (hg : g < 17) (hx : x < nE g) : dChk g x = true := by
  by_cases h3 : g = 3
  · subst h3
    have hE : nE 3 = 120 := by decide +kernel
    by_cases h : x < 60
    · exact List.all_eq_true.1 d_chk3a x (List.mem_range.2 h)
    · have := List.all_eq_true.1 d_chk3b (x - 60) (List.mem_range.2 (by omega))
      rwa [show 60 + (x - 60) = x by omega] at this
  · have h := List.all_eq_true.1 d_chk0 g (List.mem_range.2 hg)
    rw [Bool.or_eq_true, beq_iff_eq] at h
    exact List.all_eq_true.1 (h.resolve_left h3) x (List.mem_range.2 hx)
theorem dRn_eq {g : Nat} (hg : g < 17) (l : List Nat) (hl : ∀ u ∈ l, u < nE g) (p : List Nat × List Nat) : l.foldl (fun p u => dAl (cvL g u (nE g)) p) p = l.foldl (fun p u => dAl (cvM g u) p) p := by
  induction l generalizing p with
  | nil => rfl
  | cons u l ih =>
    simp only [List.foldl_cons]
    rw [cvM_eq hg (hl u (by simp)), ih (fun v hv => hl v (by simp [hv]))]
theorem d_ok {g x : Nat} (hg : g < 17) (hx : x < nE g) : (∀ k ∈ (dRn g (cvL g x (nE g))).2, k = 2) ∧ ((cvL g x (nE g)).length = 0 ↔ x = 0) ∧ (cvL g x (nE g)).length ≤ 20 := by
  have h := d_chk hg hx
  unfold dChk at h
  simp only [Bool.and_eq_true, List.all_eq_true, beq_iff_eq, decide_eq_true_eq] at h
  obtain ⟨⟨h1, h2⟩, h3⟩ := h
  refine ⟨?_, ?_, by rw [cvM_eq hg hx]; exact h3⟩
  · unfold dRn
    rw [dRn_eq hg _ (fun u hu => cvL_lt hu), cvM_eq hg hx]
    exact h1
  · rw [cvM_eq hg hx]
    have e : (cvM g x).isEmpty = decide ((cvM g x).length = 0) := by cases cvM g x <;> rfl
    rw [e] at h2
    constructor
    · intro q; rw [decide_eq_true q] at h2; exact beq_iff_eq.1 h2.symm
    · intro q; subst q; have : decide ((cvM g 0).length = 0) = true := by rw [h2]; rfl
      exact of_decide_eq_true this
end Go.Proofs.Ytlnbodpdgebflaa
