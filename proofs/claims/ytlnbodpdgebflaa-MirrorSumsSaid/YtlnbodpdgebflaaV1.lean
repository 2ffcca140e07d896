/- the polynomials P, checked: all groups but one; the polynomials P of the group of 48 elements, checked: the upper ones; the polynomials P of the group of 48 elements, checked: the lower ones; the polynomials: what the law of sums asks, and the steps of both recursions -/
import Derived.Test.YtlnbodpdgebflaaPm
namespace Go.Proofs.Ytlnbodpdgebflaa
open Go.RowKit
theorem p_chk0 : ((List.range 17).all fun g => g == 3 || g == 5 || (List.range (nE g)).all fun u => (List.range (nE g)).all fun x => chkPp g u x && chkP2 g u x) = true := by decide +kernel
end Go.Proofs.Ytlnbodpdgebflaa

namespace Go.Proofs.Ytlnbodpdgebflaa
open Go.RowKit
theorem p_chk5b : ((List.range 38).all fun u => (List.range 48).all fun x => chkPp 5 (10 + u) x && chkP2 5 (10 + u) x) = true := by decide +kernel
end Go.Proofs.Ytlnbodpdgebflaa

namespace Go.Proofs.Ytlnbodpdgebflaa
open Go.RowKit
theorem p_chk5a : ((List.range 4).all fun u => (List.range 48).all fun x => chkPp 5 u x && chkP2 5 u x) = true := by decide +kernel
theorem p_chk5c : ((List.range 6).all fun u => (List.range 48).all fun x => chkPp 5 (4 + u) x && chkP2 5 (4 + u) x) = true := by decide +kernel
end Go.Proofs.Ytlnbodpdgebflaa

namespace Go.Proofs.Ytlnbodpdgebflaa
open Go.RowKit
/-- Groups of at most 48 elements. -/
theorem p_chk {g u x : Nat} (hg : g < 17) (h3 : g ≠ 3) (hu : u < nE g) (hx : x < nE g) : chkPp g u x = true ∧ chkP2 g u x = true := by
  have key : (chkPp g u x && chkP2 g u x) = true := by
    by_cases h5 : g = 5
    · subst h5
      have hE : nE 5 = 48 := by decide +kernel
      by_cases a : u < 4
      · exact List.all_eq_true.1 (List.all_eq_true.1 p_chk5a u (List.mem_range.2 a)) x (List.mem_range.2 (by omega))
      · by_cases b : u < 10
        · have := List.all_eq_true.1 (List.all_eq_true.1 p_chk5c (u - 4) (List.mem_range.2 (by omega))) x (List.mem_range.2 (by omega))
          rwa [show 4 + (u - 4) = u by omega] at this
        · have := List.all_eq_true.1 (List.all_eq_true.1 p_chk5b (u - 10) (List.mem_range.2 (by omega))) x (List.mem_range.2 (by omega))
          rwa [show 10 + (u - 10) = u by omega] at this
    · have h := List.all_eq_true.1 p_chk0 g (List.mem_range.2 hg)
      simp only [Bool.or_eq_true, beq_iff_eq] at h
      exact List.all_eq_true.1 (List.all_eq_true.1 (h.resolve_left (fun q => q.elim h3 h5)) u (List.mem_range.2 hu)) x (List.mem_range.2 hx)
  exact Bool.and_eq_true_iff.1 key
theorem r_chk {g u x : Nat} (hg : g < 17) (h3 : g ≠ 3) (hu : u < nE g) (hx : x < nE g) : chkR g u x = true ∧ chkR2 g u x = true := by
  have key : (chkR g u x && chkR2 g u x) = true := by
    by_cases h5 : g = 5
    · subst h5
      have hE : nE 5 = 48 := by decide +kernel
      exact List.all_eq_true.1 (List.all_eq_true.1 r_chk5 u (List.mem_range.2 (by omega))) x (List.mem_range.2 (by omega))
    · have h := List.all_eq_true.1 r_chk0 g (List.mem_range.2 hg)
      simp only [Bool.or_eq_true, beq_iff_eq] at h
      exact List.all_eq_true.1 (List.all_eq_true.1 (h.resolve_left (fun q => q.elim h3 h5)) u (List.mem_range.2 hu)) x (List.mem_range.2 hx)
  exact Bool.and_eq_true_iff.1 key
/-- What the law of sums asks of two elements. -/
def sumsB (g u x : Nat) : Bool :=
  let p := dP g u x
  let r := dR g u x
  let b := (lom g x).testBit u
  let d := lf g x - lf g u
  (b == decide (0 < p.length)) && (b == decide (0 < r.length)) && ((List.range (kM g)).all fun s => !decide (lf g (rt g x s) < lf g x) || (dP g (rt g u s) x == p)) &&
  (!b || (decide (lf g u ≤ lf g x) && (p.getD 0 0 == 1) && decide (2 * (p.length - 1) ≤ max (d - 1) 0) && p.all (fun c => decide (0 ≤ c)) && (!(decide (d ≤ 2) || kd g == 73 || (kd g == 65 && decide (nm g ≤ 2))) || p.length == 1) && (r.length == d + 1) && ((r.sum == 0) == decide (0 < d))))
theorem sums_chk : ((List.range 17).all fun g => g == 3 || (List.range (nE g)).all fun u => (List.range (nE g)).all fun x => sumsB g u x) = true := by decide +kernel
theorem sums_ok {g u x : Nat} (hg : g < 17) (h3 : g ≠ 3) (hu : u < nE g) (hx : x < nE g) : sumsB g u x = true := by
  have h := List.all_eq_true.1 sums_chk g (List.mem_range.2 hg)
  simp only [Bool.or_eq_true, beq_iff_eq] at h
  exact List.all_eq_true.1 (List.all_eq_true.1 (h.resolve_left h3) u (List.mem_range.2 hu)) x (List.mem_range.2 hx)
end Go.Proofs.Ytlnbodpdgebflaa
