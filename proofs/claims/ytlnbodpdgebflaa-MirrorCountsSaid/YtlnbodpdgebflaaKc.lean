/- the counts' mathematics: the product of the law's tops -/
import Derived.Test.YtlnbodpdgebflaaQa
namespace Go.Proofs.Ytlnbodpdgebflaa
open Go.RowKit
/-- The tops of the law. -/
def topK (g k : Nat) : List Nat := (List.range k).map fun i => if kd g = 66 then 2 * (i + 1) - 1 else i + 1
def topL (g : Nat) : List Nat := if kd g = 73 then [1, nm g - 1] else topK g (nm g)
/-- One is added at a place. -/
def adC (xs : List Nat) (p x : Nat) : List Nat := xs.set p (xs.getD p 0 + x)
def inC (xs : List Nat) (i x j : Nat) : List Nat := (List.range j).foldl (fun ys q => adC ys (i + q) x) xs
def ouC (want : List Nat) (k i : Nat) : List Nat := (List.range i).foldl (fun ys q => inC ys q (want.getD q 0) (k + 1)) (List.replicate (want.length + k) 0)
def waC (ts : List Nat) : List Nat := ts.foldl (fun w k => ouC w k w.length) [1]
theorem adC_len (xs : List Nat) (p x : Nat) : (adC xs p x).length = xs.length := by simp [adC]
theorem inC_succ (xs : List Nat) (i x j : Nat) : inC xs i x (j + 1) = adC (inC xs i x j) (i + j) x := by simp [inC, List.range_succ]
theorem inC_len (xs : List Nat) (i x : Nat) : ∀ j, (inC xs i x j).length = xs.length
  | 0 => rfl
  | j + 1 => by rw [inC_succ, adC_len, inC_len xs i x j]
theorem ouC_succ (want : List Nat) (k i : Nat) : ouC want k (i + 1) = inC (ouC want k i) i (want.getD i 0) (k + 1) := by simp [ouC, List.range_succ]
theorem ouC_len (want : List Nat) (k : Nat) : ∀ i, (ouC want k i).length = want.length + k
  | 0 => by simp [ouC]
  | i + 1 => by rw [ouC_succ, inC_len, ouC_len want k i]
theorem waC_snoc (ts : List Nat) (k : Nat) : waC (ts ++ [k]) = ouC (waC ts) k (waC ts).length := by simp [waC]
def ctsOk (g : Nat) : Bool :=
  (cntC g (nE g) (ln g (nE g - 1) + 1) == waC (topL g)) && (waC (topL g) == (waC (topL g)).reverse) && decide ((topL g).length ≤ 4) && (topL g).all (fun k => decide (k ≤ 11)) && (List.range ((topL g).length + 1)).all fun t =>
    let w := waC ((topL g).take t)
    decide (w.length ≤ 20) && decide (0 < w.length) && w.all (fun x => decide (x ≤ 120)) && (decide (t = (topL g).length) || (List.range w.length).all fun i => (List.range ((topL g).getD t 0 + 2)).all fun j => (inC (ouC w ((topL g).getD t 0) i) i (w.getD i 0) j).all fun x => decide (x ≤ 120))
theorem cts_chk : ((List.range 17).all ctsOk) = true := by decide +kernel
theorem cts_ok {g : Nat} (hg : g < 17) : cntC g (nE g) (ln g (nE g - 1) + 1) = waC (topL g) ∧ (waC (topL g)).reverse = waC (topL g) ∧ (topL g).length ≤ 4 ∧ (∀ k ∈ topL g, k ≤ 11) ∧ ∀ t, t ≤ (topL g).length → (waC ((topL g).take t)).length ≤ 20 ∧ 0 < (waC ((topL g).take t)).length ∧ (∀ x ∈ waC ((topL g).take t), x ≤ 120) ∧
    (t < (topL g).length → ∀ i, i < (waC ((topL g).take t)).length → ∀ j, j ≤ (topL g).getD t 0 + 1 → ∀ x ∈ inC (ouC (waC ((topL g).take t)) ((topL g).getD t 0) i) i ((waC ((topL g).take t)).getD i 0) j, x ≤ 120) := by
  have h := List.all_eq_true.1 cts_chk g (List.mem_range.2 hg)
  unfold ctsOk at h
  simp only [Bool.and_eq_true, Bool.or_eq_true, beq_iff_eq, decide_eq_true_eq, List.all_eq_true, List.mem_range] at h
  obtain ⟨⟨⟨⟨h1, h2⟩, h3⟩, h4⟩, h5⟩ := h
  refine ⟨h1, h2.symm, h3, h4, fun t ht => ?_⟩
  obtain ⟨⟨⟨q1, q2⟩, q3⟩, q4⟩ := h5 t (by omega)
  exact ⟨q1, q2, q3, fun hlt i hi j hj => (q4.resolve_left (by omega)) i hi j (by omega)⟩
end Go.Proofs.Ytlnbodpdgebflaa
