/- sorting by insertion is sorting -/
import Derived.Test.YtopmdmafameknaaFd
namespace Go.Proofs.Ytopmdmafameknaa
open Go.RowKit
theorem insN_perm (x : Nat) : ∀ l, (insN x l).Perm (x :: l)
  | [] => List.Perm.refl _
  | y :: l => by
    unfold insN
    split
    · exact List.Perm.refl _
    · exact ((insN_perm x l).cons y).trans (List.Perm.swap x y l)
theorem srtN_perm : ∀ l, (srtN l).Perm l
  | [] => List.Perm.refl _
  | x :: l => (insN_perm x (srtN l)).trans ((srtN_perm l).cons x)
theorem insN_sorted (x : Nat) : ∀ l : List Nat, l.Pairwise (· ≤ ·) → (insN x l).Pairwise (· ≤ ·)
  | [], _ => List.pairwise_singleton _ _
  | y :: l, h => by
    unfold insN
    split
    · rename_i hxy
      refine List.Pairwise.cons (fun z hz => ?_) h
      rcases List.mem_cons.1 hz with rfl | hz
      · exact hxy
      · exact Nat.le_trans hxy (List.rel_of_pairwise_cons h hz)
    · rename_i hxy
      refine List.Pairwise.cons (fun z hz => ?_) (insN_sorted x l h.of_cons)
      rcases List.mem_cons.1 ((insN_perm x l).mem_iff.1 hz) with rfl | hz
      · omega
      · exact List.rel_of_pairwise_cons h hz
theorem srtN_sorted : ∀ l, (srtN l).Pairwise (· ≤ ·)
  | [] => List.Pairwise.nil
  | x :: l => insN_sorted x _ (srtN_sorted l)
theorem sort_srt (l : List Nat) : (nats l).mergeSort (fun x y => decide (x ≤ y)) = nats (srtN l) := by
  refine List.Perm.eq_of_pairwise (le := fun x y => x ≤ y) (fun a b _ _ h1 h2 => Int.le_antisymm h1 h2) ?_ ?_ ?_
  · have h := List.pairwise_mergeSort (le := fun (x y : Int) => decide (x ≤ y)) (by intro a b c h1 h2; simp at *; omega) (by intro a b; simp; omega) (nats l)
    exact h.imp (by intro a b hab; simpa using hab)
  · unfold nats
    exact (srtN_sorted l).map _ (fun a b hab => by omega)
  · refine (List.mergeSort_perm _ _).trans ?_
    exact ((srtN_perm l).map _).symm
/-- The squares of the sums of signs, summed. -/
def sqS (m a b c d : Nat) : Nat → Nat
  | 0 => 0
  | k + 1 => sqS m a b c d k + nrm m (selN a b c d k) * nrm m (selN a b c d k)
theorem sqS_le {m a b c d : Nat} (h : ∀ k, nrm m (selN a b c d k) ≤ 5) : ∀ k, sqS m a b c d k ≤ 25 * k
  | 0 => Nat.le_refl _
  | k + 1 => by
    have := sqS_le h k
    have := Nat.mul_le_mul (h k) (h k)
    simp only [sqS]; omega
theorem nrm_le {m x : Nat} (hm : m ≤ 5) : nrm m x ≤ 5 := by
  have := pop_le m x
  unfold nrm; omega
end Go.Proofs.Ytopmdmafameknaa
