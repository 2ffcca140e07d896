/- SignsMakes: what its walks share -/
import Derived.Test.YtopmdmafameknaaRt
import Derived.Test.YtopmdmafameknaaRd
import Derived.Test.YtopmdmafameknaaBw
namespace Go.Proofs.Ytopmdmafameknaa
open Go.RowKit

theorem eq_same (v v' : Value) (hs : List Nat) (w : World) (h : Nats w v hs) (h' : Nats w v' hs) :
    Calls Try.prog 23 #[v, v'] w fun e w' => e = .returned (.bool true) ∧ Below w.heap.size w w' :=
  (equal_any v v' _ _ w h h').mono fun e w' ⟨he, hb⟩ => ⟨by rw [he, show eqB (nats hs) (nats hs) = true from decide_eq_true rfl], hb⟩
theorem double_bad {w w' : World} {k : Int} {e : Ending} (hk : ¬ (0 ≤ k ∧ k ≤ 4)) (h : DoublePost w k e w') : e = .returned (.tuple #[.slice none 0 0, .int .i64 2]) ∧ Below w.heap.size w w' := by
  unfold DoublePost at h; rw [if_neg hk] at h; exact h
theorem double_good {w w' : World} {k : Nat} {e : Ending} (hk : k ≤ 4) (h : DoublePost w k e w') : ∃ v, e = .returned (.tuple #[v, .int .i64 0]) ∧ Nats w' v (doubleS k) ∧ Below w.heap.size w w' := by
  unfold DoublePost at h; rw [if_pos ⟨by omega, by omega⟩, Int.toNat_natCast] at h
  obtain ⟨⟨v, he, hv⟩, hb⟩ := h
  exact ⟨v, he, hv, hb⟩
theorem squares_bad {w w' : World} {k : Int} {e : Ending} (hk : isQ k = false) (h : SquaresPost w k e w') : e = .returned (.tuple #[.slice none 0 0, .int .i64 2]) ∧ Below w.heap.size w w' := by
  unfold SquaresPost at h; rw [hk] at h; exact h
theorem squares_fine {w w' : World} {k : Nat} {e : Ending} (hk : isQ k = true) (h : SquaresPost w k e w') : ∃ v, e = .returned (.tuple #[v, .int .i64 0]) ∧ Nats w' v (squaresS k) ∧ Below w.heap.size w w' := by
  unfold SquaresPost at h; rw [hk, if_pos rfl, Int.toNat_natCast] at h
  obtain ⟨⟨v, he, hv⟩, hb⟩ := h
  exact ⟨v, he, hv, hb⟩
theorem times_bad {w w' : World} {xs ys : List Int} {e : Ending} (hk : (matB 16 xs && matB 16 ys) = false) (h : TimesPost w xs ys e w') : e = .returned (.tuple #[.slice none 0 0, .int .i64 2]) ∧ Below w.heap.size w w' := by
  unfold TimesPost at h; rw [hk] at h; exact h
theorem times_big {w w' : World} {a b : List Nat} {m n : Nat} {e : Ending} (ha : Mat m a) (hb : Mat n b) (hs : ¬ m * n ≤ 16) (h : TimesPost w (nats a) (nats b) e w') : e = .returned (.tuple #[.slice none 0 0, .int .i64 6]) ∧ Below w.heap.size w w' := by
  unfold TimesPost at h
  rw [matB_mk ha ha.le, matB_mk hb hb.le, nats_length, nats_length, ha.len, hb.len, if_pos (by rfl), if_neg hs] at h
  exact h
theorem times_fine {w w' : World} {a b : List Nat} {m n : Nat} {e : Ending} (ha : Mat m a) (hb : Mat n b) (hs : m * n ≤ 16) (h : TimesPost w (nats a) (nats b) e w') : ∃ v, e = .returned (.tuple #[v, .int .i64 0]) ∧ Nats w' v (timesS m n a b) ∧ Below w.heap.size w w' := by
  unfold TimesPost at h
  rw [matB_mk ha ha.le, matB_mk hb hb.le, nats_length, nats_length, ha.len, hb.len, if_pos (by rfl), if_pos hs, nats_toNat, nats_toNat] at h
  obtain ⟨⟨v, he, hv⟩, hb⟩ := h
  exact ⟨v, he, hv, hb⟩
theorem nats_take {n : Nat} {a : List Nat} (h : Mat n a) : (nats a).take 20 = nats a := List.take_of_length_le (by rw [nats_length, h.len]; have := h.le; omega)
end Go.Proofs.Ytopmdmafameknaa
