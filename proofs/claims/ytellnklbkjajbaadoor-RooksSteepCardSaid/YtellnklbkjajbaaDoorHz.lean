/- the first hit number is how many permutations hit nothing -/
import Derived.Test.YtellnklbkjajbaaDoorHh
import Derived.Test.YtellnklbkjajbaaDoorPv
import Derived.Test.YtellnklbkjajbaaDoorHc
namespace Go.Proofs.YtellnklbkjajbaaDoor
open Go.RowKit

theorem fold_zero (bs : List Nat) : ∀ (ps : List (List Nat)) (v : List Int), 0 < v.length → 0 ≤ v.getD 0 0 → v.getD 0 0 + (ps.length : Int) < 9223372036854775808 →
    (ps.foldl (hit1 bs) v).getD 0 0 = v.getD 0 0 + ((ps.filter fun p => hitK bs p bs.length == 0).length : Nat)
  | [], v, _, _, _ => by simp
  | p :: ps, v, h0, h1, h2 => by
    rw [List.foldl_cons]
    have hl : (p :: ps).length = ps.length + 1 := rfl
    rw [hl] at h2
    by_cases c : hitK bs p bs.length = 0
    · have e : (hit1 bs v p).getD 0 0 = v.getD 0 0 + 1 := by
        unfold hit1
        rw [c]
        have : (v.set 0 (wrap64 (v.getD 0 0 + 1))).getD 0 0 = wrap64 (v.getD 0 0 + 1) := by simp [h0]
        rw [this, wrap_in (by omega) (by omega)]
      rw [fold_zero bs ps _ (by rw [hit1_length]; exact h0) (by omega) (by omega), e, List.filter_cons, if_pos (by simpa using c), List.length_cons]
      omega
    · have e : (hit1 bs v p).getD 0 0 = v.getD 0 0 := by
        unfold hit1
        generalize hitK bs p bs.length = m at *
        simp [c]
      rw [fold_zero bs ps _ (by rw [hit1_length]; exact h0) (by omega) (by omega), e, List.filter_cons, if_neg (by simpa using c)]
theorem allP_le {n : Nat} (hn : n ≤ 6) : (allP n).length ≤ 720 := by
  rw [allP_comps, comps_len (2 ^ n - 1) (by have := pw6 n hn; omega) n 0 (by
      have : sub (2 ^ n - 1) 0 = 2 ^ n - 1 := Nat.eq_of_testBit_eq fun j => by rw [sub_bit]; simp
      rw [this, fl_full n hn])]
  exact fac_le n hn
theorem hits_zero {n : Nat} {bs : List Nat} (hb : Brd n bs) : (hitsL bs).getD 0 0 = ((freeL n bs).length : Nat) := by
  have hl := hb.len
  have h1 := allP_le hb.le
  rw [freeL_filter hb]
  unfold hitsL
  rw [hl]
  have e0 : (List.replicate (n + 1) (0:Int)).getD 0 0 = 0 := by simp
  have := fold_zero bs (allP n) (List.replicate (n + 1) 0) (by simp) (by omega) (by omega)
  rw [this, e0, hl]
  simp
end Go.Proofs.YtellnklbkjajbaaDoor
