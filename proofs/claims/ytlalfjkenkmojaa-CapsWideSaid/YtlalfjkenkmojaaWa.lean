/- CapsWide: the walk -/
import Derived.Test.YtlalfjkenkmojaaSn
namespace Go.Proofs.Ytlalfjkenkmojaa
open Go.RowKit

theorem mdw_snoc {l : List Nat} {f : Nat → Nat} {k : Nat} (h : k < l.length) : (l.map f).take (k + 1) = (l.map f).take k ++ [f (l.getD k 0)] := by
  rw [List.take_succ_eq_append_getElem (by simpa using h)]
  simp [h]
theorem gcd_step (a b : Nat) : Nat.gcd b (a % b) = Nat.gcd a b := by rw [Nat.gcd_comm b, ← Nat.gcd_rec, Nat.gcd_comm]
theorem times_row {z T n : Nat} (hz : z < n) (hT : T ≤ 40) (hn : n ≤ 40) : ∃ p : Nat, (z:Int) * (T:Int) = (p:Int) ∧ p ≤ 1600 ∧ (p:Int).tmod (n:Int) = ((z * T % n : Nat) : Int) :=
  ⟨z * T, by rw [Int.natCast_mul], Nat.le_trans (Nat.mul_le_mul (show z ≤ 40 by omega) hT) (by decide), rfl⟩
set_option maxHeartbeats 800000 in
set_option maxRecDepth 100000 in
theorem wide_bad (n : Int) (v : Value) (xs : List Int) (by_ : Int) (w : World) (h : Ints w v xs) (hr : resB n xs = false) :
    Calls Try.prog 13 #[.int .i64 n, v, .int .i64 by_] w fun e w' => e = .returned (.bool true) ∧ Below w.heap.size w w' := by
  have HL := Lib.hid (fun w' (hb : Below w.heap.size w w') => list_any v _ w' (h.below hb (Nat.le_refl _)))
  have HAw := Lib.hid (fun w => awake_any w)
  have HSm := Lib.hid (fun v' w' (h' : Ints w' v' (xs.take 90)) => Apart_bad n v' _ w' h' (by rw [resB_take, hr]))
  clear h hr
  have HB0 := Lib.hid (Below.refl w.heap.size w)
  go_enter Try.func13, Try.ntmps13
  go_wp2_with fail
  refine (HL.out w HB0.out).mono ?_
  rintro e w1 ⟨v1, rfl, hv1, hb1⟩
  have HB1 := Lib.hid (HB0.out.trans (hb1.mono HB0.out.size))
  have A_1 := Lib.hid (hv1)
  clear hb1 hv1
  go_wp2_with fail
  refine (HSm.out v1 w1 A_1.out).mono ?_
  rintro e w' ⟨rfl, rfl⟩
  clear A_1
  go_wp2_with fail
  refine (HAw.out w1).mono ?_
  rintro e w2 ⟨rfl, hb2⟩
  have HB2 := Lib.hid (HB1.out.trans (hb2.mono HB1.out.size))
  clear hb2
  go_wp2
  go_ret
  exact ⟨rfl, HB2.out⟩
end Go.Proofs.Ytlalfjkenkmojaa
