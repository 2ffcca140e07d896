/- stairs: areHeights, stair, Stair, and the reference's Steps and Stair -/
import Derived.Test.YtellnklbkjajbaaDoorSt
import Derived.Test.YtellnklbkjajbaaDoorOt
namespace Go.Proofs.YtellnklbkjajbaaDoor
open Go.RowKit

theorem quiet_eq' {P : Program} {f : FuncId} {args : Array Value} {w : World} {n : Nat} {v : Value}
    (h : Calls P f args (w.drewN n) fun e w' => e = .returned v ∧ w.drewN n = w') : Calls P f args (w.drewN n) fun e w'' => e = .returned v ∧ ∃ m, w'' = w.drewN m :=
  h.mono fun _ _ ⟨he, hm⟩ => ⟨he, n, hm.symm⟩

theorem isNaN_any (x : Int) (w : World) : Calls Tryd.prog 88 #[.int .i64 x] w fun e w' => e = .returned (.bool false) ∧ w = w' := by
  have hx : (x != x) = false := by simp
  go_enter Tryd.func88, Tryd.ntmps88
  go_wp2
  go_ret
  exact ⟨rfl, rfl⟩
theorem less_any (a b : Int) (w : World) : Calls Tryd.prog 100 #[.int .i64 a, .int .i64 b] w fun e w' => e = .returned (.bool (decide (a < b))) ∧ w = w' := by
  have HN := Lib.hid (fun x w => isNaN_any x w)
  go_enter Tryd.func100, Tryd.ntmps100
  go_wp2_with fail
  refine (HN.out _ _).mono ?_
  rintro e w' ⟨rfl, rfl⟩
  go_wp2_with fail
  go_ret
  exact ⟨rfl, rfl⟩

def sortedB (xs : List Int) : Bool := decide (∀ k, k < xs.length → 0 < k → xs.getD (k - 1) 0 ≤ xs.getD k 0)
theorem Ints.cells {w : World} {v : Value} {xs : List Int} (h : Ints w v xs) : ∃ ao cap, v = .slice ao xs.length cap ∧ xs.length ≤ cap ∧ xs.length ≤ 17592186044416 ∧
    ∀ wr, Below w.heap.size w wr → ∀ k, k < xs.length → ∃ b o, ao = some ⟨b, o, none⟩ ∧ wr.cell? ⟨b, o + k, none⟩ = some (.int .i64 (xs.getD k 0)) := by
  obtain ⟨ao, cap, e, h1, h2, hx⟩ := h.open
  exact ⟨ao, cap, e, h1, h2, fun wr hb k hk => by
    obtain ⟨b, o, e, hc⟩ := hx k hk
    exact ⟨b, o, e, (hb.cell (World.block_lt_of_cell? w _ hc)).trans hc⟩⟩

set_option maxHeartbeats 1000000 in
theorem isSorted_any (v : Value) (xs : List Int) (w : World) (h : Ints w v xs) :
    Calls Tryd.prog 85 #[v] w fun e w' => e = .returned (.bool (sortedB xs)) ∧ Below w.heap.size w w' := by
  obtain ⟨ao, cap, rfl, h1, h2, hx⟩ := h.cells
  have HX := Lib.hid hx
  have HLs := Lib.hid (fun a b w => less_any a b w)
  have HB0 := Lib.hid (Below.refl w.heap.size w)
  clear h hx
  go_enter Tryd.func85, Tryd.ntmps85
  go_wp2_with fail
  go_loopw [3] (fun ii wr => Below w.heap.size w wr ∧ ∃ i : Int, ii = .int .i64 i ∧ -1 ≤ i ∧ i ≤ (xs.length : Int) - 1 ∧ ∀ k, k < xs.length → 0 < k → i < (k:Int) → xs.getD (k - 1) 0 ≤ xs.getD k 0) (fun ii _ => (intOf ii).toNat)
  case atStart => exact ⟨HB0.out, (xs.length : Int) - 1, by go_num, by omega, by omega, fun k hk h0 hi => by omega⟩
  case round =>
    obtain ⟨hB, i, rfl, hi0, hi1, hs⟩ := hrel
    by_cases hp : 0 < i
    · obtain ⟨k, rfl⟩ : ∃ k : Nat, i = (k : Int) + 1 := ⟨(i - 1).toNat, by omega⟩
      obtain ⟨b, o, rfl, hc1⟩ := HX.out wr hB (k + 1) (by omega)
      obtain ⟨b', o', e, hc0⟩ := HX.out wr hB k (by omega)
      cases e
      have HL := Lib.hid (fun w => HLs.out (xs.getD (k + 1) 0) (xs.getD k 0) w)
      have HB := Lib.hid hB
      have HS := Lib.hid hs
      have hk0 : (0:Int) ≤ (k:Int) + 1 := by omega
      have hk1 : (k:Int) + 1 < (xs.length : Int) := by omega
      have hk2 : (0:Int) ≤ (k:Int) := by omega
      have hk3 : (k:Int) < (xs.length : Int) := by omega
      have hc1' : wr.cell? ⟨b, o + ((k:Int) + 1).toNat, none⟩ = some (.int .i64 (xs.getD (k + 1) 0)) := by rw [show ((k:Int) + 1).toNat = k + 1 by omega]; exact hc1
      have hsub : (k:Int) + 1 - 1 = k := by omega
      clear hs hB
      by_cases hlt : xs.getD (k + 1) 0 < xs.getD k 0
      · have HR : Hid (sortedB xs = false) := Lib.hid (decide_eq_false fun h => by have := h (k + 1) (by omega) (by omega); simp only [Nat.add_sub_cancel] at this; omega)
        rw [decide_eq_true hlt] at HL
        clear hlt
        generalize xs.getD (k + 1) 0 = x1 at *
        generalize xs.getD k 0 = x0 at *
        go_wp2_with fail
        go_quiet ((go_at_call 100; exact quiet_eq' (HL.out _)))
        go_wp2_with fail
        go_ret
        exact ⟨ret_bool HR.out.symm, below_drewN HB.out _⟩
      · have HR : Hid (∀ j, j < xs.length → 0 < j → (k:Int) < (j:Int) → xs.getD (j - 1) 0 ≤ xs.getD j 0) := Lib.hid fun j hj h0 hi => by
          by_cases e : j = k + 1
          · subst e; simp only [Nat.add_sub_cancel]; omega
          · exact HS.out j hj h0 (by omega)
        rw [decide_eq_false hlt] at HL
        clear hlt
        generalize xs.getD (k + 1) 0 = x1 at *
        generalize xs.getD k 0 = x0 at *
        go_wp2_with fail
        go_quiet ((go_at_call 100; exact quiet_eq' (HL.out _)))
        go_wp2_with fail
        go_roundw
        case rel => exact ⟨below_drewN HB.out _, k, by go_num, by omega, by omega, HR.out⟩
        case measure => simp [intOf]
    · have HR : Hid (sortedB xs = true) := Lib.hid (decide_eq_true fun k hk h0 => hs k hk h0 (by omega))
      have HB := Lib.hid hB
      clear hs hB
      go_wp2_with fail
      go_ret
      exact ⟨ret_bool HR.out.symm, HB.out⟩
end Go.Proofs.YtellnklbkjajbaaDoor
