/- CapsLimits: the walk, none arg -/
import Derived.Test.YtlalfjkenkmojaaLx
namespace Go.Proofs.Ytlalfjkenkmojaa
open Go.RowKit

set_option maxHeartbeats 4000000 in
set_option maxRecDepth 100000 in
theorem limits_none_arg (n c : Nat) (k : Int) (w : World) (h1 : 1 ≤ n) (h2 : n ≤ 40) (h3 : 1 ≤ c) (h4 : c ≤ 3) (hS : limS c < n) (hW : waB n c k = false) :
    Calls Try.prog 15 #[.int .i64 n, .int .i64 c, .int .i64 k] w fun e w' => e = .returned (.bool true) ∧ Below w.heap.size w w' := by
  have HAw := Lib.hid (fun w => awake_any w)
  have hixS := fun w => tabS c h3 h4 w
  have HSc := Lib.hid (schur_none n c w h1 h2 h3 h4 hS)
  generalize limS c = S at *
  have HWa := Lib.hid (fun w => Waerden_bad n c k w hW)
  clear hW
  go_enter Try.func15, Try.ntmps15
  go_wp2_with fail
  refine HSc.out.mono ?_
  rintro e w1 ⟨sa, sc, rfl, hb1⟩
  have HB1 := Lib.hid hb1
  clear hb1 HSc
  go_wp2_with fail
  go_loopw [11] (fun i wr => i = .int .i64 1 ∧ wr = w1) (fun _ _ => 0)
  case atStart => exact ⟨rfl, rfl⟩
  case round =>
    obtain ⟨rfl, rfl⟩ := hrel
    have HBa := HB1
    clear HB1
    go_wp2_with fail
    refine (HWa.out _).mono ?_
    rintro e w' ⟨rfl, rfl⟩
    go_wp2_with fail
    refine (HAw.out _).mono ?_
    rintro e w9 ⟨rfl, hb9⟩
    have HB9 := Lib.hid (HBa.out.trans (hb9.mono HBa.out.size))
    clear hb9
    go_wp2
    go_ret
    exact ⟨rfl, HB9.out⟩
end Go.Proofs.Ytlalfjkenkmojaa
