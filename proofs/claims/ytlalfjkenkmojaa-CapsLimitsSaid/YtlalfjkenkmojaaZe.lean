/- CapsLimits: the walk, none none3 -/
import Derived.Test.YtlalfjkenkmojaaLx
namespace Go.Proofs.Ytlalfjkenkmojaa
open Go.RowKit

set_option maxHeartbeats 4000000 in
set_option maxRecDepth 100000 in
theorem limits_none_none3 (n c : Nat) (w : World) (h1 : 1 ≤ n) (h2 : n ≤ 40) (h3 : 1 ≤ c) (h4 : c ≤ 3) (hS : limS c < n) (h5 : c = 3 → n ≤ 27) (hW : limW c < n) :
    Calls Try.prog 15 #[.int .i64 n, .int .i64 c, .int .i64 3] w fun e w' => e = .returned (.bool true) ∧ Below w.heap.size w w' := by
  have HAw := Lib.hid (fun w => awake_any w)
  have hixS := fun w => tabS c h3 h4 w
  have HSc := Lib.hid (schur_none n c w h1 h2 h3 h4 hS)
  generalize limS c = S at *
  have HWa := Lib.hid (fun w => wa3_none n c w h1 h2 h3 h4 h5 hW)
  have hixW := fun w => tabW c h3 h4 w
  generalize limW c = W at *
  clear h5
  go_enter Try.func15, Try.ntmps15
  go_wp2_with fail
  refine HSc.out.mono ?_
  rintro e w1 ⟨sa, sc, rfl, hb1⟩
  have HB1 := Lib.hid hb1
  clear hb1 HSc
  go_wp2_with fail
  go_loopw [11] (fun i wr => i = .int .i64 1 ∧ wr = w1) (fun _ _ => 0)
  case atStart => exact ⟨rfl, rfl⟩
  case round =>
    obtain ⟨rfl, rfl⟩ := hrel
    have HBa := HB1
    clear HB1
    go_wp2_with fail
    refine (HWa.out _).mono ?_
    rintro e w2 ⟨ta, tc, rfl, hb2⟩
    have HB2 := Lib.hid (HBa.out.trans (hb2.mono HBa.out.size))
    clear hb2
    go_wp2_with fail
    go_loopw [205] (fun i wr => i = .int .i64 0 ∧ wr = w2) (fun _ _ => 0)
    case atStart => exact ⟨rfl, rfl⟩
    case round =>
      obtain ⟨rfl, rfl⟩ := hrel
      go_wp2_with fail
      refine (HAw.out _).mono ?_
      rintro e w9 ⟨rfl, hb9⟩
      have HB9 := Lib.hid (HB2.out.trans (hb9.mono HB2.out.size))
      clear hb9
      go_wp2
      go_ret
      exact ⟨rfl, HB9.out⟩
end Go.Proofs.Ytlalfjkenkmojaa
