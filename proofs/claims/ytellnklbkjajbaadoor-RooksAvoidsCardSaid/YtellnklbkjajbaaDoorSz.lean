/- how many elements sets have: the program's size and the reference's -/
import Derived.Test.YtellnklbkjajbaaDoorOn
import Derived.Test.YtellnklbkjajbaaDoorHb
namespace Go.Proofs.YtellnklbkjajbaaDoor
open Go.RowKit

theorem pop_fl : ∀ x < 64, pop 16 x = fl x := by decide +kernel
theorem fl_low : ∀ x < 64, x ≠ 0 → fl x = fl (x &&& (x - 1)) + 1 := by decide +kernel
theorem fl_bd : ∀ x < 64, fl x ≤ 6 := by decide +kernel

theorem size_any (x : Nat) (w : World) (hx : x < 64) :
    Calls Tryd.prog 60 #[.int .i64 x] w fun e w' => e = .returned (.int .i64 (fl x : Nat)) ∧ w = w' := by
  have HO := Lib.hid (ones_any x w (by omega))
  rw [pop_fl x hx] at HO
  have hu : IntKind.u64.wrap (x:Int) = x := ucast (by omega) (by omega)
  generalize fl x = m at *
  go_enter Tryd.func60, Tryd.ntmps60
  go_wp2_with fail
  refine HO.out.mono ?_
  rintro e w' ⟨rfl, rfl⟩
  go_wp2
  go_ret
  exact ⟨rfl, rfl⟩

set_option maxHeartbeats 400000 in
theorem rsize_any (x : Nat) (w : World) (hx : x < 64) :
    Calls Tryd.prog 61 #[.int .i64 x] w fun e w' => e = .returned (.int .i64 (fl x : Nat)) ∧ w = w' := by
  have hb := fl_bd x hx
  have HX : Hid (∃ m, fl x = m) := Lib.hid ⟨_, rfl⟩
  go_enter Tryd.func61, Tryd.ntmps61
  go_wp2_with fail
  go_loop [0, 3] (fun s c => ∃ y m : Nat, y < 64 ∧ m + fl y = fl x ∧ s = .int .i64 y ∧ c = .int .i64 m) (fun s _ => (intOf s).toNat)
  case atStart => exact ⟨x, 0, hx, by omega, rfl, rfl⟩
  case round =>
    obtain ⟨y, m, hy, hm, rfl, rfl⟩ := hrel
    by_cases h0 : y = 0
    · subst h0
      have e0 : fl 0 = 0 := by decide
      have HM : Hid (m = fl x) := Lib.hid (by omega)
      clear hm hb
      go_wp2_with fail
      go_ret
      exact ⟨ret_int (by rw [HM.out]), rfl⟩
    · have hst := fl_low y hy h0
      have hle : y &&& (y - 1) ≤ y - 1 := Nat.and_le_right
      have hand : bits .and .i64 (y:Int) ((y : Int) - 1) = ((y &&& (y - 1) : Nat) : Int) := by
        rw [show (y : Int) - 1 = ((y - 1 : Nat) : Int) by omega]
        exact i64_and _ _ (by omega) (by omega)
      have hm2 : m + 1 + fl (y &&& (y - 1)) = fl x := by omega
      have HM := Lib.hid hm2
      have hm6 : m ≤ 6 := by omega
      clear hst hm hm2
      generalize y &&& (y - 1) = z at *
      go_wp2_with fail
      go_round
      case rel => exact ⟨z, m + 1, by omega, HM.out, rfl, by go_num⟩
      case measure => simp [intOf]; omega
end Go.Proofs.YtellnklbkjajbaaDoor
