/- planes: inverse, factor -/
import Derived.Test.YtllokfkagneneaaA
import Derived.Deep.RegionHeld3
namespace Go.Proofs.Ytllokfkagneneaa
open Go.RowKit

/-- 1 divided by r modulo p, 0 if there is none. -/
def invS (p : Nat) (r : Int) : Int := ((List.range p).find? (fun (k : Nat) => ((k : Int) * r) % p == 1)).elim 0 fun (k : Nat) => (k : Int)

theorem invS_some {p k : Nat} {r : Int} (h : ∀ j : Nat, j < k → ¬ ((j : Int) * r) % p = 1) (hk : k < p) (h1 : ((k : Int) * r) % p = 1) : invS p r = k := by
  unfold invS
  have : (List.range p).find? (fun (k : Nat) => ((k : Int) * r) % p == 1) = some k := by
    rw [List.find?_range_eq_some]
    exact ⟨by simpa using h1, by simpa using hk, fun j hj => by simpa using h j hj⟩
  rw [this]; rfl
theorem invS_none {p : Nat} {r : Int} (h : ∀ j : Nat, j < p → ¬ ((j : Int) * r) % p = 1) : invS p r = 0 := by
  unfold invS
  have : (List.range p).find? (fun (k : Nat) => ((k : Int) * r) % p == 1) = none := by
    rw [List.find?_eq_none]
    intro j hj
    simpa using h j (by simpa using hj)
  rw [this]; rfl

theorem mulr_bd {k p : Nat} {r : Int} (hk : k < p) (hp : p ≤ 7) (hr : 0 ≤ r) (hr' : r < p) : 0 ≤ (k : Int) * r ∧ (k : Int) * r ≤ 49 := by
  have h1 : 0 ≤ (k : Int) * r := Int.mul_nonneg (by omega) hr
  have h2 : (k : Int) * r ≤ 7 * 7 := Int.mul_le_mul (by omega) (by omega) hr (by omega)
  omega

set_option maxHeartbeats 1000000 in
theorem inverse_any (b p : Nat) (n : Int) (w : World) (hc : w.cell? ⟨b, 0, none⟩ = some (.int .i64 p)) (hp : 2 ≤ p) (hp' : p ≤ 7) :
    Calls Try.prog 97 #[.pointer (some ⟨b, 0, none⟩), .int .i64 n] w fun e w' => e = .returned (.int .i64 (invS p (n % p))) ∧ ∃ m, w' = w.drewN m := by
  have hr := Int.emod_nonneg n (show (p : Int) ≠ 0 by omega)
  have hr' := Int.emod_lt_of_pos n (show 0 < (p : Int) by omega)
  go_enter Try.func97, Try.ntmps97
  go_wp2
  go_loopw [10] (fun i wr => ∃ k m : Nat, k ≤ p ∧ i = .int .i64 k ∧ (∀ j : Nat, j < k → ¬ ((j : Int) * (n % p)) % p = 1) ∧ wr = w.drewN m) (fun i _ => p - (intOf i).toNat)
  case atStart => exact ⟨0, 0, Nat.zero_le _, rfl, fun j hj => absurd hj (by omega), rfl⟩
  case round =>
    obtain ⟨k, m, hk, rfl, hall, hw⟩ := hrel
    have HW := Lib.hid hw
    have hcw : wr.cell? ⟨b, 0, none⟩ = some (.int .i64 p) := by rw [hw]; exact hc
    have HA := Lib.hid hall
    have HC := Lib.hid hc
    clear hw hall hc
    by_cases hlt : k < p
    · obtain ⟨m1, m2⟩ := mulr_bd hlt hp' hr hr'
      have hq : IntKind.i64.wrap ((k:Int) * (n % p)) = (k:Int) * (n % p) := IntWalk.i64_in _ (by omega)
      have hz : ((p:Int) == 0) = false := by simp; omega
      have ht : ((k:Int) * (n % p)).tmod p = ((k:Int) * (n % p)) % p := Int.tmod_eq_emod_of_nonneg (by omega)
      by_cases h1 : ((k:Int) * (n % p)) % p = 1
      · have H := Lib.hid (invS_some HA.out hlt h1)
        go_wp2
        go_quiet ((go_at_call 88; exact Calls.quiet_of (mod_any b p n _ hcw (by omega) (by omega))))
        go_wp2
        go_ret
        exact ⟨ret_int H.out.symm, m + nq, by rw [HW.out, World.drewN_drewN]⟩
      · have H := Lib.hid (fun (j : Nat) (hj : j < k + 1) => if e : j = k then e ▸ h1 else HA.out j (by omega))
        go_wp2
        go_quiet ((go_at_call 88; exact Calls.quiet_of (mod_any b p n _ hcw (by omega) (by omega))))
        go_wp2
        go_roundw
        case rel => exact ⟨k + 1, m + nq, by omega, by go_num, H.out, by rw [HW.out, World.drewN_drewN]⟩
        case measure => simp [intOf]; omega
    · obtain rfl : k = p := by omega
      go_wp2
      go_ret
      exact ⟨ret_int (invS_none HA.out).symm, m, HW.out⟩
end Go.Proofs.Ytllokfkagneneaa
