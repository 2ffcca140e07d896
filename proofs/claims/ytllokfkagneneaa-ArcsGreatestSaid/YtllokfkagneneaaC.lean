/- planes: factor, multiply, Index, number -/
import Derived.Test.YtllokfkagneneaaB
import Derived.StillTailTactics
namespace Go.Proofs.Ytllokfkagneneaa
open Go.RowKit

def facS (p : Nat) (xs : List Int) : Int := (xs.find? (fun (x : Int) => x % (p:Int) != 0)).elim 0 fun (x : Int) => invS p (x % p)

theorem facS_some {p : Nat} {xs : List Int} {k : Nat} (hk : k < xs.length) (h : ∀ j : Nat, j < k → (xs.getD j 0) % p = 0) (h1 : ¬ (xs.getD k 0) % p = 0) : facS p xs = invS p (xs.getD k 0 % p) := by
  have : xs.find? (fun (x : Int) => x % (p:Int) != 0) = some (xs.getD k 0) := by
    rw [List.find?_eq_some_iff_getElem]
    refine ⟨by simpa using h1, k, hk, by simp [hk], fun j hj => ?_⟩
    have := h j hj
    simp [show j < xs.length by omega] at this
    simp [this]
  unfold facS; rw [this]; rfl
theorem facS_none {p : Nat} {xs : List Int} (h : ∀ j : Nat, j < xs.length → (xs.getD j 0) % p = 0) : facS p xs = 0 := by
  have : xs.find? (fun (x : Int) => x % (p:Int) != 0) = none := by
    rw [List.find?_eq_none]
    intro x hx
    obtain ⟨k, hk, rfl⟩ := mem_getD hx
    simp only [h k hk]; simp
  unfold facS; rw [this]; rfl

set_option maxHeartbeats 1000000 in
theorem factor_any (b p : Nat) (v : Value) (xs : List Int) (w : World) (hc : w.cell? ⟨b, 0, none⟩ = some (.int .i64 p)) (hp : 2 ≤ p) (hp' : p ≤ 7) (h : Ints w v xs) :
    Calls Try.prog 112 #[.pointer (some ⟨b, 0, none⟩), v] w fun e w' => e = .returned (.int .i64 (facS p xs)) ∧ ∃ m, w' = w.drewN m := by
  obtain ⟨ao, cap, rfl, h1, h2, hx⟩ := h.open
  have HX := Lib.hid hx
  clear h hx
  go_enter Try.func112, Try.ntmps112
  go_wp2
  go_loopw [9] (fun i wr => ∃ k m : Nat, k ≤ xs.length ∧ i = .int .i64 k ∧ (∀ j : Nat, j < k → (xs.getD j 0) % p = 0) ∧ wr = w.drewN m) (fun i _ => xs.length - (intOf i).toNat)
  case atStart => exact ⟨0, 0, Nat.zero_le _, rfl, fun j hj => absurd hj (by omega), rfl⟩
  case round =>
    obtain ⟨k, m, hk, rfl, hall, hw⟩ := hrel
    have HW := Lib.hid hw
    have hcw : wr.cell? ⟨b, 0, none⟩ = some (.int .i64 p) := by rw [hw]; exact hc
    have HA := Lib.hid hall
    have HC := Lib.hid hc
    clear hall hc
    by_cases hlt : k < xs.length
    · obtain ⟨bx, ox, rfl, hck⟩ := HX.out k hlt
      have hck' : wr.cell? ⟨bx, ox + k, none⟩ = some (.int .i64 (xs.getD k 0)) := by rw [hw]; exact hck
      clear hck hw
      by_cases h1 : (xs.getD k 0) % p = 0
      · have H := Lib.hid (fun (j : Nat) (hj : j < k + 1) => if e : j = k then e ▸ h1 else HA.out j (by omega))
        have h0 : ((xs.getD k 0) % p != 0) = false := by simpa using h1
        clear h1
        generalize xs.getD k 0 = x at *
        go_wp2_with (go_at_call 88; refine (mod_any b p x wr hcw (by omega) (by omega)).mono ?_; rintro e w' ⟨rfl, nq, rfl⟩)
        go_roundw
        case rel => exact ⟨k + 1, m + nq, by omega, by go_num, H.out, by rw [HW.out, World.drewN_drewN]⟩
        case measure => simp [intOf]; omega
      · have H := Lib.hid (facS_some hlt HA.out h1)
        have h0 : ((xs.getD k 0) % p != 0) = true := by simpa using h1
        clear h1
        generalize xs.getD k 0 = x at *
        go_wp2_with fail
        refine (mod_any b p x wr hcw (by omega) (by omega)).mono ?_
        rintro e w' ⟨rfl, nq, rfl⟩
        go_wp2_with fail
        refine (inverse_any b p x (wr.drewN nq) hcw (by omega) (by omega)).mono ?_
        rintro e w' ⟨rfl, nq2, rfl⟩
        go_wp2
        go_ret
        exact ⟨ret_int H.out.symm, m + nq + nq2, by rw [HW.out]; simp [World.drewN_drewN, Nat.add_assoc]⟩
    · obtain rfl : k = xs.length := by omega
      clear hw
      go_wp2
      go_ret
      exact ⟨ret_int (facS_none HA.out).symm, m, HW.out⟩
end Go.Proofs.Ytllokfkagneneaa
