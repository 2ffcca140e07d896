/- the reference's Barrier -/
import Derived.Test.YtellnklbkjajbaaDoorSz
import Derived.Test.YtellnklbkjajbaaDoorOt
namespace Go.Proofs.YtellnklbkjajbaaDoor
open Go.RowKit

/-- What Barrier answers: the first barrier, or that there is none. -/
def BarPost (n : Nat) (bs : List Nat) (e : Ending) : Prop :=
  (∃ S, S < 2 ^ n ∧ barB n bs S = true ∧ (∀ T, T < S → barB n bs T = false) ∧ e = .returned (.tuple #[.int .i64 S, .int .i64 (cm (2 ^ n - 1) bs S n : Nat), .int .i64 0])) ∨
  ((∀ S, S < 2 ^ n → barB n bs S = false) ∧ e = .returned (.tuple #[.int .i64 0, .int .i64 0, .int .i64 4]))
theorem BarPost.yes {n S : Nat} {bs : List Nat} (h1 : S < 2 ^ n) (h2 : barB n bs S = true) (h3 : ∀ T, T < S → barB n bs T = false) : BarPost n bs (.returned (.tuple #[.int .i64 S, .int .i64 (cm (2 ^ n - 1) bs S n : Nat), .int .i64 0])) :=
  .inl ⟨S, h1, h2, h3, rfl⟩
theorem BarPost.no {n : Nat} {bs : List Nat} (h : ∀ S, S < 2 ^ n → barB n bs S = false) : BarPost n bs (.returned (.tuple #[.int .i64 0, .int .i64 0, .int .i64 4])) := .inr ⟨h, rfl⟩

set_option maxHeartbeats 1000000 in
theorem rBarrier_any (v : Value) (bs : List Nat) (n : Nat) (w : World) (hb : Brd n bs) (h : Nats w v bs) :
    Calls Tryd.prog 26 #[v] w fun e w' => BarPost n bs e ∧ w = w' := by
  obtain ⟨ao, cap, rfl, h1, _, hx⟩ := h.open
  have hl := hb.len
  have hn6 := hb.le
  have HX := Lib.hid hx
  have hpw := pw6 n hn6
  have hwp := wrap_pw n (by omega)
  have hpc := pw_cast n
  have HLt := Lib.hid (fun k => Nat.lt_of_lt_of_le (hb.get k) hpw.2)
  have HCl := Lib.hid (fun S m => cm_lt (n := n) bs S (show 2 ^ n - 1 < 2 ^ n by omega) m)
  have HLS := Lib.hid (fun x w hx => rsize_any x w hx)
  have HBd := Lib.hid (fun x hx => fl_bd x hx)
  have HBB : Hid (∀ S, barB n bs S = decide (n < fl S + fl (cm (2 ^ n - 1) bs S n))) := Lib.hid fun _ => rfl
  rw [hl] at h1 HX ⊢
  clear h hx hb
  obtain ⟨N, hN⟩ : ∃ N : Nat, 2 ^ n = N := ⟨_, rfl⟩
  rw [hN] at hpw hpc HCl HBB
  have hN2 : (2:Int) ^ n = N := hpc.symm
  rw [hN2] at hwp
  have HP1 : Hid (∀ S, S < 2 ^ n ↔ S < N) := Lib.hid fun S => by rw [hN]
  have HP2 : Hid (2 ^ n - 1 = N - 1) := Lib.hid (by rw [hN])
  clear hN hpc
  go_enter Tryd.func26, Tryd.ntmps26
  go_wp2_with fail
  go_loop [12] (fun kk => ∃ k : Nat, k ≤ N ∧ kk = .int .i64 k ∧ ∀ S, S < k → barB n bs S = false) (fun kk => N - (intOf kk).toNat)
  case atStart => exact ⟨0, Nat.zero_le _, rfl, fun S hS => absurd hS (Nat.not_lt_zero _)⟩
  case round =>
    obtain ⟨k, hk, rfl, hz⟩ := hrel
    by_cases hlt : k < N
    · have HZ := Lib.hid hz
      have hm1 : IntKind.i64.wrap ((N:Int) - 1) = ((N - 1 : Nat) : Int) := by rw [i64_of (by omega) (by omega)]; omega
      clear hz
      go_wp2_with fail
      go_loop [6, 21] (fun c ii => ∃ i : Nat, i ≤ n ∧ ii = .int .i64 i ∧ c = .int .i64 (cm (N - 1) bs k i : Nat)) (fun _ ii => n - (intOf ii).toNat)
      case atStart => exact ⟨0, Nat.zero_le _, rfl, rfl⟩
      case round =>
        obtain ⟨i, hi, rfl, rfl⟩ := hrel
        have hcl := HCl.out k i
        by_cases hin : i < n
        · obtain ⟨b, o, rfl, hcb⟩ := HX.out i hin
          have hr := HLt.out i
          have hbit := bit_and1 k i (by omega)
          have HS : Hid (cm (N - 1) bs k (i + 1) = if k.testBit i then cm (N - 1) bs k i &&& bs.getD i 0 else cm (N - 1) bs k i) := rfl
          have hi0 : (0:Int) ≤ (i:Int) := by omega
          generalize cm (N - 1) bs k i = c at *
          generalize bs.getD i 0 = r at *
          cases hb : k.testBit i with
          | true =>
            rw [hb] at hbit HS
            have hbit' : bits .and .i64 ((k:Int) / 2 ^ i) 1 = 1 := hbit
            have hand := i64_and c r (by omega) (by omega)
            clear hbit hb
            go_wp2_with fail
            go_round
            case rel => exact ⟨i + 1, by omega, by go_num, by rw [HS.out]; rfl⟩
            case measure => simp [intOf]; omega
          | false =>
            rw [hb] at hbit HS
            have hbit' : bits .and .i64 ((k:Int) / 2 ^ i) 1 = 0 := hbit
            clear hbit hb
            go_wp2_with fail
            go_round
            case rel => exact ⟨i + 1, by omega, by go_num, by rw [HS.out]; rfl⟩
            case measure => simp [intOf]; omega
        · obtain rfl : i = n := by omega
          have HC1 := Lib.hid (HLS.out k w (by omega))
          have HC2 := Lib.hid (HLS.out (cm (N - 1) bs k i) w (by omega))
          have b1 := HBd.out k (by omega)
          have b2 := HBd.out (cm (N - 1) bs k i) (by omega)
          have HBk := Lib.hid (HBB.out k)
          have HPk := Lib.hid (fun h2 h3 => BarPost.yes (n := i) (bs := bs) ((HP1.out k).2 hlt) h2 h3)
          rw [HP2.out] at HPk
          clear hin
          generalize cm (N - 1) bs k i = c at *
          generalize fl k = s1 at *
          generalize fl c = s2 at *
          by_cases hgt : i < s1 + s2
          · have HBt : Hid (barB i bs k = true) := Lib.hid (by rw [HBk.out]; exact decide_eq_true hgt)
            clear HBk
            go_wp2_with fail
            refine HC1.out.mono ?_
            rintro e w' ⟨rfl, rfl⟩
            go_wp2_with fail
            refine HC2.out.mono ?_
            rintro e w' ⟨rfl, rfl⟩
            go_wp2_with fail
            go_ret3
            exact ⟨HPk.out HBt.out HZ.out, rfl⟩
          · have HBt : Hid (barB i bs k = false) := Lib.hid (by rw [HBk.out]; exact decide_eq_false hgt)
            clear HBk
            go_wp2_with fail
            refine HC1.out.mono ?_
            rintro e w' ⟨rfl, rfl⟩
            go_wp2_with fail
            refine HC2.out.mono ?_
            rintro e w' ⟨rfl, rfl⟩
            go_wp2_with fail
            go_round
            case rel => exact ⟨k + 1, by omega, by go_num, fun S hS => by
              by_cases e : S = k
              · subst e; exact HBt.out
              · exact HZ.out S (by omega)⟩
            case measure => simp [intOf]; omega
    · obtain rfl : k = N := by omega
      have HR : Hid (BarPost n bs (.returned (.tuple #[.int .i64 0, .int .i64 0, .int .i64 4]))) := Lib.hid (BarPost.no fun S hS => hz S ((HP1.out S).1 hS))
      clear hz
      go_wp2_with fail
      go_ret3
      exact ⟨HR.out, rfl⟩
end Go.Proofs.YtellnklbkjajbaaDoor
