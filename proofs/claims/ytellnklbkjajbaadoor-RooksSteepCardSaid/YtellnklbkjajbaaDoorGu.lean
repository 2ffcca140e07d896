/- the reference's Guests -/
import Derived.Test.YtellnklbkjajbaaDoorHt
namespace Go.Proofs.YtellnklbkjajbaaDoor
open Go.RowKit

/-- May guest i take seat j? -/
def seatB (n i tk j : Nat) : Bool := !tk.testBit j && (decide (j ≠ i) && decide (j ≠ (i + 1) % n))
def guF (n : Nat) : Nat → Nat → Nat → Int
  | 0, _, _ => 1
  | m + 1, i, tk => (List.range n).foldl (fun k j => if seatB n i tk j then wrap64 (k + guF n m (i + 1) (tk ||| 2 ^ j)) else k) 0

set_option maxHeartbeats 1000000 in
theorem guests_step (n m i tk : Nat) (w : World) (h1 : 2 ≤ n) (hn : n ≤ 8) (hi : i + (m + 1) = n) (htk : tk < 256)
    (IH : ∀ (tk : Nat), tk < 256 → Calls Tryd.prog 72 #[.int .i64 n, .int .i64 ((i:Int) + 1), .int .i64 tk] w fun e w' => e = .returned (.int .i64 (guF n m (i + 1) tk)) ∧ w = w') :
    Calls Tryd.prog 72 #[.int .i64 n, .int .i64 i, .int .i64 tk] w fun e w' => e = .returned (.int .i64 (guF n (m + 1) i tk)) ∧ w = w' := by
  have HIH := Lib.hid IH
  have HF : Hid (guF n (m + 1) i tk = (List.range n).foldl (fun k j => if seatB n i tk j then wrap64 (k + guF n m (i + 1) (tk ||| 2 ^ j)) else k) 0) := rfl
  have hne : ((i:Int) == (n:Int)) = false := by simp; omega
  have hmod : (((i:Int) + 1) % (n:Int)) = (((i + 1) % n : Nat) : Int) := by simp
  have hnz : ¬ (n:Int) = 0 := by omega
  have hnz' : ¬ n = 0 := by omega
  clear IH
  obtain ⟨f, hf⟩ : ∃ f : Int → Nat → Int, f = fun k j => if seatB n i tk j then wrap64 (k + guF n m (i + 1) (tk ||| 2 ^ j)) else k := ⟨_, rfl⟩
  rw [← hf] at HF
  have HFF := Lib.hid hf
  clear hf
  go_enter Tryd.func72, Tryd.ntmps72
  go_wp2_with fail
  go_loop [7, 13] (fun s ii => ∃ j : Nat, j ≤ n ∧ ii = .int .i64 j ∧ s = .int .i64 ((List.range j).foldl f 0)) (fun _ ii => n - (intOf ii).toNat)
  case atStart => exact ⟨0, Nat.zero_le _, rfl, rfl⟩
  case round =>
    obtain ⟨j, hj, rfl, rfl⟩ := hrel
    by_cases hlt : j < n
    · have hbit := bit_and1 tk j (by omega)
      have HR : Hid ((List.range (j + 1)).foldl f 0 = f ((List.range j).foldl f 0) j) := Lib.hid (by rw [List.range_succ, List.foldl_append]; rfl)
      have HFj : Hid (∀ k, f k j = if seatB n i tk j then wrap64 (k + guF n m (i + 1) (tk ||| 2 ^ j)) else k) := Lib.hid fun k => by rw [HFF.out]
      have hj0 : (0:Int) ≤ (j:Int) := by omega
      generalize (List.range j).foldl f 0 = s at *
      cases htb : tk.testBit j with
      | true =>
        rw [htb] at hbit
        have hb1 : bits .and .i64 ((tk:Int) / 2 ^ j) 1 = 1 := hbit
        have HS : Hid (seatB n i tk j = false) := Lib.hid (by unfold seatB; rw [htb]; rfl)
        clear hbit htb
        go_wp2_with fail
        go_round
        case rel => exact ⟨j + 1, by omega, by go_num, by rw [HR.out, HFj.out, HS.out]; rfl⟩
        case measure => simp [intOf]; omega
      | false =>
        rw [htb] at hbit
        have hb1 : bits .and .i64 ((tk:Int) / 2 ^ j) 1 = 0 := hbit
        by_cases e1 : j = i
        · have hji : ((j:Int) != (i:Int)) = false := by simp; omega
          have HS : Hid (seatB n i tk j = false) := Lib.hid (by unfold seatB; rw [htb]; simp [e1])
          clear hbit htb e1
          go_wp2_with fail
          exact ⟨⟨j + 1, by omega, by go_num, by rw [HR.out, HFj.out, HS.out]; rfl⟩, by simp [intOf]; omega⟩
        · have hji : ((j:Int) != (i:Int)) = true := by simp; omega
          by_cases e2 : j = (i + 1) % n
          · have hjm : ((j:Int) != (((i + 1) % n : Nat) : Int)) = false := by
              rw [e2]; exact bne_self_eq_false _
            have HS : Hid (seatB n i tk j = false) := Lib.hid (by unfold seatB; rw [htb]; simp [e2])
            clear hbit htb e1 e2
            generalize (i + 1) % n = r at *
            go_wp2_with fail
            exact ⟨⟨j + 1, by omega, by go_num, by rw [HR.out, HFj.out, HS.out]; rfl⟩, by simp [intOf]; omega⟩
          · have hjm : ((j:Int) != (((i + 1) % n : Nat) : Int)) = true := bne_iff_ne.2 fun h => e2 (by exact_mod_cast h)
            have HS : Hid (seatB n i tk j = true) := Lib.hid (by unfold seatB; rw [htb]; simp [e1, e2])
            have hp256 : 2 ^ j ≤ 128 := Nat.pow_le_pow_right (n := 2) (by decide) (show j ≤ 7 by omega)
            have hor : bits .or .i64 (tk:Int) ((2:Int) ^ j) = ((tk ||| 2 ^ j : Nat) : Int) := by rw [← pw_cast]; exact i64_or _ _ (by omega) (by omega)
            have hwp := wrap_pw j (by omega)
            have HC := Lib.hid (HIH.out (tk ||| 2 ^ j) (Nat.or_lt_two_pow (n := 8) htk (by omega)))
            clear hbit htb e1 e2 HIH hp256
            generalize (i + 1) % n = r at *
            generalize guF n m (i + 1) (tk ||| 2 ^ j) = g at *
            go_wp2_with fail
            refine HC.out.mono ?_
            rintro e w' ⟨rfl, rfl⟩
            go_wp2_with fail
            exact ⟨⟨j + 1, by omega, by go_num, by rw [HR.out, HFj.out, HS.out]; rfl⟩, by simp [intOf]; omega⟩
    · obtain rfl : j = n := by omega
      go_wp2_with fail
      go_ret
      exact ⟨ret_int HF.out.symm, rfl⟩

theorem guests_any (n : Nat) (w : World) (h1 : 2 ≤ n) (hn : n ≤ 8) : ∀ m i tk : Nat, i + m = n → tk < 256 →
    Calls Tryd.prog 72 #[.int .i64 n, .int .i64 i, .int .i64 tk] w fun e w' => e = .returned (.int .i64 (guF n m i tk)) ∧ w = w' := by
  intro m
  induction m with
  | zero =>
    intro i tk hi _
    obtain rfl : i = n := by omega
    go_enter Tryd.func72, Tryd.ntmps72
    go_wp2_with fail
    go_ret
    exact ⟨rfl, rfl⟩
  | succ m ih => exact fun i tk hi htk => guests_step n m i tk w h1 hn hi htk fun tk' h' => ih (i + 1) tk' (by omega) h'

theorem rGuests_any (n : Nat) (w : World) (h1 : 2 ≤ n) (hn : n ≤ 8) :
    Calls Tryd.prog 41 #[.int .i64 n] w fun e w' => e = .returned (.int .i64 (guF n n 0 0)) ∧ w = w' := by
  have HC := Lib.hid (guests_any n w h1 hn n 0 0 (by omega) (by decide))
  go_enter Tryd.func41, Tryd.ntmps41
  go_wp2_with fail
  refine HC.out.mono ?_
  rintro e w' ⟨rfl, rfl⟩
  go_wp2
  go_ret
  exact ⟨rfl, rfl⟩
end Go.Proofs.YtellnklbkjajbaaDoor
