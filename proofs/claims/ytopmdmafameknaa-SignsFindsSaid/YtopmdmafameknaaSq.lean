/- Squares: the program's -/
import Derived.Test.YtopmdmafameknaaDw
namespace Go.Proofs.Ytopmdmafameknaa
open Go.RowKit

/-- One square modulo p, asked as the program asks it. -/
def sqT (p : Nat) (n : Int) (k : Nat) : Bool := ((k:Int) * k - n).tmod p == 0
def sqA (p : Nat) (n : Int) (k : Nat) : Bool := (List.range k).any (sqT p n)
def sqB (p : Nat) (n : Int) : Bool := sqA p n p
theorem sqA_succ (p : Nat) (n : Int) (k : Nat) : sqA p n (k+1) = (sqA p n k || sqT p n k) := by simp [sqA, List.range_succ]
theorem sqB_of {p k : Nat} {n : Int} (hk : k < p) (h : sqT p n k = true) : sqB p n = true := List.any_eq_true.2 ⟨k, List.mem_range.2 hk, h⟩
theorem kk_bd {k p : Nat} (hk : k < p) (hp : p ≤ 11) : 0 ≤ (k:Int) * k ∧ (k:Int) * k ≤ 100 := by
  have := Nat.mul_le_mul (show k ≤ 10 by omega) (show k ≤ 10 by omega)
  refine ⟨Int.mul_nonneg (by omega) (by omega), ?_⟩
  have e : ((k * k : Nat) : Int) = (k:Int) * k := Int.natCast_mul ..
  omega

set_option maxHeartbeats 1000000 in
theorem isSquare_any (p : Nat) (n : Int) (w : World) (h0 : 1 ≤ p) (hp : p ≤ 11) (hn : -100 ≤ n ∧ n ≤ 100) :
    Calls Try.prog 75 #[.int .i64 p, .int .i64 n] w fun e w' => e = .returned (.bool (sqB p n)) ∧ w = w' := by
  have hpz : ((p:Int) == 0) = false := by simp; omega
  go_enter Try.func75, Try.ntmps75
  go_wp2
  go_loop [7] (fun i => ∃ k : Nat, k ≤ p ∧ i = .int .i64 k ∧ sqA p n k = false) (fun i => p - (intOf i).toNat)
  case atStart => exact ⟨0, Nat.zero_le _, rfl, rfl⟩
  case round =>
    obtain ⟨k, hk, rfl, ha⟩ := hrel
    by_cases hlt : k < p
    · have hb := kk_bd hlt hp
      have HT : Hid (sqT p n k = (((k:Int) * k - n).tmod p == 0)) := rfl
      have HS := Lib.hid (sqA_succ p n k)
      have HA := Lib.hid ha
      have HO := Lib.hid (fun h => sqB_of (n := n) hlt h)
      clear ha
      cases hd : ((k:Int) * k - n).tmod p == 0 with
      | true =>
        have HR := Lib.hid (HO.out (by rw [HT.out]; exact hd))
        go_wp2
        go_ret
        exact ⟨ret_bool HR.out.symm, rfl⟩
      | false =>
        have HR : Hid (sqA p n (k+1) = false) := by rw [HS.out, HA.out, HT.out, hd]; rfl
        go_wp2
        go_round
        case rel => exact ⟨k + 1, by omega, by go_num, HR.out⟩
        case measure => simp [intOf]; omega
    · obtain rfl : k = p := by omega
      have HR := Lib.hid ha
      go_wp2
      go_ret
      exact ⟨ret_bool HR.out.symm, rfl⟩

/-- Where the matrix of the squares has -1. -/
def sqF (p i j : Nat) : Bool := decide (0 < i) && (decide (j = 0) || !sqB p ((j:Int) - i))

set_option maxHeartbeats 1000000 in
theorem squares1_any (p i j c : Nat) (w : World) (h0 : 1 ≤ p) (hp : p ≤ 11) (hi : i ≤ 12) (hj : j ≤ 12) (hc : w.cell? ⟨c, 0, none⟩ = some (.int .i64 p)) :
    Calls Try.prog 74 #[.int .i64 i, .int .i64 j, .pointer (some ⟨c, 0, none⟩)] w fun e w' => e = .returned (.bool (sqF p i j)) ∧ w = w' := by
  by_cases hi0 : 0 < i
  · by_cases hj0 : j = 0
    · have HF : Hid (sqF p i j = true) := by unfold sqF; rw [decide_eq_true hi0, decide_eq_true hj0]; rfl
      have hd : ((j:Int) == 0) = true := by simp; exact hj0
      clear hj0
      go_enter Try.func74, Try.ntmps74
      go_wp2
      go_ret
      exact ⟨ret_bool HF.out.symm, rfl⟩
    · have HF : Hid (sqF p i j = !sqB p ((j:Int) - i)) := by unfold sqF; rw [decide_eq_true hi0, decide_eq_false hj0]; rfl
      have hd : ((j:Int) == 0) = false := by simp; exact hj0
      have HS := Lib.hid (isSquare_any p ((j:Int) - i) w h0 hp (by omega))
      clear hj0
      generalize sqB p ((j:Int) - i) = b at *
      go_enter Try.func74, Try.ntmps74
      go_wp2_with fail
      refine HS.out.mono ?_
      rintro e w' ⟨rfl, rfl⟩
      go_wp2
      go_ret
      exact ⟨ret_bool HF.out.symm, rfl⟩
  · have HF : Hid (sqF p i j = false) := by unfold sqF; rw [decide_eq_false hi0]; rfl
    go_enter Try.func74, Try.ntmps74
    go_wp2
    go_ret
    exact ⟨ret_bool HF.out.symm, rfl⟩

theorem squares1_tells (p c : Nat) (w : World) (h0 : 1 ≤ p) (hp : p ≤ 11) (hc : w.cell? ⟨c, 0, none⟩ = some (.int .i64 p)) : Tells 74 #[.pointer (some ⟨c, 0, none⟩)] (p + 1) (sqF p) w where
  enter := fun args w => by kernel_rfl
  call := fun i j w' hi hj hb => (squares1_any p i j c w' h0 hp (by omega) (by omega) (ck hc hb)).mono fun e w'' ⟨he, hw⟩ => by subst hw; exact ⟨he, Below.refl _ _⟩

def squaresS (p : Nat) : List Nat := plantL (p + 1) (sqF p)
def isQ (k : Int) : Bool := k == 3 || k == 7 || k == 11
def SquaresPost (w : World) (k : Int) (e : Ending) (w' : World) : Prop :=
  (if isQ k = true then ∃ v, e = .returned (.tuple #[v, .int .i64 0]) ∧ Nats w' v (squaresS k.toNat) else e = .returned (.tuple #[.slice none 0 0, .int .i64 2])) ∧ Below w.heap.size w w'

theorem squares_good (p : Nat) (w : World) (hp : p = 3 ∨ p = 7 ∨ p = 11) :
    Calls Try.prog 27 #[.int .i64 p] w fun e w' => (∃ v, e = .returned (.tuple #[v, .int .i64 0]) ∧ Nats w' v (squaresS p)) ∧ Below w.heap.size w w' := by
  have hT := fun w' (hb : Below (w.heap.size + 1) (w.alloc (.cells #[.int .i64 p] 3)) w') => squares1_tells p w.heap.size w' (by omega) (by omega) ((hb.cell (p := ⟨w.heap.size, 0, none⟩) (Nat.lt_succ_self _)).trans (by simp))
  have HC := Lib.hid (plant_any (p + 1) 74 #[.pointer (some ⟨w.heap.size, 0, none⟩)] (sqF p) (w.alloc (.cells #[.int .i64 p] 3)) (by omega) (hT _ (Below.refl _ _)))
  have hsz : (w.alloc (.cells #[.int .i64 p] 3)).heap.size = w.heap.size + 1 := by simp
  rw [hsz] at HC
  have HN : Hid (∀ w' g, NatBlk w' g (plantL (p + 1) (sqF p)) → Nats w' (.slice (some ⟨g, 0, none⟩) (p + 1) (p + 1)) (squaresS p)) := fun w' g h => plant_nats (by omega) h
  clear hT hsz
  rcases hp with rfl | rfl | rfl
  all_goals
    go_enter Try.func27, Try.ntmps27
    go_wp2_with fail
    refine HC.out.mono ?_
    rintro e w1 ⟨rfl, hB, hb⟩
    have HB := Lib.hid (((Below.refl w.heap.size w).alloc (Nat.le_refl _) _).trans (hb.mono (by omega)))
    have HV := Lib.hid (HN.out _ _ hB)
    clear hB hb
    go_wp2
    go_ret2
    exact ⟨⟨_, rfl, HV.out⟩, HB.out⟩

set_option maxHeartbeats 1000000 in
theorem squares_any (k : Int) (w : World) :
    Calls Try.prog 27 #[.int .i64 k] w (SquaresPost w k) := by
  cases hk : isQ k with
  | true =>
    obtain ⟨p, rfl, hp⟩ : ∃ p : Nat, k = p ∧ (p = 3 ∨ p = 7 ∨ p = 11) := ⟨k.toNat, by simp [isQ] at hk; omega, by simp [isQ] at hk; omega⟩
    refine (squares_good p w hp).mono fun e w' h => ?_
    unfold SquaresPost
    rw [hk, if_pos rfl]
    exact h
  | false =>
    have e3 : (k == 3) = false := by simp [isQ] at hk; simp; omega
    have e7 : (k == 7) = false := by simp [isQ] at hk; simp; omega
    have e11 : (k == 11) = false := by simp [isQ] at hk; simp; omega
    have HK := Lib.hid hk
    clear hk
    go_enter Try.func27, Try.ntmps27
    go_wp2
    go_ret2
    unfold SquaresPost
    rw [HK.out]
    exact ⟨rfl, (Below.refl _ _).alloc (Nat.le_refl _) _⟩
end Go.Proofs.Ytopmdmafameknaa
