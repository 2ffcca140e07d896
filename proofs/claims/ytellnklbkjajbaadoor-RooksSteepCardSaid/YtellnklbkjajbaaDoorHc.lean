/- choose, factorial, Reverse -/
import Derived.Test.YtellnklbkjajbaaDoorHm
import Derived.Test.YtellnklbkjajbaaDoorRw
namespace Go.Proofs.YtellnklbkjajbaaDoor
open Go.RowKit

theorem fac_pos (n : Nat) : 0 < fac n := by
  induction n with
  | zero => decide
  | succ n ih => exact Nat.mul_pos (Nat.succ_pos n) ih
theorem fac_le : ∀ n ≤ 6, fac n ≤ 720 := by decide

set_option maxHeartbeats 400000 in
theorem factorial_any (n : Nat) (w : World) (hn : n ≤ 6) :
    Calls Tryd.prog 43 #[.int .i64 n] w fun e w' => e = .returned (.int .i64 (fac n : Nat)) ∧ w = w' := by
  go_enter Tryd.func43, Tryd.ntmps43
  go_wp2_with fail
  go_loop [3, 6] (fun s ii => ∃ k : Nat, k ≤ n ∧ ii = .int .i64 k ∧ s = .int .i64 (fac k : Nat)) (fun _ ii => n - (intOf ii).toNat)
  case atStart => exact ⟨0, Nat.zero_le _, rfl, rfl⟩
  case round =>
    obtain ⟨k, hk, rfl, rfl⟩ := hrel
    by_cases hlt : k < n
    · have h1 := fac_le k (by omega)
      have h2 := fac_le (k + 1) (by omega)
      have hm : ((fac k : Nat) : Int) * ((k : Int) + 1) = ((fac (k + 1) : Nat) : Int) := by
        rw [fac, Nat.mul_comm, Int.natCast_mul, Int.natCast_add]; rfl
      generalize fac k = x at *
      generalize hy : fac (k + 1) = y at *
      go_wp2_with fail
      go_round
      case rel => exact ⟨k + 1, by omega, by go_num, by rw [hy]⟩
      case measure => simp [intOf]; omega
    · obtain rfl : k = n := by omega
      go_wp2
      go_ret
      exact ⟨rfl, rfl⟩

set_option maxRecDepth 100000 in
set_option maxHeartbeats 400000 in
theorem choose_any (m k : Nat) (w : World) (hm : m ≤ 6) (hk : k ≤ 6) :
    Calls Tryd.prog 42 #[.int .i64 m, .int .i64 k] w fun e w' => e = .returned (.int .i64 (chooseN m k : Nat)) ∧ Below w.heap.size w w' := by
  by_cases h : m < k
  · have : chooseN m k = 0 := (show ∀ m ≤ 6, ∀ k ≤ 6, m < k → chooseN m k = 0 by decide) m hm k hk h
    rw [this]
    go_enter Tryd.func42, Tryd.ntmps42
    go_wp2_with fail
    go_ret
    exact ⟨rfl, Below.refl _ _⟩
  · have h1 := fac_le m hm
    have hq : fac m / fac k / fac (m - k) = chooseN m k := (show ∀ m ≤ 6, ∀ k ≤ 6, ¬ m < k → fac m / fac k / fac (m - k) = chooseN m k by decide) m hm k hk h
    have hmk : IntKind.i64.wrap ((m:Int) - (k:Int)) = ((m - k : Nat) : Int) := by
      have : (m:Int) - (k:Int) = ((m - k : Nat) : Int) := by omega
      rw [this]; exact i64_of (by omega) (by omega)
    have p2 : ¬ ((fac k : Nat) : Int) = 0 := by have := fac_pos k; omega
    have p3 : ¬ ((fac (m - k) : Nat) : Int) = 0 := by have := fac_pos (m - k); omega
    have p2' : (((fac k : Nat) : Int) == 0) = false := by simpa using p2
    have p3' : (((fac (m - k) : Nat) : Int) == 0) = false := by simpa using p3
    have p2'' : ¬ fac k = 0 := by have := fac_pos k; omega
    have p3'' : ¬ fac (m - k) = 0 := by have := fac_pos (m - k); omega
    have q1 : (((fac m : Nat) : Int)).tdiv ((fac k : Nat) : Int) = ((fac m / fac k : Nat) : Int) := rfl
    have q2 : (((fac m / fac k : Nat) : Int)).tdiv ((fac (m - k) : Nat) : Int) = ((chooseN m k : Nat) : Int) := by rw [← hq]; rfl
    have hle : fac m / fac k ≤ 720 := Nat.le_trans (Nat.div_le_self _ _) h1
    have hle2 : chooseN m k ≤ 720 := by rw [← hq]; exact Nat.le_trans (Nat.div_le_self _ _) hle
    have q3 : IntKind.i64.wrap ((fac m / fac k : Nat) : Int) = ((fac m / fac k : Nat) : Int) := by
      generalize fac m / fac k = q at hle ⊢; exact i64_of (by omega) (by omega)
    have q4 : IntKind.i64.wrap ((chooseN m k : Nat) : Int) = ((chooseN m k : Nat) : Int) := i64_of (by omega) (by omega)
    have F1 := Lib.hid (fun w' => factorial_any m w' hm)
    have F2 := Lib.hid (fun w' => factorial_any k w' hk)
    have F3 := Lib.hid (fun w' => factorial_any (m - k) w' (by omega))
    clear hq hle hle2 h1
    generalize m - k = d at *
    generalize fac m / fac k = q at *
    generalize chooseN m k = c at *
    generalize fac m = a at *
    generalize fac k = b at *
    generalize fac d = f at *
    go_enter Tryd.func42, Tryd.ntmps42
    go_wp2_with fail
    go_region_with (first
      | (go_at_call_of 43 (Value.int IntKind.i64 (m : Int)); refine (F1.out _).mono ?_; rintro e w' ⟨rfl, rfl⟩)
      | (go_at_call_of 43 (Value.int IntKind.i64 (k : Int)); refine (F2.out _).mono ?_; rintro e w' ⟨rfl, rfl⟩)
      | (go_at_call_of 43 (Value.int IntKind.i64 (d : Int)); refine (F3.out _).mono ?_; rintro e w' ⟨rfl, rfl⟩))
    all_goals go_wp2
    all_goals go_ret
    all_goals exact ⟨rfl, (Below.refl _ _).drew⟩

/-- k places from both ends are exchanged. -/
def revK (vs : List Int) : Nat → List Int
  | 0 => vs
  | k + 1 => ((revK vs k).set k ((revK vs k).getD (vs.length - 1 - k) 0)).set (vs.length - 1 - k) ((revK vs k).getD k 0)
theorem revK_length (vs : List Int) (k : Nat) : (revK vs k).length = vs.length := by
  induction k with
  | zero => rfl
  | succ k ih => rw [revK, List.length_set, List.length_set, ih]
theorem revK_end : ∀ (vs : List Int), 2 ≤ vs.length → vs.length ≤ 7 → revK vs (vs.length / 2) = vs.reverse
  | [_, _], _, _ => by simp [revK]
  | [_, _, _], _, _ => by simp [revK]
  | [_, _, _, _], _, _ => by simp [revK]
  | [_, _, _, _, _], _, _ => by simp [revK]
  | [_, _, _, _, _, _], _, _ => by simp [revK]
  | [_, _, _, _, _, _, _], _, _ => by simp [revK]
  | [], h, _ => by simp at h
  | [_], h, _ => by simp at h
  | _ :: _ :: _ :: _ :: _ :: _ :: _ :: _ :: _, _, h => by simp at h

set_option maxHeartbeats 400000 in
theorem reverse_any (A m : Nat) (vs : List Int) (w : World) (hI : IBlk w A vs) (hl : vs.length = m) (h1 : 2 ≤ m) (h7 : m ≤ 7) :
    Calls Tryd.prog 44 #[.slice (some ⟨A, 0, none⟩) m m] w fun e w' => (∃ v, e = .returned v) ∧ IBlk w' A vs.reverse ∧ Mod (· = A) w w' := by
  have HE := Lib.hid (revK_end vs (by omega) (by omega))
  rw [hl] at HE
  have HL := Lib.hid (fun k => revK_length vs k)
  rw [hl] at HL
  have HS : Hid (∀ k, revK vs (k + 1) = ((revK vs k).set k ((revK vs k).getD (m - 1 - k) 0)).set (m - 1 - k) ((revK vs k).getD k 0)) := Lib.hid fun k => by rw [← hl]; rfl
  have HI0 : Hid (IBlk w A (revK vs 0)) := Lib.hid hI
  clear hI hl
  go_enter Tryd.func44, Tryd.ntmps44
  go_wp2_with fail
  go_loopw [2, 3] (fun ii jj wr => ∃ k : Nat, 2 * k ≤ m ∧ ii = .int .i64 k ∧ jj = .int .i64 ((m:Int) - 1 - k) ∧ IBlk wr A (revK vs k) ∧ Mod (· = A) w wr) (fun ii _ _ => m - (intOf ii).toNat)
  case atStart => exact ⟨0, by omega, rfl, by simp, HI0.out, Mod.refl _ _⟩
  case round =>
    obtain ⟨k, hk, rfl, rfl, hI, hM⟩ := hrel
    by_cases hlt : k < m - 1 - k
    · obtain ⟨hc1, hf1⟩ := hI.cell (k := k) (by rw [HL.out]; omega)
      obtain ⟨hc2, hf2⟩ := hI.cell (k := m - 1 - k) (by rw [HL.out]; omega)
      have hj : (m:Int) - 1 - k = ((m - 1 - k : Nat) : Int) := by omega
      have hkj : (k:Int) < ((m - 1 - k : Nat) : Int) := by omega
      have HR := Lib.hid ((hI.set k ((revK vs k).getD (m - 1 - k) 0)).set (m - 1 - k) ((revK vs k).getD k 0))
      rw [← HS.out] at HR
      have HM := Lib.hid hM
      rw [hj]
      have hjm : m - 1 - k < m := by omega
      have hj1 : 1 ≤ m - 1 - k := by omega
      have h2k : 2 * (k + 1) ≤ m := by omega
      have hj2 : (m:Int) - 1 - ((k + 1 : Nat) : Int) = ((m - 1 - k : Nat) : Int) - 1 := by omega
      clear hI hM hj HL HS HE HI0
      generalize (revK vs k).getD (m - 1 - k) 0 = y at *
      generalize (revK vs k).getD k 0 = x at *
      generalize m - 1 - k = j at *
      go_wp2_with fail
      go_region_with (fail)
      all_goals go_wp2_with fail
      all_goals go_roundw
      all_goals first | exact ⟨k + 1, h2k, by go_num, by rw [hj2], HR.out, ((HM.out.setCell (.inl rfl) _).setCell (.inl rfl) _).drew⟩ | (simp [intOf]; omega)
    · have hk2 : k = m / 2 := by omega
      have hlt' : ¬ (k:Int) < (m:Int) - 1 - k := by omega
      rw [hk2] at hI
      rw [HE.out] at hI
      have HI := Lib.hid hI
      have HM := Lib.hid hM
      clear hI hM hk2
      go_wp2_with fail
      go_end0
      exact ⟨⟨_, rfl⟩, HI.out, HM.out⟩
end Go.Proofs.YtellnklbkjajbaaDoor
