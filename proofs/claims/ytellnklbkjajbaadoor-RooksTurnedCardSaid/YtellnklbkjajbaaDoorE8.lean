/- elements, of sets of numbers below 8 -/
import Derived.Test.YtellnklbkjajbaaDoorEl
namespace Go.Proofs.YtellnklbkjajbaaDoor
open Go.RowKit Go.Shelf
attribute [local go_sem] Oper.semAt_some

/-- The elements of a set of numbers below 8, rising. -/
def elem8 (x : Nat) : List Nat := (List.range 8).filter fun j => x.testBit j
theorem elem8_step : ∀ x < 256, x ≠ 0 → elem8 x = Lib.ctz 64 x :: elem8 (x &&& (x - 1)) := by decide +kernel
theorem elem8_zero : elem8 0 = [] := by decide +kernel
theorem elem8_mem {x j : Nat} (h : j ∈ elem8 x) : j < 8 ∧ x.testBit j = true := by
  have := List.mem_filter.1 h
  exact ⟨List.mem_range.1 this.1, this.2⟩
theorem tz8_any (x : Nat) (w : World) (hx : x < 256) (h0 : x ≠ 0) (hT : TabAt 1 Lib.deBruijn64tab w) :
    Calls Tryd.prog 82 #[.int .u64 x] w fun e w' => e = .returned (.int .i64 (Lib.ctz 64 x)) ∧ w = w' := by
  have H : Calls Tryd.prog 97 #[.int .u64 x] w fun e w' => e = .returned (.int .i64 (Lib.ctz 64 x)) ∧ w = w' := by
    obtain ⟨hlow, hk⟩ := Lib.lowest_bit 64 x h0 (by omega)
    obtain ⟨hi, htab⟩ := Lib.deBruijn64_at _ hk
    have hcell := hT _ hi
    rw [htab] at hcell
    exact tz64_core x _ _ w (by simp; omega) (tz64_key x _ (by omega) h0 hlow) hi hk hcell
  have HH := Lib.hid H
  clear H hT
  go_enter Tryd.func82, Tryd.ntmps82
  go_wp2_with fail
  refine HH.out.mono ?_
  rintro e w' ⟨rfl, rfl⟩
  go_wp2
  go_ret
  exact ⟨rfl, rfl⟩

/-- An element of the set x. -/
abbrev E8 (x : Nat) : Type := { j : Nat // x.testBit j = true ∧ j < 8 }

theorem elem8_length (x : Nat) : (elem8 x).length ≤ 8 := by
  have := List.length_filter_le (fun j => x.testBit j) (List.range 8)
  simpa [elem8] using this

set_option maxRecDepth 100000 in
set_option maxHeartbeats 1000000 in
theorem elem81_in (n x : Nat) (hx : x < 256) (l B : Nat) (J Jx : List (E8 x) → World → Prop)
    (hY : ∀ (pre : List (E8 x)) (j : E8 x) (W : World), J pre W → pre.length < 8 → YieldAt Fence.wide (n - 1) Tryd.prog l #[.int .i64 j.1] W fun e W' =>
      (e = .returned (.bool true) ∧ J (pre ++ [j]) W' ∧ TabK W W') ∨ (e = .returned (.bool false) ∧ Jx (pre ++ [j]) W'))
    (W : World) (hB : W.cell? ⟨B, 0, none⟩ = some (.int .i64 x)) (hT : Tab W) (h0 : J [] W) :
    CallsIn Fence.wide n Tryd.prog 81 #[.func (.yield l) #[] #[], .pointer (some ⟨B, 0, none⟩)] W fun e W' => (∃ v, e = .returned v) ∧
      ((∃ ys : List (E8 x), ys.map (·.1) = elem8 x ∧ J ys W') ∨ (∃ pre : List (E8 x), True ∧ Jx pre W')) := by
  refine callsIn_of_wp Tryd.func81 rfl trivial ?_ rfl
  simp only [Tryd.ntmps81, List.size_toArray, List.length_cons, List.length_nil, Nat.reduceAdd, Nat.reduceSub, Array.replicate_succ, Array.replicate_zero, List.push_toArray, List.append_toArray, List.nil_append, List.cons_append]
  gi_wp2
  gi_loopw [3] (fun p wr => ∃ (pre : List (E8 x)) (r : Nat), p = .int .i64 r ∧ r < 256 ∧ pre.map (·.1) ++ elem8 r = elem8 x ∧ J pre wr ∧ Tab wr)
    (fun p _ => (intOf p).toNat)
  case atStart =>
    exact ⟨[], x, rfl, hx, by simp, h0, hT⟩
  case round =>
    obtain ⟨pre, r, rfl, hr, hpre, hJ, hTr⟩ := hrel
    by_cases hr0 : r = 0
    · subst hr0
      rw [elem8_zero, List.append_nil] at hpre
      gi_wp2
      go_end0
      exact ⟨⟨_, rfl⟩, .inl ⟨pre, hpre, hJ⟩⟩
    · have hst := elem8_step r hr hr0
      have hmem : Lib.ctz 64 r ∈ elem8 x := by rw [← hpre, hst]; simp
      obtain ⟨hj8, hjb⟩ := elem8_mem hmem
      have hlen : pre.length < 8 := by
        have h1 := elem8_length x
        rw [← hpre, hst] at h1
        simp at h1; omega
      obtain ⟨fn, tmps, assign, body, hy, hR⟩ := hY pre ⟨Lib.ctz 64 r, hjb, hj8⟩ wr hJ hlen
      dsimp only at hy
      have hz := tz8_any r wr hr hr0 hTr
      have hne : ((r:Int) != 0) = true := by simp; omega
      have hu : IntKind.u64.wrap (r:Int) = r := ucast (by omega) (by omega)
      have HP : Hid ((pre ++ [(⟨Lib.ctz 64 r, hjb, hj8⟩ : E8 x)]).map (·.1) ++ elem8 (r &&& (r - 1)) = elem8 x) := by
        rw [List.map_append, List.append_assoc]
        rw [hst] at hpre
        exact hpre
      have hand : bits .and .i64 (r:Int) ((r : Int) - 1) = ((r &&& (r - 1) : Nat) : Int) := by
        rw [show (r : Int) - 1 = ((r - 1 : Nat) : Int) by omega]
        exact i64_and _ _ (by omega) (by omega)
      have hle : r &&& (r - 1) ≤ r - 1 := Nat.and_le_right
      clear hst hmem hpre
      generalize Lib.ctz 64 r = c at *
      gi_wp2_with fail
      refine ⟨trivial, fun h => (by cases h), (callsIn_wide.2 hz).mono ?_⟩
      rintro e w' ⟨rfl, rfl⟩
      gi_wp2_with fail
      refine ⟨fun h => (by cases h), hR.mono ?_⟩
      rintro e W3 (⟨rfl, hJ3, hk3⟩ | ⟨rfl, hJx3⟩)
      · gi_wp2
        go_roundw
        case rel => exact ⟨_, r &&& (r - 1), rfl, by omega, HP.out, hJ3, hk3 hTr⟩
        case measure => simp [intOf]; omega
      · gi_wp2
        refine bodyPost_ret (results_none rfl _ _ _) rfl ?_
        exact ⟨⟨_, rfl⟩, .inr ⟨_, trivial, hJx3⟩⟩

theorem elem8_stops (n x : Nat) (hx : x < 256) (B : Nat) (w : World) (hB : w.cell? ⟨B, 0, none⟩ = some (.int .i64 x)) (hT : Tab w) :
    SeqStopsK Fence.wide n Tryd.prog 81 #[.pointer (some ⟨B, 0, none⟩)] (fun j : E8 x => #[Value.int .i64 j.1]) TabK (fun ys => ys.map (·.1) = elem8 x) (fun _ => True) 8 w := fun l J Jx W hW _ _ hY h0 =>
  elem81_in n x hx l B J Jx hY W (ck hB hW) (tab_block hT (hW.block 1 (tab_lt hT))) h0

end Go.Proofs.YtellnklbkjajbaaDoor
