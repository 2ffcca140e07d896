/- elements: the iterator over a set, for every body that keeps the table -/
import Derived.Test.YtdnhfnegnjdeoaaDoorTz
import Derived.RangeFuncNested
import Derived.RangeFuncBound
import Derived.RangeFuncCalls
import Derived.RangeFuncLeaves
import Derived.Shelf.Abstract
import Derived.Shelf.RegionOpen
import Derived.OwnWalkIn
import Derived.TacticsInMore
import Derived.LoopNIn
import Derived.LoopIn
namespace Go.Proofs.YtdnhfnegnjdeoaaDoor
open Go.RowKit Go.Shelf

attribute [local go_sem] Oper.semAt_some

abbrev Tab (w : World) : Prop := TabAt 1 Lib.deBruijn64tab w
def TabK (W W' : World) : Prop := Tab W → Tab W'
theorem TabK.t {A B C : World} (h : TabK A B) (k : TabK B C) : TabK A C := fun x => k (h x)
theorem tab_lt {w : World} (h : Tab w) : 1 < w.heap.size := World.block_lt_of_cell? w _ (h 0 (by decide))
theorem tab_block {w w' : World} (h : Tab w) (hb : w'.heap[1]? = w.heap[1]?) : Tab w' := fun j hj => by rw [World.cell?_of_block hb]; exact h j hj
theorem TabK.b (W : World) (l : Nat) (o o' : Obj) (hl : W.heap[l]? = some o) (ho : o.isCells = false) : TabK W (W.putObj l o') := fun h => by
  refine tab_block h (World.putObj_heap_other fun e => ?_)
  subst e
  obtain ⟨o1, h1, h2⟩ := cells_of_cell (h 0 (by decide))
  rw [show W.heap[1]? = some o from hl] at h1
  cases h1
  rw [ho] at h2
  cases h2

/-- An element of the set x. -/
abbrev El (x : Nat) : Type := { j : Nat // x.testBit j = true ∧ j < 16 }

set_option maxRecDepth 100000 in
set_option maxHeartbeats 1000000 in
theorem elems1_in (n x : Nat) (hx : x < 65536) (l B : Nat) (J Jx : List (El x) → World → Prop)
    (hY : ∀ (pre : List (El x)) (j : El x) (W : World), J pre W → pre.length < 16 → YieldAt Fence.wide (n - 1) Tryd.prog l #[.int .i64 j.1] W fun e W' =>
      (e = .returned (.bool true) ∧ J (pre ++ [j]) W' ∧ TabK W W') ∨ (e = .returned (.bool false) ∧ Jx (pre ++ [j]) W'))
    (W : World) (hB : W.cell? ⟨B, 0, none⟩ = some (.int .i64 x)) (hT : Tab W) (h0 : J [] W) :
    CallsIn Fence.wide n Tryd.prog 102 #[.func (.yield l) #[] #[], .pointer (some ⟨B, 0, none⟩)] W fun e W' => (∃ v, e = .returned v) ∧
      ((∃ ys : List (El x), ys.map (·.1) = elems x ∧ J ys W') ∨ (∃ pre : List (El x), True ∧ Jx pre W')) := by
  refine callsIn_of_wp Tryd.func102 rfl trivial ?_ rfl
  simp only [Tryd.ntmps102, List.size_toArray, List.length_cons, List.length_nil, Nat.reduceAdd, Nat.reduceSub, Array.replicate_succ, Array.replicate_zero, List.push_toArray, List.append_toArray, List.nil_append, List.cons_append]
  gi_wp2
  gi_loopw [3] (fun p wr => ∃ (pre : List (El x)) (r : Nat), p = .int .i64 r ∧ r < 65536 ∧ pre.map (·.1) ++ elems r = elems x ∧ J pre wr ∧ Tab wr)
    (fun p _ => (intOf p).toNat)
  case atStart =>
    exact ⟨[], x, rfl, hx, by simp, h0, hT⟩
  case round =>
    obtain ⟨pre, r, rfl, hr, hpre, hJ, hTr⟩ := hrel
    by_cases hr0 : r = 0
    · subst hr0
      rw [elems_zero, List.append_nil] at hpre
      gi_wp2
      go_end0
      exact ⟨⟨_, rfl⟩, .inl ⟨pre, hpre, hJ⟩⟩
    · have hst := elems_step r hr hr0
      have hmem : Lib.ctz 64 r ∈ elems x := by rw [← hpre, hst]; simp
      obtain ⟨hj6, hjb⟩ := elems_mem hmem
      have hlen : pre.length < 16 := by
        have h1 := elems_length x
        rw [← hpre, hst] at h1
        simp at h1; omega
      obtain ⟨fn, tmps, assign, body, hy, hR⟩ := hY pre ⟨Lib.ctz 64 r, hjb, hj6⟩ wr hJ hlen
      dsimp only at hy
      have hz := first_any r wr hr hr0 hTr
      have hne : ((r:Int) != 0) = true := by simp; omega
      have HP : Hid ((pre ++ [(⟨Lib.ctz 64 r, hjb, hj6⟩ : El x)]).map (·.1) ++ elems (r &&& (r - 1)) = elems x) := by
        rw [List.map_append, List.append_assoc]
        rw [hst] at hpre
        exact hpre
      have hand : bits .and .i64 (r:Int) ((r : Int) - 1) = ((r &&& (r - 1) : Nat) : Int) := by
        rw [show (r : Int) - 1 = ((r - 1 : Nat) : Int) by omega]
        exact i64_and _ _ (by omega) (by omega)
      have hle : r &&& (r - 1) ≤ r - 1 := Nat.and_le_right
      clear hst hmem hpre
      generalize Lib.ctz 64 r = c at *
      gi_wp2_with fail
      refine ⟨trivial, fun h => (by cases h), (callsIn_wide.2 hz).mono ?_⟩
      rintro e w' ⟨rfl, rfl⟩
      gi_wp2_with fail
      refine ⟨fun h => (by cases h), hR.mono ?_⟩
      rintro e W3 (⟨rfl, hJ3, hk3⟩ | ⟨rfl, hJx3⟩)
      · gi_wp2
        go_roundw
        case rel => exact ⟨_, r &&& (r - 1), rfl, by omega, HP.out, hJ3, hk3 hTr⟩
        case measure => simp [intOf]; omega
      · gi_wp2
        refine bodyPost_ret (results_none rfl _ _ _) rfl ?_
        exact ⟨⟨_, rfl⟩, .inr ⟨_, trivial, hJx3⟩⟩

theorem elems_stops (n x : Nat) (hx : x < 65536) (B : Nat) (w : World) (hB : w.cell? ⟨B, 0, none⟩ = some (.int .i64 x)) (hT : Tab w) :
    SeqStopsK Fence.wide n Tryd.prog 102 #[.pointer (some ⟨B, 0, none⟩)] (fun j : El x => #[Value.int .i64 j.1]) TabK (fun ys => ys.map (·.1) = elems x) (fun _ => True) 16 w := fun l J Jx W hW _ _ hY h0 =>
  elems1_in n x hx l B J Jx hY W (ck hB hW) (tab_block hT (hW.block 1 (tab_lt hT))) h0

set_option maxHeartbeats 400000 in
theorem elements_any (x : Int) (w : World) :
    Calls Tryd.prog 90 #[.int .i64 x] w fun e w' => e = .returned (.func (.func 102) #[] #[.pointer (some ⟨w.heap.size, 0, none⟩)]) ∧ w' = w.alloc (.cells #[.int .i64 x] 3) := by
  go_enter Tryd.func90, Tryd.ntmps90
  go_wp2
  go_ret
  exact ⟨rfl, rfl⟩
end Go.Proofs.YtdnhfnegnjdeoaaDoor
