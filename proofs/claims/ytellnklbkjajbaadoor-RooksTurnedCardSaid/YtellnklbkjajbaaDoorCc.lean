/- slices.Grow of nothing, slices.Concat -/
import Derived.Test.YtellnklbkjajbaaDoorOt
import Derived.Lib.AppendZerosOnto
import Derived.Lib.SliceRun
import Derived.Lib.Walk
namespace Go.Proofs.YtellnklbkjajbaaDoor
open Go.RowKit

theorem zeroCells_len (z : Value) (k : Nat) : (Builtin.zeroCells #[z] k).size = k := by
  simp [Builtin.zeroCells]

set_option maxHeartbeats 1000000 in
set_option maxRecDepth 100000 in
theorem grow_nil (n : Nat) (hn : n ≤ 1000) (w : World) :
    Calls Tryd.prog 84 #[.slice none 0 0, .int .i64 n] w fun e w' => ∃ ao c, e = .returned (.slice ao 0 c) ∧ w'.ownsRow w.heap.size 3 1 (.slice ao 0 c) 0 [] ∧ Below w.heap.size w w' := by
  have h1 : ¬ ((n : Int) < 0) := by omega
  by_cases h0 : n = 0
  · subst h0
    go_enter Tryd.func84, Tryd.ntmps84
    go_wp2
    go_ret
    exact ⟨_, _, rfl, World.ownsRow_nil _ _ _ _, Below.refl _ _⟩
  · obtain ⟨i0, hi, hz0, hz1, hz2⟩ := info_parts Tryd.info3
    have hpos : 0 < (n : Int) := by omega
    have hold : (Builtin.firstCells i0.size 0 (.slice none 0 0)).run Tryd.prog w.drew = .ok ([] : List Value).toArray w.drew := run_firstCells_none _ _ _ _ _
    have hrz : ∀ ty, (Builtin.append_ #[22, 3] ty #[.slice none 0 0, .int .i64 (n : Int)]).run Tryd.prog w =
        .ok (.slice (some ⟨w.heap.size, 0, none⟩) n (grownCap w n 0 3)) (w.drew.alloc (.cells (Builtin.zeroCells (Value.int .i64 0).cells n ++ Builtin.zeroCells (Value.int .i64 0).cells (grownCap w n 0 3 - n)) 3)) := fun ty => by
      have h := Lib.run_append_grow_zeros w 22 3 ty 3 i0 (.int .i64 0) .i64 .i64 Tryd.underlying22 Tryd.underlying3 hi hz0 none 0 0 [] hold n (by omega) (by omega) (by omega) (by omega) (by rw [hz2]; omega) (growslice_fits (by omega) (by rw [hz2]; omega))
      simpa using h
    have hGn : n ≤ grownCap w n 0 3 := grownCap_ge w _ _ _
    have hGm := grownCap_le_maxLen w n 0 3 (by unfold maxLen; omega)
    generalize grownCap w n 0 3 = G at *
    have hG63 : G ≤ 9223372036854775807 := by unfold maxLen at hGm; omega
    have hsz : ((Builtin.zeroCells (Value.int .i64 0).cells n ++ Builtin.zeroCells (Value.int .i64 0).cells (G - n))).size = G * 1 := by
      simp only [Value.cells, Array.size_append, zeroCells_len]
      omega
    generalize (Builtin.zeroCells (Value.int .i64 0).cells n ++ Builtin.zeroCells (Value.int .i64 0).cells (G - n)) = cur at *
    have HO : Hid ((w.alloc (.cells cur 3)).drew.ownsRow w.heap.size 3 1 (.slice (some ⟨w.heap.size, 0, none⟩) 0 G) 0 []) :=
      World.ownsRow_made w _ G (Nat.le_refl _) hGm hsz
    have HB : Hid (Below w.heap.size w (w.alloc (.cells cur 3)).drew) := ((Below.refl _ w).alloc (Nat.le_refl _) _).drew
    clear hold hi hz0 hz1 hz2 hsz hGm
    go_enter Tryd.func84, Tryd.ntmps84
    go_wp2_with (at_builtin; refine Lib.wpList_append_run _ rfl _ _ _ _ rfl _ _ rfl rfl _ _ (hrz _) ?_)
    all_goals (go_ret; exact ⟨_, _, rfl, HO.out, HB.out⟩)

/-- A slice of ints that is not nil. -/
def IntsN (w : World) (v : Value) (xs : List Int) : Prop := Ints w v xs ∧ ∃ ad c, v = .slice (some ad) xs.length c
theorem IntsN.below {w w' : World} {v : Value} {xs : List Int} (h : IntsN w v xs) (hb : Below w.heap.size w w') : IntsN w' v xs := ⟨h.1.below hb (Nat.le_refl _), h.2⟩
theorem IntsN.cells {w : World} {ad : Addr} {xs : List Int} {n c : Nat} (h : IntsN w (.slice (some ad) n c) xs) : ∀ (j : Nat) (u : Value), (ints xs)[j]? = some u → w.cell? (ad.add j) = some u := by
  obtain ⟨ao, cap, hv, h1, h2, hc⟩ := h.1.open
  simp only [Value.slice.injEq] at hv
  obtain ⟨rfl, _, _⟩ := hv
  intro j u hj
  have hlt : j < xs.length := by have := (List.getElem?_eq_some_iff.1 hj).1; simpa [ints] using this
  obtain ⟨b, o, e, hck⟩ := hc j hlt
  obtain rfl := Option.some.inj e
  have hu : u = .int .i64 (xs.getD j 0) := by simp [ints, hlt] at hj; simp [hlt, ← hj]
  rw [Addr.add_lit, hu, ← hck]

set_option maxHeartbeats 2000000 in
set_option maxRecDepth 100000 in
theorem concat2 (v : Value) (xs ys : List Int) (w : World) (h : SlOf IntsN w v [xs, ys]) (hx : xs.length ≤ 100) (hy : ys.length ≤ 100) :
    Calls Tryd.prog 63 #[v] w fun e w' => ∃ ao c, e = .returned (.slice ao (xs ++ ys).length c) ∧ w'.ownsRow w.heap.size 3 1 (.slice ao (xs ++ ys).length c) (xs ++ ys).length (ints (xs ++ ys)) ∧ Below w.heap.size w w' := by
  obtain ⟨ao, cap, rfl, h1, h2, hc⟩ := h.open
  have HC := Lib.hid hc
  obtain ⟨i0, hi, hz0, hz1, hz2⟩ := info_parts Tryd.info3
  obtain ⟨b, o, u, rfl, hcu, hu⟩ := hc 0 xs rfl
  obtain ⟨b', o', u', e', hcu', hu'⟩ := hc 1 ys rfl
  simp only [Option.some.injEq, Addr.mk.injEq, and_true] at e'
  obtain ⟨rfl, rfl⟩ := e'
  rw [Nat.add_zero] at hcu
  obtain ⟨ad, c, rfl⟩ := hu.2
  obtain ⟨ad', c', rfl⟩ := hu'.2
  have HU := Lib.hid hu
  have HU' := Lib.hid hu'
  have HG := Lib.hid (fun w' => grow_nil (xs.length + ys.length) (by omega) w')
  have hs0 : wrap64 ((0:Int) + xs.length) = xs.length := by unfold wrap64; omega
  have hs1 : wrap64 ((xs.length:Int) + ys.length) = ((xs.length + ys.length : Nat) : Int) := by unfold wrap64; omega
  clear h hu hu' h1 h2 HC hc
  go_enter Tryd.func63, Tryd.ntmps63
  go_wp2_with fail
  go_loop [3, 11] (fun s i => (i = .int .i64 0 ∧ s = .int .i64 0) ∨ (i = .int .i64 1 ∧ s = .int .i64 xs.length) ∨ (i = .int .i64 2 ∧ s = .int .i64 (xs.length + ys.length : Nat))) (fun _ i => 2 - (intOf i).toNat)
  case atStart => exact .inl ⟨rfl, rfl⟩
  case round =>
    have hn0 : ¬ ((xs.length : Int) < 0) := by omega
    have hn1 : ¬ (((xs.length + ys.length : Nat) : Int) < 0) := by omega
    rcases hrel with ⟨rfl, rfl⟩ | ⟨rfl, rfl⟩ | ⟨rfl, rfl⟩
    · go_wp2
      go_round
      case rel => exact .inr (.inl ⟨rfl, rfl⟩)
      case measure => decide
    · go_wp2
      go_round
      case rel => exact .inr (.inr ⟨rfl, rfl⟩)
      case measure => decide
    · go_wp2_with fail
      refine (HG.out _).mono ?_
      rintro e w1 ⟨ao1, c1, rfl, hO, hB⟩
      have HO := Lib.hid hO
      have HB := Lib.hid hB
      clear hO hB HG
      go_wp2_with fail
      go_loopw [6, 27] (fun s i wr => Below w.heap.size w wr ∧ ((i = .int .i64 0 ∧ wr.ownsRow w.heap.size 3 1 s 0 []) ∨ (i = .int .i64 1 ∧ wr.ownsRow w.heap.size 3 1 s xs.length (ints xs)) ∨ (i = .int .i64 2 ∧ wr.ownsRow w.heap.size 3 1 s (xs ++ ys).length (ints (xs ++ ys))))) (fun _ i _ => 2 - (intOf i).toNat)
      case atStart => exact ⟨HB.out, .inl ⟨rfl, HO.out⟩⟩
      case round =>
        clear HB HO
        obtain ⟨hB, hrel⟩ := hrel
        rcases hrel with ⟨rfl, hO⟩ | ⟨rfl, hO⟩ | ⟨rfl, hO⟩
        · have HO := Lib.hid hO
          have HB := Lib.hid hB
          have hcc := ck hcu hB
          have HS := Lib.hid ((HU.out.below hB).cells)
          obtain ⟨ao2, c2, rfl⟩ := owns_form hO
          clear hO hB
          go_wp2_with (at_builtin; refine wpList_append_own _ rfl _ _ 22 rfl w.heap.size 3 i0 (.int .i64 0) 1 8 Tryd.underlying22 hi hz0 hz1 hz2 rfl (by decide) _ _ _ rfl HO.out ad xs.length c (ints xs) rfl (by simp [ints]) HS.out (ints_oneCell _) (by unfold maxLen; omega) (by omega) HB.out.size ?_)
          intro v' w2 hown hg _
          have HO2 : Hid (w2.ownsRow w.heap.size 3 1 v' xs.length (ints xs)) := Lib.hid (by simpa [ints] using hown)
          have HB2 : Hid (Below w.heap.size w w2) := Lib.hid (HB.out.grown hg HB.out.size fun k hk => (HO.out.lt k hk).1)
          clear hown hg
          go_wp2
          go_roundw
          case rel => exact ⟨HB2.out, .inr (.inl ⟨rfl, HO2.out⟩)⟩
          case measure => decide
        · have HO := Lib.hid hO
          have HB := Lib.hid hB
          have hcc := ck hcu' hB
          have HS := Lib.hid ((HU'.out.below hB).cells)
          obtain ⟨ao2, c2, rfl⟩ := owns_form hO
          clear hO hB
          go_wp2_with (at_builtin; refine wpList_append_own _ rfl _ _ 22 rfl w.heap.size 3 i0 (.int .i64 0) 1 8 Tryd.underlying22 hi hz0 hz1 hz2 rfl (by decide) _ _ _ rfl HO.out ad' ys.length c' (ints ys) rfl (by simp [ints]) HS.out (ints_oneCell _) (by unfold maxLen; omega) (by omega) HB.out.size ?_)
          intro v' w2 hown hg _
          have HO2 : Hid (w2.ownsRow w.heap.size 3 1 v' (xs ++ ys).length (ints (xs ++ ys))) := Lib.hid (by simpa [ints] using hown)
          have HB2 : Hid (Below w.heap.size w w2) := Lib.hid (HB.out.grown hg HB.out.size fun k hk => (HO.out.lt k hk).1)
          clear hown hg
          go_wp2
          go_roundw
          case rel => exact ⟨HB2.out, .inr (.inr ⟨rfl, HO2.out⟩)⟩
          case measure => decide
        · have HO := Lib.hid hO
          have HB := Lib.hid hB
          obtain ⟨ao2, c2, rfl⟩ := owns_form hO
          clear hO hB
          go_wp2
          go_ret
          exact ⟨_, _, rfl, HO.out, HB.out⟩
end Go.Proofs.YtellnklbkjajbaaDoor
