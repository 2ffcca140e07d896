/- SchemesFamilies: the walk -/
import Derived.Test.YtdnhfnegnjdeoaaDoorPa
namespace Go.Proofs.YtdnhfnegnjdeoaaDoor
open Go.RowKit

theorem gr_of {n : Nat} {bs : List Nat} (h : bs.length = n ∧ 1 ≤ n ∧ n ≤ 16 ∧ (∀ x ∈ bs, x < 2 ^ n) ∧ (∀ i, i < n → (bs.getD i 0).testBit i = false ∧ ∀ j, j < n → (bs.getD i 0).testBit j = (bs.getD j 0).testBit i)) : Gr n bs :=
  ⟨h.1, h.2.1, h.2.2.1, h.2.2.2.1, fun i hi => (h.2.2.2.2 i hi).1, fun i j hi hj => (h.2.2.2.2 i hi).2 j hj⟩
theorem grSquares5 : Gr 5 (squaresL 5) := gr_of (by decide +kernel)
theorem rdSquares5 : readP 5 (squaresL 5) = some (2, 0, 1) := by decide +kernel
theorem grSquares13 : Gr 13 (squaresL 13) := gr_of (by decide +kernel)
theorem rdSquares13 : readP 13 (squaresL 13) = some (6, 2, 3) := by decide +kernel
theorem grPairs4 : Gr 6 (pairsL 4) := gr_of (by decide +kernel)
theorem rdPairs4 : readP 6 (pairsL 4) = some (4, 2, 4) := by decide +kernel
theorem grPairs5 : Gr 10 (pairsL 5) := gr_of (by decide +kernel)
theorem rdPairs5 : readP 10 (pairsL 5) = some (6, 3, 4) := by decide +kernel
theorem grPairs6 : Gr 15 (pairsL 6) := gr_of (by decide +kernel)
theorem rdPairs6 : readP 15 (pairsL 6) = some (8, 4, 4) := by decide +kernel
theorem grGrid2 : Gr 4 (gridL 2) := gr_of (by decide +kernel)
theorem rdGrid2 : readP 4 (gridL 2) = some (2, 0, 2) := by decide +kernel
theorem grGrid3 : Gr 9 (gridL 3) := gr_of (by decide +kernel)
theorem rdGrid3 : readP 9 (gridL 3) = some (4, 1, 2) := by decide +kernel
theorem grGrid4 : Gr 16 (gridL 4) := gr_of (by decide +kernel)
theorem rdGrid4 : readP 16 (gridL 4) = some (6, 2, 2) := by decide +kernel

set_option maxHeartbeats 4000000 in
set_option maxRecDepth 100000 in
theorem fam_2 (w : World) (hT : Tab w) :
    Calls Tryd.prog 11 #[.int .i64 2] w fun e w' => e = .returned (.bool true) ∧ Below w.heap.size w w' := by
  have HAw := Lib.hid (fun w' (hb : Below w.heap.size w w') => awake_any w' (tab_below hT hb))
  have HOwn := Lib.hid (fun a b c d w' => own_agg a b c d w')
  have HSquares := Lib.hid (fun w' => Squares_bad 2 w' (by decide) (by decide))
  have HPairs := Lib.hid (fun w' => Pairs_bad 2 w' (by decide))
  have HGrid := Lib.hid (fun w' => Grid2_any w')
  have HRGrid := Lib.hid (fun v' w' (h' : Nats w' v' (gridL 2)) (hb : Below w.heap.size w w') => Read_any v' _ 4 w' grGrid2 h' (tab_below hT hb))
  rw [rdGrid2] at HRGrid
  unfold readV num4 at HRGrid
  clear hT
  have HB0 := Lib.hid (Below.refl w.heap.size w)
  go_enter Tryd.func11, Tryd.ntmps11
  go_wp2_with fail
  refine (HSquares.out w).mono ?_
  rintro e w1 ⟨rfl, hb1⟩
  have HB1 := Lib.hid (HB0.out.trans (hb1.mono HB0.out.size))
  clear hb1
  go_wp2_with fail
  refine (HPairs.out w1).mono ?_
  rintro e w2 ⟨rfl, hb2⟩
  have HB2 := Lib.hid (HB1.out.trans (hb2.mono HB1.out.size))
  clear hb2
  go_wp2_with fail
  refine (HGrid.out w2).mono ?_
  rintro e w3 ⟨v3, rfl, hv3, hb3⟩
  have HB3 := Lib.hid (HB2.out.trans (hb3.mono HB2.out.size))
  have Z_3 := Lib.hid (hv3)
  clear hb3 hv3
  go_wp2_with fail
  refine (HRGrid.out v3 w3 Z_3.out HB3.out).mono ?_
  rintro e w4 ⟨rfl, hb4⟩
  clear Z_3
  have HB4 := Lib.hid (HB3.out.trans (hb4.mono HB3.out.size))
  clear hb4
  have ha4 := (Below.refl w4.heap.size w4).alloc (Nat.le_refl _) (.cells #[.int .i64 4, .int .i64 2, .int .i64 0, .int .i64 2] 24)
  have hq4 := Q4.new w4 24 4 2 0 2
  have x0 := hq4.c0
  have x1 := hq4.c1
  have x2 := hq4.c2
  have x3 := hq4.c3
  go_wp2_with fail
  refine (HOwn.out 4 2 0 2 _).mono ?_
  rintro e w5 ⟨rfl, ho5⟩
  have hb5 : Below w4.heap.size w4 w5 := ha4.trans (ho5.mono ha4.size)
  have HB5 := Lib.hid (HB4.out.trans (hb5.mono HB4.out.size))
  clear hb5 ho5 ha4 hq4 x0 x1 x2 x3
  go_wp2_with fail
  refine (HAw.out w5 HB5.out).mono ?_
  rintro e w6 ⟨rfl, hb6⟩
  have HB6 := Lib.hid (HB5.out.trans (hb6.mono HB5.out.size))
  clear hb6
  go_wp2
  go_ret
  exact ⟨rfl, HB6.out⟩

set_option maxHeartbeats 4000000 in
set_option maxRecDepth 100000 in
theorem fam_3 (w : World) (hT : Tab w) :
    Calls Tryd.prog 11 #[.int .i64 3] w fun e w' => e = .returned (.bool true) ∧ Below w.heap.size w w' := by
  have HAw := Lib.hid (fun w' (hb : Below w.heap.size w w') => awake_any w' (tab_below hT hb))
  have HOwn := Lib.hid (fun a b c d w' => own_agg a b c d w')
  have HSquares := Lib.hid (fun w' => Squares_bad 3 w' (by decide) (by decide))
  have HPairs := Lib.hid (fun w' => Pairs_bad 3 w' (by decide))
  have HGrid := Lib.hid (fun w' => Grid3_any w')
  have HRGrid := Lib.hid (fun v' w' (h' : Nats w' v' (gridL 3)) (hb : Below w.heap.size w w') => Read_any v' _ 9 w' grGrid3 h' (tab_below hT hb))
  rw [rdGrid3] at HRGrid
  unfold readV num4 at HRGrid
  clear hT
  have HB0 := Lib.hid (Below.refl w.heap.size w)
  go_enter Tryd.func11, Tryd.ntmps11
  go_wp2_with fail
  refine (HSquares.out w).mono ?_
  rintro e w1 ⟨rfl, hb1⟩
  have HB1 := Lib.hid (HB0.out.trans (hb1.mono HB0.out.size))
  clear hb1
  go_wp2_with fail
  refine (HPairs.out w1).mono ?_
  rintro e w2 ⟨rfl, hb2⟩
  have HB2 := Lib.hid (HB1.out.trans (hb2.mono HB1.out.size))
  clear hb2
  go_wp2_with fail
  refine (HGrid.out w2).mono ?_
  rintro e w3 ⟨v3, rfl, hv3, hb3⟩
  have HB3 := Lib.hid (HB2.out.trans (hb3.mono HB2.out.size))
  have Z_3 := Lib.hid (hv3)
  clear hb3 hv3
  go_wp2_with fail
  refine (HRGrid.out v3 w3 Z_3.out HB3.out).mono ?_
  rintro e w4 ⟨rfl, hb4⟩
  clear Z_3
  have HB4 := Lib.hid (HB3.out.trans (hb4.mono HB3.out.size))
  clear hb4
  have ha4 := (Below.refl w4.heap.size w4).alloc (Nat.le_refl _) (.cells #[.int .i64 9, .int .i64 4, .int .i64 1, .int .i64 2] 24)
  have hq4 := Q4.new w4 24 9 4 1 2
  have x0 := hq4.c0
  have x1 := hq4.c1
  have x2 := hq4.c2
  have x3 := hq4.c3
  go_wp2_with fail
  refine (HOwn.out 9 4 1 2 _).mono ?_
  rintro e w5 ⟨rfl, ho5⟩
  have hb5 : Below w4.heap.size w4 w5 := ha4.trans (ho5.mono ha4.size)
  have HB5 := Lib.hid (HB4.out.trans (hb5.mono HB4.out.size))
  clear hb5 ho5 ha4 hq4 x0 x1 x2 x3
  go_wp2_with fail
  refine (HAw.out w5 HB5.out).mono ?_
  rintro e w6 ⟨rfl, hb6⟩
  have HB6 := Lib.hid (HB5.out.trans (hb6.mono HB5.out.size))
  clear hb6
  go_wp2
  go_ret
  exact ⟨rfl, HB6.out⟩

set_option maxHeartbeats 4000000 in
set_option maxRecDepth 100000 in
theorem fam_4 (w : World) (hT : Tab w) :
    Calls Tryd.prog 11 #[.int .i64 4] w fun e w' => e = .returned (.bool true) ∧ Below w.heap.size w w' := by
  have HAw := Lib.hid (fun w' (hb : Below w.heap.size w w') => awake_any w' (tab_below hT hb))
  have HOwn := Lib.hid (fun a b c d w' => own_agg a b c d w')
  have HSquares := Lib.hid (fun w' => Squares_bad 4 w' (by decide) (by decide))
  have HPairs := Lib.hid (fun w' => Pairs_any 4 w' (by decide) (by decide))
  have HRPairs := Lib.hid (fun v' w' (h' : Nats w' v' (pairsL 4)) (hb : Below w.heap.size w w') => Read_any v' _ 6 w' grPairs4 h' (tab_below hT hb))
  rw [rdPairs4] at HRPairs
  unfold readV num4 at HRPairs
  have HGrid := Lib.hid (fun w' => Grid4_any w')
  have HRGrid := Lib.hid (fun v' w' (h' : Nats w' v' (gridL 4)) (hb : Below w.heap.size w w') => Read_any v' _ 16 w' grGrid4 h' (tab_below hT hb))
  rw [rdGrid4] at HRGrid
  unfold readV num4 at HRGrid
  clear hT
  have HB0 := Lib.hid (Below.refl w.heap.size w)
  go_enter Tryd.func11, Tryd.ntmps11
  go_wp2_with fail
  refine (HSquares.out w).mono ?_
  rintro e w1 ⟨rfl, hb1⟩
  have HB1 := Lib.hid (HB0.out.trans (hb1.mono HB0.out.size))
  clear hb1
  go_wp2_with fail
  refine (HPairs.out w1).mono ?_
  rintro e w2 ⟨v2, rfl, hv2, hb2⟩
  have HB2 := Lib.hid (HB1.out.trans (hb2.mono HB1.out.size))
  have Y_2 := Lib.hid (hv2)
  clear hb2 hv2
  go_wp2_with fail
  refine (HGrid.out w2).mono ?_
  rintro e w3 ⟨v3, rfl, hv3, hb3⟩
  have HB3 := Lib.hid (HB2.out.trans (hb3.mono HB2.out.size))
  have Y_3 := Lib.hid (Y_2.out.below hb3 (Nat.le_refl _))
  have Z_3 := Lib.hid (hv3)
  clear hb3 hv3
  go_wp2_with fail
  refine (HRPairs.out v2 w3 Y_3.out HB3.out).mono ?_
  rintro e w4 ⟨rfl, hb4⟩
  clear Y_3
  have HB4 := Lib.hid (HB3.out.trans (hb4.mono HB3.out.size))
  have Z_4 := Lib.hid (Z_3.out.below hb4 (Nat.le_refl _))
  clear hb4
  have ha4 := (Below.refl w4.heap.size w4).alloc (Nat.le_refl _) (.cells #[.int .i64 6, .int .i64 4, .int .i64 2, .int .i64 4] 24)
  have hq4 := Q4.new w4 24 6 4 2 4
  have x0 := hq4.c0
  have x1 := hq4.c1
  have x2 := hq4.c2
  have x3 := hq4.c3
  go_wp2_with fail
  refine (HOwn.out 6 4 2 4 _).mono ?_
  rintro e w5 ⟨rfl, ho5⟩
  have hb5 : Below w4.heap.size w4 w5 := ha4.trans (ho5.mono ha4.size)
  have HB5 := Lib.hid (HB4.out.trans (hb5.mono HB4.out.size))
  have Z_5 := Lib.hid (Z_4.out.below hb5 (Nat.le_refl _))
  clear hb5 ho5 ha4 hq4 x0 x1 x2 x3
  go_wp2_with fail
  refine (HRGrid.out v3 w5 Z_5.out HB5.out).mono ?_
  rintro e w6 ⟨rfl, hb6⟩
  clear Z_5
  have HB6 := Lib.hid (HB5.out.trans (hb6.mono HB5.out.size))
  clear hb6
  have ha6 := (Below.refl w6.heap.size w6).alloc (Nat.le_refl _) (.cells #[.int .i64 16, .int .i64 6, .int .i64 2, .int .i64 2] 24)
  have hq6 := Q4.new w6 24 16 6 2 2
  have x0 := hq6.c0
  have x1 := hq6.c1
  have x2 := hq6.c2
  have x3 := hq6.c3
  go_wp2_with fail
  refine (HOwn.out 16 6 2 2 _).mono ?_
  rintro e w7 ⟨rfl, ho7⟩
  have hb7 : Below w6.heap.size w6 w7 := ha6.trans (ho7.mono ha6.size)
  have HB7 := Lib.hid (HB6.out.trans (hb7.mono HB6.out.size))
  clear hb7 ho7 ha6 hq6 x0 x1 x2 x3
  go_wp2_with fail
  refine (HAw.out w7 HB7.out).mono ?_
  rintro e w8 ⟨rfl, hb8⟩
  have HB8 := Lib.hid (HB7.out.trans (hb8.mono HB7.out.size))
  clear hb8
  go_wp2
  go_ret
  exact ⟨rfl, HB8.out⟩

set_option maxHeartbeats 4000000 in
set_option maxRecDepth 100000 in
theorem fam_5 (w : World) (hT : Tab w) :
    Calls Tryd.prog 11 #[.int .i64 5] w fun e w' => e = .returned (.bool true) ∧ Below w.heap.size w w' := by
  have HAw := Lib.hid (fun w' (hb : Below w.heap.size w w') => awake_any w' (tab_below hT hb))
  have HOwn := Lib.hid (fun a b c d w' => own_agg a b c d w')
  have HSquares := Lib.hid (fun w' => Squares5_any w')
  have HRSquares := Lib.hid (fun v' w' (h' : Nats w' v' (squaresL 5)) (hb : Below w.heap.size w w') => Read_any v' _ 5 w' grSquares5 h' (tab_below hT hb))
  rw [rdSquares5] at HRSquares
  unfold readV num4 at HRSquares
  have HPairs := Lib.hid (fun w' => Pairs_any 5 w' (by decide) (by decide))
  have HRPairs := Lib.hid (fun v' w' (h' : Nats w' v' (pairsL 5)) (hb : Below w.heap.size w w') => Read_any v' _ 10 w' grPairs5 h' (tab_below hT hb))
  rw [rdPairs5] at HRPairs
  unfold readV num4 at HRPairs
  have HGrid := Lib.hid (fun w' => Grid_bad 5 w' (by decide))
  clear hT
  have HB0 := Lib.hid (Below.refl w.heap.size w)
  go_enter Tryd.func11, Tryd.ntmps11
  go_wp2_with fail
  refine (HSquares.out w).mono ?_
  rintro e w1 ⟨v1, rfl, hv1, hb1⟩
  have HB1 := Lib.hid (HB0.out.trans (hb1.mono HB0.out.size))
  have X_1 := Lib.hid (hv1)
  clear hb1 hv1
  go_wp2_with fail
  refine (HPairs.out w1).mono ?_
  rintro e w2 ⟨v2, rfl, hv2, hb2⟩
  have HB2 := Lib.hid (HB1.out.trans (hb2.mono HB1.out.size))
  have X_2 := Lib.hid (X_1.out.below hb2 (Nat.le_refl _))
  have Y_2 := Lib.hid (hv2)
  clear hb2 hv2
  go_wp2_with fail
  refine (HGrid.out w2).mono ?_
  rintro e w3 ⟨rfl, hb3⟩
  have HB3 := Lib.hid (HB2.out.trans (hb3.mono HB2.out.size))
  have X_3 := Lib.hid (X_2.out.below hb3 (Nat.le_refl _))
  have Y_3 := Lib.hid (Y_2.out.below hb3 (Nat.le_refl _))
  clear hb3
  go_wp2_with fail
  refine (HRSquares.out v1 w3 X_3.out HB3.out).mono ?_
  rintro e w4 ⟨rfl, hb4⟩
  clear X_3
  have HB4 := Lib.hid (HB3.out.trans (hb4.mono HB3.out.size))
  have Y_4 := Lib.hid (Y_3.out.below hb4 (Nat.le_refl _))
  clear hb4
  have ha4 := (Below.refl w4.heap.size w4).alloc (Nat.le_refl _) (.cells #[.int .i64 5, .int .i64 2, .int .i64 0, .int .i64 1] 24)
  have hq4 := Q4.new w4 24 5 2 0 1
  have x0 := hq4.c0
  have x1 := hq4.c1
  have x2 := hq4.c2
  have x3 := hq4.c3
  go_wp2_with fail
  refine (HOwn.out 5 2 0 1 _).mono ?_
  rintro e w5 ⟨rfl, ho5⟩
  have hb5 : Below w4.heap.size w4 w5 := ha4.trans (ho5.mono ha4.size)
  have HB5 := Lib.hid (HB4.out.trans (hb5.mono HB4.out.size))
  have Y_5 := Lib.hid (Y_4.out.below hb5 (Nat.le_refl _))
  clear hb5 ho5 ha4 hq4 x0 x1 x2 x3
  go_wp2_with fail
  refine (HRPairs.out v2 w5 Y_5.out HB5.out).mono ?_
  rintro e w6 ⟨rfl, hb6⟩
  clear Y_5
  have HB6 := Lib.hid (HB5.out.trans (hb6.mono HB5.out.size))
  clear hb6
  have ha6 := (Below.refl w6.heap.size w6).alloc (Nat.le_refl _) (.cells #[.int .i64 10, .int .i64 6, .int .i64 3, .int .i64 4] 24)
  have hq6 := Q4.new w6 24 10 6 3 4
  have x0 := hq6.c0
  have x1 := hq6.c1
  have x2 := hq6.c2
  have x3 := hq6.c3
  go_wp2_with fail
  refine (HOwn.out 10 6 3 4 _).mono ?_
  rintro e w7 ⟨rfl, ho7⟩
  have hb7 : Below w6.heap.size w6 w7 := ha6.trans (ho7.mono ha6.size)
  have HB7 := Lib.hid (HB6.out.trans (hb7.mono HB6.out.size))
  clear hb7 ho7 ha6 hq6 x0 x1 x2 x3
  go_wp2_with fail
  refine (HAw.out w7 HB7.out).mono ?_
  rintro e w8 ⟨rfl, hb8⟩
  have HB8 := Lib.hid (HB7.out.trans (hb8.mono HB7.out.size))
  clear hb8
  go_wp2
  go_ret
  exact ⟨rfl, HB8.out⟩

set_option maxHeartbeats 4000000 in
set_option maxRecDepth 100000 in
theorem fam_6 (w : World) (hT : Tab w) :
    Calls Tryd.prog 11 #[.int .i64 6] w fun e w' => e = .returned (.bool true) ∧ Below w.heap.size w w' := by
  have HAw := Lib.hid (fun w' (hb : Below w.heap.size w w') => awake_any w' (tab_below hT hb))
  have HOwn := Lib.hid (fun a b c d w' => own_agg a b c d w')
  have HSquares := Lib.hid (fun w' => Squares_bad 6 w' (by decide) (by decide))
  have HPairs := Lib.hid (fun w' => Pairs_any 6 w' (by decide) (by decide))
  have HRPairs := Lib.hid (fun v' w' (h' : Nats w' v' (pairsL 6)) (hb : Below w.heap.size w w') => Read_any v' _ 15 w' grPairs6 h' (tab_below hT hb))
  rw [rdPairs6] at HRPairs
  unfold readV num4 at HRPairs
  have HGrid := Lib.hid (fun w' => Grid_bad 6 w' (by decide))
  clear hT
  have HB0 := Lib.hid (Below.refl w.heap.size w)
  go_enter Tryd.func11, Tryd.ntmps11
  go_wp2_with fail
  refine (HSquares.out w).mono ?_
  rintro e w1 ⟨rfl, hb1⟩
  have HB1 := Lib.hid (HB0.out.trans (hb1.mono HB0.out.size))
  clear hb1
  go_wp2_with fail
  refine (HPairs.out w1).mono ?_
  rintro e w2 ⟨v2, rfl, hv2, hb2⟩
  have HB2 := Lib.hid (HB1.out.trans (hb2.mono HB1.out.size))
  have Y_2 := Lib.hid (hv2)
  clear hb2 hv2
  go_wp2_with fail
  refine (HGrid.out w2).mono ?_
  rintro e w3 ⟨rfl, hb3⟩
  have HB3 := Lib.hid (HB2.out.trans (hb3.mono HB2.out.size))
  have Y_3 := Lib.hid (Y_2.out.below hb3 (Nat.le_refl _))
  clear hb3
  go_wp2_with fail
  refine (HRPairs.out v2 w3 Y_3.out HB3.out).mono ?_
  rintro e w4 ⟨rfl, hb4⟩
  clear Y_3
  have HB4 := Lib.hid (HB3.out.trans (hb4.mono HB3.out.size))
  clear hb4
  have ha4 := (Below.refl w4.heap.size w4).alloc (Nat.le_refl _) (.cells #[.int .i64 15, .int .i64 8, .int .i64 4, .int .i64 4] 24)
  have hq4 := Q4.new w4 24 15 8 4 4
  have x0 := hq4.c0
  have x1 := hq4.c1
  have x2 := hq4.c2
  have x3 := hq4.c3
  go_wp2_with fail
  refine (HOwn.out 15 8 4 4 _).mono ?_
  rintro e w5 ⟨rfl, ho5⟩
  have hb5 : Below w4.heap.size w4 w5 := ha4.trans (ho5.mono ha4.size)
  have HB5 := Lib.hid (HB4.out.trans (hb5.mono HB4.out.size))
  clear hb5 ho5 ha4 hq4 x0 x1 x2 x3
  go_wp2_with fail
  refine (HAw.out w5 HB5.out).mono ?_
  rintro e w6 ⟨rfl, hb6⟩
  have HB6 := Lib.hid (HB5.out.trans (hb6.mono HB5.out.size))
  clear hb6
  go_wp2
  go_ret
  exact ⟨rfl, HB6.out⟩

set_option maxHeartbeats 4000000 in
set_option maxRecDepth 100000 in
theorem fam_13 (w : World) (hT : Tab w) :
    Calls Tryd.prog 11 #[.int .i64 13] w fun e w' => e = .returned (.bool true) ∧ Below w.heap.size w w' := by
  have HAw := Lib.hid (fun w' (hb : Below w.heap.size w w') => awake_any w' (tab_below hT hb))
  have HOwn := Lib.hid (fun a b c d w' => own_agg a b c d w')
  have HSquares := Lib.hid (fun w' => Squares13_any w')
  have HRSquares := Lib.hid (fun v' w' (h' : Nats w' v' (squaresL 13)) (hb : Below w.heap.size w w') => Read_any v' _ 13 w' grSquares13 h' (tab_below hT hb))
  rw [rdSquares13] at HRSquares
  unfold readV num4 at HRSquares
  have HPairs := Lib.hid (fun w' => Pairs_bad 13 w' (by decide))
  have HGrid := Lib.hid (fun w' => Grid_bad 13 w' (by decide))
  clear hT
  have HB0 := Lib.hid (Below.refl w.heap.size w)
  go_enter Tryd.func11, Tryd.ntmps11
  go_wp2_with fail
  refine (HSquares.out w).mono ?_
  rintro e w1 ⟨v1, rfl, hv1, hb1⟩
  have HB1 := Lib.hid (HB0.out.trans (hb1.mono HB0.out.size))
  have X_1 := Lib.hid (hv1)
  clear hb1 hv1
  go_wp2_with fail
  refine (HPairs.out w1).mono ?_
  rintro e w2 ⟨rfl, hb2⟩
  have HB2 := Lib.hid (HB1.out.trans (hb2.mono HB1.out.size))
  have X_2 := Lib.hid (X_1.out.below hb2 (Nat.le_refl _))
  clear hb2
  go_wp2_with fail
  refine (HGrid.out w2).mono ?_
  rintro e w3 ⟨rfl, hb3⟩
  have HB3 := Lib.hid (HB2.out.trans (hb3.mono HB2.out.size))
  have X_3 := Lib.hid (X_2.out.below hb3 (Nat.le_refl _))
  clear hb3
  go_wp2_with fail
  refine (HRSquares.out v1 w3 X_3.out HB3.out).mono ?_
  rintro e w4 ⟨rfl, hb4⟩
  clear X_3
  have HB4 := Lib.hid (HB3.out.trans (hb4.mono HB3.out.size))
  clear hb4
  have ha4 := (Below.refl w4.heap.size w4).alloc (Nat.le_refl _) (.cells #[.int .i64 13, .int .i64 6, .int .i64 2, .int .i64 3] 24)
  have hq4 := Q4.new w4 24 13 6 2 3
  have x0 := hq4.c0
  have x1 := hq4.c1
  have x2 := hq4.c2
  have x3 := hq4.c3
  go_wp2_with fail
  refine (HOwn.out 13 6 2 3 _).mono ?_
  rintro e w5 ⟨rfl, ho5⟩
  have hb5 : Below w4.heap.size w4 w5 := ha4.trans (ho5.mono ha4.size)
  have HB5 := Lib.hid (HB4.out.trans (hb5.mono HB4.out.size))
  clear hb5 ho5 ha4 hq4 x0 x1 x2 x3
  go_wp2_with fail
  refine (HAw.out w5 HB5.out).mono ?_
  rintro e w6 ⟨rfl, hb6⟩
  have HB6 := Lib.hid (HB5.out.trans (hb6.mono HB5.out.size))
  clear hb6
  go_wp2
  go_ret
  exact ⟨rfl, HB6.out⟩

set_option maxHeartbeats 4000000 in
set_option maxRecDepth 100000 in
theorem fam_lo (n : Int) (w : World) (hT : Tab w) (hn : n < 2) :
    Calls Tryd.prog 11 #[.int .i64 n] w fun e w' => e = .returned (.bool true) ∧ Below w.heap.size w w' := by
  have HAw := Lib.hid (fun w' (hb : Below w.heap.size w w') => awake_any w' (tab_below hT hb))
  have HOwn := Lib.hid (fun a b c d w' => own_agg a b c d w')
  have HSquares := Lib.hid (fun w' => Squares_bad n w' (by omega) (by omega))
  have HPairs := Lib.hid (fun w' => Pairs_bad n w' (by omega))
  have HGrid := Lib.hid (fun w' => Grid_bad n w' (by omega))
  have p5 : (n == 5) = false := by simp; omega
  have p13 : (n == 13) = false := by simp; omega
  clear hT
  have HB0 := Lib.hid (Below.refl w.heap.size w)
  go_enter Tryd.func11, Tryd.ntmps11
  go_wp2_with fail
  refine (HSquares.out w).mono ?_
  rintro e w1 ⟨rfl, hb1⟩
  have HB1 := Lib.hid (HB0.out.trans (hb1.mono HB0.out.size))
  clear hb1
  go_wp2_with fail
  refine (HPairs.out w1).mono ?_
  rintro e w2 ⟨rfl, hb2⟩
  have HB2 := Lib.hid (HB1.out.trans (hb2.mono HB1.out.size))
  clear hb2
  go_wp2_with fail
  refine (HGrid.out w2).mono ?_
  rintro e w3 ⟨rfl, hb3⟩
  have HB3 := Lib.hid (HB2.out.trans (hb3.mono HB2.out.size))
  clear hb3
  go_wp2_with fail
  refine (HAw.out w3 HB3.out).mono ?_
  rintro e w4 ⟨rfl, hb4⟩
  have HB4 := Lib.hid (HB3.out.trans (hb4.mono HB3.out.size))
  clear hb4
  go_wp2
  go_ret
  exact ⟨rfl, HB4.out⟩

set_option maxHeartbeats 4000000 in
set_option maxRecDepth 100000 in
theorem fam_hi (n : Int) (w : World) (hT : Tab w) (hn : 6 < n) (h13 : n ≠ 13) :
    Calls Tryd.prog 11 #[.int .i64 n] w fun e w' => e = .returned (.bool true) ∧ Below w.heap.size w w' := by
  have HAw := Lib.hid (fun w' (hb : Below w.heap.size w w') => awake_any w' (tab_below hT hb))
  have HOwn := Lib.hid (fun a b c d w' => own_agg a b c d w')
  have HSquares := Lib.hid (fun w' => Squares_bad n w' (by omega) (by omega))
  have HPairs := Lib.hid (fun w' => Pairs_bad n w' (by omega))
  have HGrid := Lib.hid (fun w' => Grid_bad n w' (by omega))
  have p5 : (n == 5) = false := by simp; omega
  have p13 : (n == 13) = false := by simp; omega
  clear hT
  clear h13
  have HB0 := Lib.hid (Below.refl w.heap.size w)
  go_enter Tryd.func11, Tryd.ntmps11
  go_wp2_with fail
  refine (HSquares.out w).mono ?_
  rintro e w1 ⟨rfl, hb1⟩
  have HB1 := Lib.hid (HB0.out.trans (hb1.mono HB0.out.size))
  clear hb1
  go_wp2_with fail
  refine (HPairs.out w1).mono ?_
  rintro e w2 ⟨rfl, hb2⟩
  have HB2 := Lib.hid (HB1.out.trans (hb2.mono HB1.out.size))
  clear hb2
  go_wp2_with fail
  refine (HGrid.out w2).mono ?_
  rintro e w3 ⟨rfl, hb3⟩
  have HB3 := Lib.hid (HB2.out.trans (hb3.mono HB2.out.size))
  clear hb3
  go_wp2_with fail
  refine (HAw.out w3 HB3.out).mono ?_
  rintro e w4 ⟨rfl, hb4⟩
  have HB4 := Lib.hid (HB3.out.trans (hb4.mono HB3.out.size))
  clear hb4
  go_wp2
  go_ret
  exact ⟨ret_bool (by rw [decide_eq_false (by omega : ¬ n ≤ 6), decide_eq_false (by omega : ¬ n ≤ 4)]; rfl), HB4.out⟩

theorem schemesFamilies_law (n : Int) (w : World) (hT : Tab w) :
    Calls Tryd.prog 11 #[.int .i64 n] w fun e w' => e = .returned (.bool true) ∧ Below w.heap.size w w' := by
  by_cases h1 : n < 2
  · exact fam_lo n w hT h1
  by_cases h2 : 6 < n
  · by_cases h3 : n = 13
    · subst h3; exact fam_13 w hT
    · exact fam_hi n w hT h2 h3
  have : n = 2 ∨ n = 3 ∨ n = 4 ∨ n = 5 ∨ n = 6 := by omega
  rcases this with rfl | rfl | rfl | rfl | rfl
  · exact fam_2 w hT
  · exact fam_3 w hT
  · exact fam_4 w hT
  · exact fam_5 w hT
  · exact fam_6 w hT
end Go.Proofs.YtdnhfnegnjdeoaaDoor
