/- SchemesMakes: the walk -/
import Derived.Test.YtdnhfnegnjdeoaaDoorRq
namespace Go.Proofs.YtdnhfnegnjdeoaaDoor
open Go.RowKit

set_option maxHeartbeats 4000000 in
set_option maxRecDepth 100000 in
theorem mak_2 (w : World) (hT : Tab w) :
    Calls Tryd.prog 5 #[.int .i64 2] w fun e w' => e = .returned (.bool true) ∧ Below w.heap.size w w' := by
  have HAw := Lib.hid (fun w' (hb : Below w.heap.size w w') => awake_any w' (tab_below hT hb))
  have HSquares := Lib.hid (fun w' => Squares_bad 2 w' (by decide) (by decide))
  have HPairs := Lib.hid (fun w' => Pairs_bad 2 w' (by decide))
  have HGrid := Lib.hid (fun w' => Grid2_any w')
  have HQGrid := Lib.hid (fun w' => rGrid2_any w')
  have HEGrid := Lib.hid (fun y z w' (h1 : Nats w' y (gridL 2)) (h2 : Nats w' z (gridL 2)) => equal_any y z _ _ w' h1 h2)
  rw [eqB_refl] at HEGrid
  clear hT
  have HB0 := Lib.hid (Below.refl w.heap.size w)
  go_enter Tryd.func5, Tryd.ntmps5
  go_wp2_with fail
  refine (HSquares.out w).mono ?_
  rintro e w1 ⟨rfl, hb1⟩
  have HB1 := Lib.hid (HB0.out.trans (hb1.mono HB0.out.size))
  clear hb1
  go_wp2_with fail
  refine (HPairs.out w1).mono ?_
  rintro e w2 ⟨rfl, hb2⟩
  have HB2 := Lib.hid (HB1.out.trans (hb2.mono HB1.out.size))
  clear hb2
  go_wp2_with fail
  refine (HGrid.out w2).mono ?_
  rintro e w3 ⟨v3, rfl, hv3, hb3⟩
  have HB3 := Lib.hid (HB2.out.trans (hb3.mono HB2.out.size))
  have Z_3 := Lib.hid (hv3)
  clear hb3 hv3
  go_wp2_with fail
  refine (HQGrid.out w3).mono ?_
  rintro e w4 ⟨v4, rfl, hv4, hb4⟩
  have HB4 := Lib.hid (HB3.out.trans (hb4.mono HB3.out.size))
  have Z_4 := Lib.hid (Z_3.out.below hb4 (Nat.le_refl _))
  have V_4 := Lib.hid (hv4)
  clear hb4 hv4
  go_wp2_with fail
  refine (HEGrid.out v3 v4 w4 Z_4.out V_4.out).mono ?_
  rintro e w5 ⟨rfl, hb5⟩
  have HB5 := Lib.hid (HB4.out.trans (hb5.mono HB4.out.size))
  have Z_5 := Lib.hid (Z_4.out.below hb5 (Nat.le_refl _))
  have V_5 := Lib.hid (V_4.out.below hb5 (Nat.le_refl _))
  clear hb5
  clear V_5
  clear Z_5
  go_wp2_with fail
  refine (HAw.out w5 HB5.out).mono ?_
  rintro e w6 ⟨rfl, hb6⟩
  have HB6 := Lib.hid (HB5.out.trans (hb6.mono HB5.out.size))
  clear hb6
  go_wp2
  go_ret
  exact ⟨rfl, HB6.out⟩

set_option maxHeartbeats 4000000 in
set_option maxRecDepth 100000 in
theorem mak_3 (w : World) (hT : Tab w) :
    Calls Tryd.prog 5 #[.int .i64 3] w fun e w' => e = .returned (.bool true) ∧ Below w.heap.size w w' := by
  have HAw := Lib.hid (fun w' (hb : Below w.heap.size w w') => awake_any w' (tab_below hT hb))
  have HSquares := Lib.hid (fun w' => Squares_bad 3 w' (by decide) (by decide))
  have HPairs := Lib.hid (fun w' => Pairs_bad 3 w' (by decide))
  have HGrid := Lib.hid (fun w' => Grid3_any w')
  have HQGrid := Lib.hid (fun w' => rGrid3_any w')
  have HEGrid := Lib.hid (fun y z w' (h1 : Nats w' y (gridL 3)) (h2 : Nats w' z (gridL 3)) => equal_any y z _ _ w' h1 h2)
  rw [eqB_refl] at HEGrid
  clear hT
  have HB0 := Lib.hid (Below.refl w.heap.size w)
  go_enter Tryd.func5, Tryd.ntmps5
  go_wp2_with fail
  refine (HSquares.out w).mono ?_
  rintro e w1 ⟨rfl, hb1⟩
  have HB1 := Lib.hid (HB0.out.trans (hb1.mono HB0.out.size))
  clear hb1
  go_wp2_with fail
  refine (HPairs.out w1).mono ?_
  rintro e w2 ⟨rfl, hb2⟩
  have HB2 := Lib.hid (HB1.out.trans (hb2.mono HB1.out.size))
  clear hb2
  go_wp2_with fail
  refine (HGrid.out w2).mono ?_
  rintro e w3 ⟨v3, rfl, hv3, hb3⟩
  have HB3 := Lib.hid (HB2.out.trans (hb3.mono HB2.out.size))
  have Z_3 := Lib.hid (hv3)
  clear hb3 hv3
  go_wp2_with fail
  refine (HQGrid.out w3).mono ?_
  rintro e w4 ⟨v4, rfl, hv4, hb4⟩
  have HB4 := Lib.hid (HB3.out.trans (hb4.mono HB3.out.size))
  have Z_4 := Lib.hid (Z_3.out.below hb4 (Nat.le_refl _))
  have V_4 := Lib.hid (hv4)
  clear hb4 hv4
  go_wp2_with fail
  refine (HEGrid.out v3 v4 w4 Z_4.out V_4.out).mono ?_
  rintro e w5 ⟨rfl, hb5⟩
  have HB5 := Lib.hid (HB4.out.trans (hb5.mono HB4.out.size))
  have Z_5 := Lib.hid (Z_4.out.below hb5 (Nat.le_refl _))
  have V_5 := Lib.hid (V_4.out.below hb5 (Nat.le_refl _))
  clear hb5
  clear V_5
  clear Z_5
  go_wp2_with fail
  refine (HAw.out w5 HB5.out).mono ?_
  rintro e w6 ⟨rfl, hb6⟩
  have HB6 := Lib.hid (HB5.out.trans (hb6.mono HB5.out.size))
  clear hb6
  go_wp2
  go_ret
  exact ⟨rfl, HB6.out⟩

set_option maxHeartbeats 4000000 in
set_option maxRecDepth 100000 in
theorem mak_4 (w : World) (hT : Tab w) :
    Calls Tryd.prog 5 #[.int .i64 4] w fun e w' => e = .returned (.bool true) ∧ Below w.heap.size w w' := by
  have HAw := Lib.hid (fun w' (hb : Below w.heap.size w w') => awake_any w' (tab_below hT hb))
  have HSquares := Lib.hid (fun w' => Squares_bad 4 w' (by decide) (by decide))
  have HPairs := Lib.hid (fun w' => Pairs_any 4 w' (by decide) (by decide))
  have HQPairs := Lib.hid (fun w' => rPairs_any 4 w' (by decide) (by decide))
  have HEPairs := Lib.hid (fun y z w' (h1 : Nats w' y (pairsL 4)) (h2 : Nats w' z (pairsL 4)) => equal_any y z _ _ w' h1 h2)
  rw [eqB_refl] at HEPairs
  have HGrid := Lib.hid (fun w' => Grid4_any w')
  have HQGrid := Lib.hid (fun w' => rGrid4_any w')
  have HEGrid := Lib.hid (fun y z w' (h1 : Nats w' y (gridL 4)) (h2 : Nats w' z (gridL 4)) => equal_any y z _ _ w' h1 h2)
  rw [eqB_refl] at HEGrid
  clear hT
  have HB0 := Lib.hid (Below.refl w.heap.size w)
  go_enter Tryd.func5, Tryd.ntmps5
  go_wp2_with fail
  refine (HSquares.out w).mono ?_
  rintro e w1 ⟨rfl, hb1⟩
  have HB1 := Lib.hid (HB0.out.trans (hb1.mono HB0.out.size))
  clear hb1
  go_wp2_with fail
  refine (HPairs.out w1).mono ?_
  rintro e w2 ⟨v2, rfl, hv2, hb2⟩
  have HB2 := Lib.hid (HB1.out.trans (hb2.mono HB1.out.size))
  have Y_2 := Lib.hid (hv2)
  clear hb2 hv2
  go_wp2_with fail
  refine (HGrid.out w2).mono ?_
  rintro e w3 ⟨v3, rfl, hv3, hb3⟩
  have HB3 := Lib.hid (HB2.out.trans (hb3.mono HB2.out.size))
  have Y_3 := Lib.hid (Y_2.out.below hb3 (Nat.le_refl _))
  have Z_3 := Lib.hid (hv3)
  clear hb3 hv3
  go_wp2_with fail
  refine (HQPairs.out w3).mono ?_
  rintro e w4 ⟨v4, rfl, hv4, hb4⟩
  have HB4 := Lib.hid (HB3.out.trans (hb4.mono HB3.out.size))
  have Y_4 := Lib.hid (Y_3.out.below hb4 (Nat.le_refl _))
  have Z_4 := Lib.hid (Z_3.out.below hb4 (Nat.le_refl _))
  have V_4 := Lib.hid (hv4)
  clear hb4 hv4
  go_wp2_with fail
  refine (HEPairs.out v2 v4 w4 Y_4.out V_4.out).mono ?_
  rintro e w5 ⟨rfl, hb5⟩
  have HB5 := Lib.hid (HB4.out.trans (hb5.mono HB4.out.size))
  have Y_5 := Lib.hid (Y_4.out.below hb5 (Nat.le_refl _))
  have Z_5 := Lib.hid (Z_4.out.below hb5 (Nat.le_refl _))
  have V_5 := Lib.hid (V_4.out.below hb5 (Nat.le_refl _))
  clear hb5
  clear V_5
  clear Y_5
  go_wp2_with fail
  refine (HQGrid.out w5).mono ?_
  rintro e w6 ⟨v6, rfl, hv6, hb6⟩
  have HB6 := Lib.hid (HB5.out.trans (hb6.mono HB5.out.size))
  have Z_6 := Lib.hid (Z_5.out.below hb6 (Nat.le_refl _))
  have V_6 := Lib.hid (hv6)
  clear hb6 hv6
  go_wp2_with fail
  refine (HEGrid.out v3 v6 w6 Z_6.out V_6.out).mono ?_
  rintro e w7 ⟨rfl, hb7⟩
  have HB7 := Lib.hid (HB6.out.trans (hb7.mono HB6.out.size))
  have Z_7 := Lib.hid (Z_6.out.below hb7 (Nat.le_refl _))
  have V_7 := Lib.hid (V_6.out.below hb7 (Nat.le_refl _))
  clear hb7
  clear V_7
  clear Z_7
  go_wp2_with fail
  refine (HAw.out w7 HB7.out).mono ?_
  rintro e w8 ⟨rfl, hb8⟩
  have HB8 := Lib.hid (HB7.out.trans (hb8.mono HB7.out.size))
  clear hb8
  go_wp2
  go_ret
  exact ⟨rfl, HB8.out⟩

set_option maxHeartbeats 4000000 in
set_option maxRecDepth 100000 in
theorem mak_5 (w : World) (hT : Tab w) :
    Calls Tryd.prog 5 #[.int .i64 5] w fun e w' => e = .returned (.bool true) ∧ Below w.heap.size w w' := by
  have HAw := Lib.hid (fun w' (hb : Below w.heap.size w w') => awake_any w' (tab_below hT hb))
  have HSquares := Lib.hid (fun w' => Squares5_any w')
  have HQSquares := Lib.hid (fun w' => rSquares5_any w')
  have HESquares := Lib.hid (fun y z w' (h1 : Nats w' y (squaresL 5)) (h2 : Nats w' z (squaresL 5)) => equal_any y z _ _ w' h1 h2)
  rw [eqB_refl] at HESquares
  have HPairs := Lib.hid (fun w' => Pairs_any 5 w' (by decide) (by decide))
  have HQPairs := Lib.hid (fun w' => rPairs_any 5 w' (by decide) (by decide))
  have HEPairs := Lib.hid (fun y z w' (h1 : Nats w' y (pairsL 5)) (h2 : Nats w' z (pairsL 5)) => equal_any y z _ _ w' h1 h2)
  rw [eqB_refl] at HEPairs
  have HGrid := Lib.hid (fun w' => Grid_bad 5 w' (by decide))
  clear hT
  have HB0 := Lib.hid (Below.refl w.heap.size w)
  go_enter Tryd.func5, Tryd.ntmps5
  go_wp2_with fail
  refine (HSquares.out w).mono ?_
  rintro e w1 ⟨v1, rfl, hv1, hb1⟩
  have HB1 := Lib.hid (HB0.out.trans (hb1.mono HB0.out.size))
  have X_1 := Lib.hid (hv1)
  clear hb1 hv1
  go_wp2_with fail
  refine (HPairs.out w1).mono ?_
  rintro e w2 ⟨v2, rfl, hv2, hb2⟩
  have HB2 := Lib.hid (HB1.out.trans (hb2.mono HB1.out.size))
  have X_2 := Lib.hid (X_1.out.below hb2 (Nat.le_refl _))
  have Y_2 := Lib.hid (hv2)
  clear hb2 hv2
  go_wp2_with fail
  refine (HGrid.out w2).mono ?_
  rintro e w3 ⟨rfl, hb3⟩
  have HB3 := Lib.hid (HB2.out.trans (hb3.mono HB2.out.size))
  have X_3 := Lib.hid (X_2.out.below hb3 (Nat.le_refl _))
  have Y_3 := Lib.hid (Y_2.out.below hb3 (Nat.le_refl _))
  clear hb3
  go_wp2_with fail
  refine (HQSquares.out w3).mono ?_
  rintro e w4 ⟨v4, rfl, hv4, hb4⟩
  have HB4 := Lib.hid (HB3.out.trans (hb4.mono HB3.out.size))
  have X_4 := Lib.hid (X_3.out.below hb4 (Nat.le_refl _))
  have Y_4 := Lib.hid (Y_3.out.below hb4 (Nat.le_refl _))
  have V_4 := Lib.hid (hv4)
  clear hb4 hv4
  go_wp2_with fail
  refine (HESquares.out v1 v4 w4 X_4.out V_4.out).mono ?_
  rintro e w5 ⟨rfl, hb5⟩
  have HB5 := Lib.hid (HB4.out.trans (hb5.mono HB4.out.size))
  have X_5 := Lib.hid (X_4.out.below hb5 (Nat.le_refl _))
  have Y_5 := Lib.hid (Y_4.out.below hb5 (Nat.le_refl _))
  have V_5 := Lib.hid (V_4.out.below hb5 (Nat.le_refl _))
  clear hb5
  clear V_5
  clear X_5
  go_wp2_with fail
  refine (HQPairs.out w5).mono ?_
  rintro e w6 ⟨v6, rfl, hv6, hb6⟩
  have HB6 := Lib.hid (HB5.out.trans (hb6.mono HB5.out.size))
  have Y_6 := Lib.hid (Y_5.out.below hb6 (Nat.le_refl _))
  have V_6 := Lib.hid (hv6)
  clear hb6 hv6
  go_wp2_with fail
  refine (HEPairs.out v2 v6 w6 Y_6.out V_6.out).mono ?_
  rintro e w7 ⟨rfl, hb7⟩
  have HB7 := Lib.hid (HB6.out.trans (hb7.mono HB6.out.size))
  have Y_7 := Lib.hid (Y_6.out.below hb7 (Nat.le_refl _))
  have V_7 := Lib.hid (V_6.out.below hb7 (Nat.le_refl _))
  clear hb7
  clear V_7
  clear Y_7
  go_wp2_with fail
  refine (HAw.out w7 HB7.out).mono ?_
  rintro e w8 ⟨rfl, hb8⟩
  have HB8 := Lib.hid (HB7.out.trans (hb8.mono HB7.out.size))
  clear hb8
  go_wp2
  go_ret
  exact ⟨rfl, HB8.out⟩

set_option maxHeartbeats 4000000 in
set_option maxRecDepth 100000 in
theorem mak_6 (w : World) (hT : Tab w) :
    Calls Tryd.prog 5 #[.int .i64 6] w fun e w' => e = .returned (.bool true) ∧ Below w.heap.size w w' := by
  have HAw := Lib.hid (fun w' (hb : Below w.heap.size w w') => awake_any w' (tab_below hT hb))
  have HSquares := Lib.hid (fun w' => Squares_bad 6 w' (by decide) (by decide))
  have HPairs := Lib.hid (fun w' => Pairs_any 6 w' (by decide) (by decide))
  have HQPairs := Lib.hid (fun w' => rPairs_any 6 w' (by decide) (by decide))
  have HEPairs := Lib.hid (fun y z w' (h1 : Nats w' y (pairsL 6)) (h2 : Nats w' z (pairsL 6)) => equal_any y z _ _ w' h1 h2)
  rw [eqB_refl] at HEPairs
  have HGrid := Lib.hid (fun w' => Grid_bad 6 w' (by decide))
  clear hT
  have HB0 := Lib.hid (Below.refl w.heap.size w)
  go_enter Tryd.func5, Tryd.ntmps5
  go_wp2_with fail
  refine (HSquares.out w).mono ?_
  rintro e w1 ⟨rfl, hb1⟩
  have HB1 := Lib.hid (HB0.out.trans (hb1.mono HB0.out.size))
  clear hb1
  go_wp2_with fail
  refine (HPairs.out w1).mono ?_
  rintro e w2 ⟨v2, rfl, hv2, hb2⟩
  have HB2 := Lib.hid (HB1.out.trans (hb2.mono HB1.out.size))
  have Y_2 := Lib.hid (hv2)
  clear hb2 hv2
  go_wp2_with fail
  refine (HGrid.out w2).mono ?_
  rintro e w3 ⟨rfl, hb3⟩
  have HB3 := Lib.hid (HB2.out.trans (hb3.mono HB2.out.size))
  have Y_3 := Lib.hid (Y_2.out.below hb3 (Nat.le_refl _))
  clear hb3
  go_wp2_with fail
  refine (HQPairs.out w3).mono ?_
  rintro e w4 ⟨v4, rfl, hv4, hb4⟩
  have HB4 := Lib.hid (HB3.out.trans (hb4.mono HB3.out.size))
  have Y_4 := Lib.hid (Y_3.out.below hb4 (Nat.le_refl _))
  have V_4 := Lib.hid (hv4)
  clear hb4 hv4
  go_wp2_with fail
  refine (HEPairs.out v2 v4 w4 Y_4.out V_4.out).mono ?_
  rintro e w5 ⟨rfl, hb5⟩
  have HB5 := Lib.hid (HB4.out.trans (hb5.mono HB4.out.size))
  have Y_5 := Lib.hid (Y_4.out.below hb5 (Nat.le_refl _))
  have V_5 := Lib.hid (V_4.out.below hb5 (Nat.le_refl _))
  clear hb5
  clear V_5
  clear Y_5
  go_wp2_with fail
  refine (HAw.out w5 HB5.out).mono ?_
  rintro e w6 ⟨rfl, hb6⟩
  have HB6 := Lib.hid (HB5.out.trans (hb6.mono HB5.out.size))
  clear hb6
  go_wp2
  go_ret
  exact ⟨rfl, HB6.out⟩

set_option maxHeartbeats 4000000 in
set_option maxRecDepth 100000 in
theorem mak_13 (w : World) (hT : Tab w) :
    Calls Tryd.prog 5 #[.int .i64 13] w fun e w' => e = .returned (.bool true) ∧ Below w.heap.size w w' := by
  have HAw := Lib.hid (fun w' (hb : Below w.heap.size w w') => awake_any w' (tab_below hT hb))
  have HSquares := Lib.hid (fun w' => Squares13_any w')
  have HQSquares := Lib.hid (fun w' => rSquares13_any w')
  have HESquares := Lib.hid (fun y z w' (h1 : Nats w' y (squaresL 13)) (h2 : Nats w' z (squaresL 13)) => equal_any y z _ _ w' h1 h2)
  rw [eqB_refl] at HESquares
  have HPairs := Lib.hid (fun w' => Pairs_bad 13 w' (by decide))
  have HGrid := Lib.hid (fun w' => Grid_bad 13 w' (by decide))
  clear hT
  have HB0 := Lib.hid (Below.refl w.heap.size w)
  go_enter Tryd.func5, Tryd.ntmps5
  go_wp2_with fail
  refine (HSquares.out w).mono ?_
  rintro e w1 ⟨v1, rfl, hv1, hb1⟩
  have HB1 := Lib.hid (HB0.out.trans (hb1.mono HB0.out.size))
  have X_1 := Lib.hid (hv1)
  clear hb1 hv1
  go_wp2_with fail
  refine (HPairs.out w1).mono ?_
  rintro e w2 ⟨rfl, hb2⟩
  have HB2 := Lib.hid (HB1.out.trans (hb2.mono HB1.out.size))
  have X_2 := Lib.hid (X_1.out.below hb2 (Nat.le_refl _))
  clear hb2
  go_wp2_with fail
  refine (HGrid.out w2).mono ?_
  rintro e w3 ⟨rfl, hb3⟩
  have HB3 := Lib.hid (HB2.out.trans (hb3.mono HB2.out.size))
  have X_3 := Lib.hid (X_2.out.below hb3 (Nat.le_refl _))
  clear hb3
  go_wp2_with fail
  refine (HQSquares.out w3).mono ?_
  rintro e w4 ⟨v4, rfl, hv4, hb4⟩
  have HB4 := Lib.hid (HB3.out.trans (hb4.mono HB3.out.size))
  have X_4 := Lib.hid (X_3.out.below hb4 (Nat.le_refl _))
  have V_4 := Lib.hid (hv4)
  clear hb4 hv4
  go_wp2_with fail
  refine (HESquares.out v1 v4 w4 X_4.out V_4.out).mono ?_
  rintro e w5 ⟨rfl, hb5⟩
  have HB5 := Lib.hid (HB4.out.trans (hb5.mono HB4.out.size))
  have X_5 := Lib.hid (X_4.out.below hb5 (Nat.le_refl _))
  have V_5 := Lib.hid (V_4.out.below hb5 (Nat.le_refl _))
  clear hb5
  clear V_5
  clear X_5
  go_wp2_with fail
  refine (HAw.out w5 HB5.out).mono ?_
  rintro e w6 ⟨rfl, hb6⟩
  have HB6 := Lib.hid (HB5.out.trans (hb6.mono HB5.out.size))
  clear hb6
  go_wp2
  go_ret
  exact ⟨rfl, HB6.out⟩

set_option maxHeartbeats 4000000 in
set_option maxRecDepth 100000 in
theorem mak_lo (n : Int) (w : World) (hT : Tab w) (hn : n < 2) :
    Calls Tryd.prog 5 #[.int .i64 n] w fun e w' => e = .returned (.bool true) ∧ Below w.heap.size w w' := by
  have HAw := Lib.hid (fun w' (hb : Below w.heap.size w w') => awake_any w' (tab_below hT hb))
  have HSquares := Lib.hid (fun w' => Squares_bad n w' (by omega) (by omega))
  have HPairs := Lib.hid (fun w' => Pairs_bad n w' (by omega))
  have HGrid := Lib.hid (fun w' => Grid_bad n w' (by omega))
  have p5 : (n == 5) = false := by simp; omega
  have p13 : (n == 13) = false := by simp; omega
  clear hT
  have HB0 := Lib.hid (Below.refl w.heap.size w)
  go_enter Tryd.func5, Tryd.ntmps5
  go_wp2_with fail
  refine (HSquares.out w).mono ?_
  rintro e w1 ⟨rfl, hb1⟩
  have HB1 := Lib.hid (HB0.out.trans (hb1.mono HB0.out.size))
  clear hb1
  go_wp2_with fail
  refine (HPairs.out w1).mono ?_
  rintro e w2 ⟨rfl, hb2⟩
  have HB2 := Lib.hid (HB1.out.trans (hb2.mono HB1.out.size))
  clear hb2
  go_wp2_with fail
  refine (HGrid.out w2).mono ?_
  rintro e w3 ⟨rfl, hb3⟩
  have HB3 := Lib.hid (HB2.out.trans (hb3.mono HB2.out.size))
  clear hb3
  go_wp2_with fail
  refine (HAw.out w3 HB3.out).mono ?_
  rintro e w4 ⟨rfl, hb4⟩
  have HB4 := Lib.hid (HB3.out.trans (hb4.mono HB3.out.size))
  clear hb4
  go_wp2
  go_ret
  exact ⟨rfl, HB4.out⟩

set_option maxHeartbeats 4000000 in
set_option maxRecDepth 100000 in
theorem mak_hi (n : Int) (w : World) (hT : Tab w) (hn : 6 < n) (h13 : n ≠ 13) :
    Calls Tryd.prog 5 #[.int .i64 n] w fun e w' => e = .returned (.bool true) ∧ Below w.heap.size w w' := by
  have HAw := Lib.hid (fun w' (hb : Below w.heap.size w w') => awake_any w' (tab_below hT hb))
  have HSquares := Lib.hid (fun w' => Squares_bad n w' (by omega) (by omega))
  have HPairs := Lib.hid (fun w' => Pairs_bad n w' (by omega))
  have HGrid := Lib.hid (fun w' => Grid_bad n w' (by omega))
  have p5 : (n == 5) = false := by simp; omega
  have p13 : (n == 13) = false := by simp; omega
  clear hT
  clear h13
  have HB0 := Lib.hid (Below.refl w.heap.size w)
  go_enter Tryd.func5, Tryd.ntmps5
  go_wp2_with fail
  refine (HSquares.out w).mono ?_
  rintro e w1 ⟨rfl, hb1⟩
  have HB1 := Lib.hid (HB0.out.trans (hb1.mono HB0.out.size))
  clear hb1
  go_wp2_with fail
  refine (HPairs.out w1).mono ?_
  rintro e w2 ⟨rfl, hb2⟩
  have HB2 := Lib.hid (HB1.out.trans (hb2.mono HB1.out.size))
  clear hb2
  go_wp2_with fail
  refine (HGrid.out w2).mono ?_
  rintro e w3 ⟨rfl, hb3⟩
  have HB3 := Lib.hid (HB2.out.trans (hb3.mono HB2.out.size))
  clear hb3
  go_wp2_with fail
  refine (HAw.out w3 HB3.out).mono ?_
  rintro e w4 ⟨rfl, hb4⟩
  have HB4 := Lib.hid (HB3.out.trans (hb4.mono HB3.out.size))
  clear hb4
  go_wp2
  go_ret
  exact ⟨rfl, HB4.out⟩

theorem schemesMakes_law (n : Int) (w : World) (hT : Tab w) :
    Calls Tryd.prog 5 #[.int .i64 n] w fun e w' => e = .returned (.bool true) ∧ Below w.heap.size w w' := by
  by_cases h1 : n < 2
  · exact mak_lo n w hT h1
  by_cases h2 : 6 < n
  · by_cases h3 : n = 13
    · subst h3; exact mak_13 w hT
    · exact mak_hi n w hT h2 h3
  have : n = 2 ∨ n = 3 ∨ n = 4 ∨ n = 5 ∨ n = 6 := by omega
  rcases this with rfl | rfl | rfl | rfl | rfl
  · exact mak_2 w hT
  · exact mak_3 w hT
  · exact mak_4 w hT
  · exact mak_5 w hT
  · exact mak_6 w hT
end Go.Proofs.YtdnhfnegnjdeoaaDoor
