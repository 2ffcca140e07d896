/- TopRegular's ties -/
import Derived.Test.YtdnhfnegnjdeoaaDoorTm
namespace Go.Proofs.YtdnhfnegnjdeoaaDoor
open Go.RowKit

set_option maxHeartbeats 1000000 in
theorem ties_any (w : World) (hT : Tab w) : Calls Tryd.prog 57 #[] w fun e w' => e = .returned (.bool true) ∧ Below w.heap.size w w' := by
  have hb : Below w.heap.size w (w.alloc (.cells (ints (nats [18, 5, 10, 20, 9])).toArray 3)) := (Below.refl _ w).alloc (Nat.le_refl _) _
  have hN := (NatBlk.start w [18, 5, 10, 20, 9]).gr gr5
  have HR := Lib.hid (Read_any _ _ 5 _ gr5 hN (tab_below hT hb))
  rw [read5] at HR
  have HB := Lib.hid hb
  clear hb hN hT
  unfold readV num4 at HR
  go_enter Tryd.func57, Tryd.ntmps57
  go_wp2_with fail
  refine HR.out.mono ?_
  rintro e w1 ⟨rfl, hb1⟩
  have hB1 := HB.out.trans (hb1.mono HB.out.size)
  have HB2 := Lib.hid (hB1.alloc hB1.size (.cells #[.int .i64 5, .int .i64 2, .int .i64 0, .int .i64 1] 24))
  have hX := Q4.new w1 24 5 2 0 1
  have x0 := hX.c0
  have x1 := hX.c1
  have x2 := hX.c2
  have x3 := hX.c3
  clear hX hb1 hB1 HB HR
  go_wp2_with fail
  go_ret
  exact ⟨rfl, HB2.out⟩
end Go.Proofs.YtdnhfnegnjdeoaaDoor
