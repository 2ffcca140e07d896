/- own, awake -/
import Derived.Test.YtdnhfnegnjdeoaaDoorRp
import Derived.Laws.StructEq
namespace Go.Proofs.YtdnhfnegnjdeoaaDoor
open Go.RowKit

set_option maxHeartbeats 1000000 in
theorem own_any (a b c d : Int) (w : World) : Calls Tryd.prog 21 #[num4 a b c d] w fun e w' => e = .returned (num4 a b c d) ∧ Below w.heap.size w w' := by
  have hQ := Q4.new w 24 a b c d
  have q0 := hQ.c0
  have q1 := hQ.c1
  have q2 := hQ.c2
  have q3 := hQ.c3
  have hb := (Below.refl _ w).alloc (Nat.le_refl _) (.cells #[.int .i64 a, .int .i64 b, .int .i64 c, .int .i64 d] 24)
  have hs : (w.alloc (.cells #[.int .i64 a, .int .i64 b, .int .i64 c, .int .i64 d] 24)).heap.size = w.heap.size + 1 := World.size_alloc _ _
  unfold num4
  go_enter Tryd.func21, Tryd.ntmps21
  go_wp2_with fail
  have hS := Q4.new (w.alloc (.cells #[.int .i64 a, .int .i64 b, .int .i64 c, .int .i64 d] 24)) 32 a b c d
  have hB := hb.alloc (by omega) (.cells #[.int .i64 a, .int .i64 b, .int .i64 c, .int .i64 d] 32)
  rw [hs] at hS
  generalize ((w.alloc (.cells #[.int .i64 a, .int .i64 b, .int .i64 c, .int .i64 d] 24)).alloc (.cells #[.int .i64 a, .int .i64 b, .int .i64 c, .int .i64 d] 32)) = W at *
  refine bodyPost_ret (v := .agg #[.int .i64 a, .int .i64 b, .int .i64 c, .int .i64 d]) ?_ rfl ⟨rfl, hB⟩
  simp [results, Tryd.f21, go_sem, hS.c0, hS.c1, hS.c2, hS.c3]

theorem gr5 : Gr 5 [18, 5, 10, 20, 9] := ⟨rfl, by decide, by decide, by decide, by decide, fun i j hi hj => (by decide : ∀ i, i < 5 → ∀ j, j < 5 → ([18, 5, 10, 20, 9].getD i 0).testBit j = ([18, 5, 10, 20, 9].getD j 0).testBit i) i hi j hj⟩
theorem read5 : readP 5 [18, 5, 10, 20, 9] = some (2, 0, 1) := by decide +kernel

set_option maxHeartbeats 1000000 in
theorem awake_any (w : World) (hT : Tab w) : Calls Tryd.prog 22 #[] w fun e w' => e = .returned (.bool true) ∧ Below w.heap.size w w' := by
  have hb : Below w.heap.size w (w.alloc (.cells (ints (nats [18, 5, 10, 20, 9])).toArray 3)) := (Below.refl _ w).alloc (Nat.le_refl _) _
  have hN := (NatBlk.start w [18, 5, 10, 20, 9]).gr gr5
  have HR := Lib.hid (Read_any _ _ 5 _ gr5 hN (tab_below hT hb))
  rw [read5] at HR
  have HB := Lib.hid hb
  have HO := Lib.hid (fun w => own_any 5 2 0 1 w)
  clear hb hN hT
  unfold readV num4 at HR
  unfold num4 at HO
  go_enter Tryd.func22, Tryd.ntmps22
  go_wp2_with fail
  refine HR.out.mono ?_
  rintro e w1 ⟨rfl, hb1⟩
  have hB1 := HB.out.trans (hb1.mono HB.out.size)
  have HB2 := Lib.hid (hB1.alloc hB1.size (.cells #[.int .i64 5, .int .i64 2, .int .i64 0, .int .i64 1] 24))
  have hX := Q4.new w1 24 5 2 0 1
  have x0 := hX.c0
  have x1 := hX.c1
  have x2 := hX.c2
  have x3 := hX.c3
  clear hX hb1 hB1 HB HR
  go_wp2_with fail
  refine (HO.out _).mono ?_
  rintro e w2 ⟨rfl, hb2⟩
  have HB3 := Lib.hid (HB2.out.trans (hb2.mono HB2.out.size))
  clear hb2 x0 x1 x2 x3
  go_wp2_with fail
  go_ret
  exact ⟨rfl, HB3.out⟩
end Go.Proofs.YtdnhfnegnjdeoaaDoor
