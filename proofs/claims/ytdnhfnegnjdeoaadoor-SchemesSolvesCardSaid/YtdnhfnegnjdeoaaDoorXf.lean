/- SchemesSolves: the walk -/
import Derived.Test.YtdnhfnegnjdeoaaDoorXe
namespace Go.Proofs.YtdnhfnegnjdeoaaDoor
open Go.RowKit

theorem reaV_form (z : Int) : ∃ a b : Int, reaV z = .tuple #[.int .i64 a, .int .i64 b] := by
  unfold reaV
  split
  · exact ⟨_, _, rfl⟩
  · exact ⟨_, _, rfl⟩
theorem solP_form {N K L M : Int} {v : Value} {er : Int} (h : SolP N K L M v er) : ∃ a b c d : Int, v = num4 a b c d := by
  rcases h with ⟨_, rfl, _⟩ | ⟨_, _, _, _, rfl, _⟩ | ⟨R, S, F, _, _, rfl, _⟩
  · exact ⟨_, _, _, _, rfl⟩
  · exact ⟨_, _, _, _, rfl⟩
  · exact ⟨_, _, _, _, rfl⟩

set_option maxRecDepth 100000 in
set_option maxHeartbeats 4000000 in
theorem solves_bad (N K L M : Int) (w : World) (hT : Tab w) (h : askB N K L M = false) : Calls Tryd.prog 4 #[num4 N K L M] w fun e w' => e = .returned (.bool true) ∧ Below w.heap.size w w' := by
  have HAw := Lib.hid (fun w' (hb : Below w.heap.size w w') => awake_any w' (tab_below hT hb))
  have Q1 := Q4.new w 32 N K L M
  have HB1 := Lib.hid ((Below.refl w.heap.size w).alloc (Nat.le_refl _) (.cells #[.int .i64 N, .int .i64 K, .int .i64 L, .int .i64 M] 32))
  have p0 := Q1.c0
  have p1 := Q1.c1
  have p2 := Q1.c2
  have p3 := Q1.c3
  have HOf := Lib.hid (fun w => of_any N K L M w)
  have HSv := Lib.hid (fun w => Solve_bad N K L M w h)
  have HRs := Lib.hid (fun w => Reason_exact N K L M w)
  have HA := Lib.hid (fun w => rAsked_any N K L M w)
  rw [h] at HRs HA
  unfold num4 at HOf HSv HRs HA ⊢
  clear h hT
  go_enter Tryd.func4, Tryd.ntmps4
  go_wp2_with fail
  refine (HOf.out _).mono ?_
  rintro e w2 ⟨rfl, hb⟩
  have P2 := Q1.below hb
  have HB2 := Lib.hid (HB1.out.trans (hb.mono HB1.out.size))
  clear hb p0 p1 p2 p3 Q1
  go_wp2_with fail
  refine (HSv.out _).mono ?_
  rintro e w3 ⟨rfl, hb⟩
  have P3 := P2.below hb
  have HB3 := Lib.hid (HB2.out.trans (hb.mono HB2.out.size))
  have hb4 := (Below.refl w3.heap.size w3).alloc (Nat.le_refl _) (.cells #[.int .i64 0, .int .i64 0, .int .i64 0, .int .i64 0] 39)
  have P4 := P3.below hb4
  have A4 := Q4.new w3 39 0 0 0 0
  have HB4 := Lib.hid (HB3.out.trans (hb4.mono HB3.out.size))
  have y0 := P4.c0
  have y1 := P4.c1
  have y2 := P4.c2
  have y3 := P4.c3
  clear hb P2 P3 hb4
  go_wp2_with fail
  refine (HOf.out _).mono ?_
  rintro e w5 ⟨rfl, hb⟩
  have P5 := P4.below hb
  have A5 := A4.below hb
  have HB5 := Lib.hid (HB4.out.trans (hb.mono HB4.out.size))
  clear hb y0 y1 y2 y3 P4 A4
  go_wp2_with fail
  refine (HRs.out _).mono ?_
  intro e w6 hr
  rw [if_neg (by decide)] at hr
  obtain ⟨rfl, hb⟩ := hr
  have P6 := P5.below hb
  have A6 := A5.below hb
  have HB6 := Lib.hid (HB5.out.trans (hb.mono HB5.out.size))
  have y0 := P6.c0
  have y1 := P6.c1
  have y2 := P6.c2
  have y3 := P6.c3
  clear hb P5 A5
  go_wp2_with fail
  refine (HA.out _).mono ?_
  rintro e w7 ⟨rfl, hb⟩
  have A7 := A6.below hb
  have HB7 := Lib.hid (HB6.out.trans (hb.mono HB6.out.size))
  clear hb y0 y1 y2 y3 P6 A6
  have x0 := A7.c0
  have x1 := A7.c1
  have x2 := A7.c2
  have x3 := A7.c3
  go_wp2_with fail
  refine (HAw.out _ HB7.out).mono ?_
  rintro e w8 ⟨rfl, hb⟩
  have HB8 := Lib.hid (HB7.out.trans (hb.mono HB7.out.size))
  clear hb
  go_wp2_with fail
  go_ret
  exact ⟨rfl, HB8.out⟩

set_option maxRecDepth 100000 in
set_option maxHeartbeats 4000000 in
theorem solves_good (N K L M : Int) (w : World) (hT : Tab w) (h : askB N K L M = true) : Calls Tryd.prog 4 #[num4 N K L M] w fun e w' => e = .returned (.bool true) ∧ Below w.heap.size w w' := by
  have ha := ask_of h
  have HAw := Lib.hid (fun w' (hb : Below w.heap.size w w') => awake_any w' (tab_below hT hb))
  have Q1 := Q4.new w 32 N K L M
  have HB1 := Lib.hid ((Below.refl w.heap.size w).alloc (Nat.le_refl _) (.cells #[.int .i64 N, .int .i64 K, .int .i64 L, .int .i64 M] 32))
  have p0 := Q1.c0
  have p1 := Q1.c1
  have p2 := Q1.c2
  have p3 := Q1.c3
  have HOf := Lib.hid (fun w => of_any N K L M w)
  have HSv := Lib.hid (fun w => Solve_exact N K L M w h)
  have HRs := Lib.hid (fun w => Reason_exact N K L M w)
  have HA := Lib.hid (fun w => rAsked_any N K L M w)
  have HS2 := Lib.hid (fun w => rSolve_exact N K L M w ha)
  have HR2 := Lib.hid (fun w => rReason_exact N K L M w ha)
  rw [h] at HRs HA
  have HOne := Lib.hid (fun v er v' er' (h : SolP N K L M v er) (h' : SolP N K L M v' er') => h.one ha h')
  have HTwo := Lib.hid (fun z z' (h : ReaP N K L M z) (h' : ReaP N K L M z') => h.one ha h')
  unfold SolPost at HSv HS2
  unfold ReaPost at HRs HR2
  unfold num4 at HOf HSv HRs HA HS2 HR2 ⊢
  clear h hT ha
  go_enter Tryd.func4, Tryd.ntmps4
  go_wp2_with fail
  refine (HOf.out _).mono ?_
  rintro e w2 ⟨rfl, hb⟩
  have P2 := Q1.below hb
  have HB2 := Lib.hid (HB1.out.trans (hb.mono HB1.out.size))
  clear hb p0 p1 p2 p3 Q1
  go_wp2_with fail
  refine (HSv.out _).mono ?_
  rintro e w3 ⟨⟨v, er, hs, rfl⟩, hb⟩
  have HSP := Lib.hid hs
  obtain ⟨a, b, c, d, rfl⟩ := solP_form hs
  have P3 := P2.below hb
  have HB3 := Lib.hid (HB2.out.trans (hb.mono HB2.out.size))
  have hb4 := (Below.refl w3.heap.size w3).alloc (Nat.le_refl _) (.cells #[.int .i64 a, .int .i64 b, .int .i64 c, .int .i64 d] 39)
  have P4 := P3.below hb4
  have A4 := Q4.new w3 39 a b c d
  have HB4 := Lib.hid (HB3.out.trans (hb4.mono HB3.out.size))
  have y0 := P4.c0
  have y1 := P4.c1
  have y2 := P4.c2
  have y3 := P4.c3
  clear hb P2 P3 hb4 hs
  unfold num4 at HSP ⊢
  go_wp2_with fail
  refine (HOf.out _).mono ?_
  rintro e w5 ⟨rfl, hb⟩
  have P5 := P4.below hb
  have A5 := A4.below hb
  have HB5 := Lib.hid (HB4.out.trans (hb.mono HB4.out.size))
  clear hb y0 y1 y2 y3 P4 A4
  go_wp2_with fail
  refine (HRs.out _).mono ?_
  intro e w6 hr
  rw [if_pos trivial] at hr
  obtain ⟨⟨z, hz, rfl⟩, hb⟩ := hr
  have HZ := Lib.hid hz
  obtain ⟨z1, z2, hz12⟩ := reaV_form z
  rw [hz12]
  have HZ12 := Lib.hid hz12
  have P6 := P5.below hb
  have A6 := A5.below hb
  have HB6 := Lib.hid (HB5.out.trans (hb.mono HB5.out.size))
  have y0 := P6.c0
  have y1 := P6.c1
  have y2 := P6.c2
  have y3 := P6.c3
  clear hb P5 A5 hz hz12
  go_wp2_with fail
  refine (HA.out _).mono ?_
  rintro e w7 ⟨rfl, hb⟩
  have P7 := P6.below hb
  have A7 := A6.below hb
  have HB7 := Lib.hid (HB6.out.trans (hb.mono HB6.out.size))
  clear hb y0 y1 y2 y3 P6 A6
  have y0 := P7.c0
  have y1 := P7.c1
  have y2 := P7.c2
  have y3 := P7.c3
  go_wp2_with fail
  refine (HS2.out _).mono ?_
  rintro e w8 ⟨⟨v', er', hs, rfl⟩, hb⟩
  obtain ⟨rfl, rfl⟩ := HOne.out _ _ _ _ HSP.out hs
  have P8 := P7.below hb
  have A8 := A7.below hb
  have HB8 := Lib.hid (HB7.out.trans (hb.mono HB7.out.size))
  clear hb y0 y1 y2 y3 P7 A7 hs
  have hb9 := (Below.refl w8.heap.size w8).alloc (Nat.le_refl _) (.cells #[.int .i64 a, .int .i64 b, .int .i64 c, .int .i64 d] 46)
  have P9 := P8.below hb9
  have A9 := A8.below hb9
  have C9 := Q4.new w8 46 a b c d
  have HB9 := Lib.hid (HB8.out.trans (hb9.mono HB8.out.size))
  clear P8 A8 hb9
  have y0 := P9.c0
  have y1 := P9.c1
  have y2 := P9.c2
  have y3 := P9.c3
  go_wp2_with fail
  refine (HR2.out _).mono ?_
  rintro e w10 ⟨⟨z', hz, rfl⟩, hb⟩
  obtain rfl := HTwo.out _ _ HZ.out hz
  rw [HZ12.out]
  have A10 := A9.below hb
  have C10 := C9.below hb
  have HB10 := Lib.hid (HB9.out.trans (hb.mono HB9.out.size))
  clear hb y0 y1 y2 y3 P9 A9 C9 hz
  have x0 := A10.c0
  have x1 := A10.c1
  have x2 := A10.c2
  have x3 := A10.c3
  have t0 := C10.c0
  have t1 := C10.c1
  have t2 := C10.c2
  have t3 := C10.c3
  have e0 : (a == a) = true := beq_self_eq_true a
  have e1 : (b == b) = true := beq_self_eq_true b
  have e2 : (c == c) = true := beq_self_eq_true c
  have e3 : (d == d) = true := beq_self_eq_true d
  go_wp2_with fail
  refine (HAw.out _ HB10.out).mono ?_
  rintro e w11 ⟨rfl, hb⟩
  have HB11 := Lib.hid (HB10.out.trans (hb.mono HB10.out.size))
  clear hb
  go_wp2_with fail
  go_ret
  exact ⟨rfl, HB11.out⟩

theorem schemesSolves_law (N K L M : Int) (w : World) (hT : Tab w) : Calls Tryd.prog 4 #[num4 N K L M] w fun e w' => e = .returned (.bool true) ∧ Below w.heap.size w w' := by
  cases h : askB N K L M with
  | false => exact solves_bad N K L M w hT h
  | true => exact solves_good N K L M w hT h
end Go.Proofs.YtdnhfnegnjdeoaaDoor
