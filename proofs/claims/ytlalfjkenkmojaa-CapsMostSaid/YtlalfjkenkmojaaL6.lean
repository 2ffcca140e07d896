/- CapsTests: the walk -/
import Derived.Test.YtlalfjkenkmojaaRg
namespace Go.Proofs.Ytlalfjkenkmojaa
open Go.RowKit

set_option maxHeartbeats 4000000 in
set_option maxRecDepth 100000 in
theorem tests_00 (n : Int) (v : Value) (xs : List Int) (w : World) (h : Ints w v xs) (hres : resB n xs = false) (hst : stB n xs = false) :
    Calls Try.prog 6 #[.int .i64 n, v] w fun e w' => e = .returned (.bool true) ∧ Below w.heap.size w w' := by
  have HL := Lib.hid (fun w' (hb : Below w.heap.size w w') => list_any v _ w' (h.below hb (Nat.le_refl _)))
  have HRR := Lib.hid (fun w' (hb : Below w.heap.size w w') => rResidues_any n v _ w' (h.below hb (Nat.le_refl _)))
  have HRi := Lib.hid (fun w' (hb : Below w.heap.size w w') => rRising' v _ 1 n w' (h.below hb (Nat.le_refl _)))
  have HAw := Lib.hid (fun w => awake_any w)
  have HSu := Lib.hid (fun v' w' (h' : Ints w' v' (xs.take 90)) => Sums_bad n v' _ w' h' (by rw [resB_take, hres]))
  have HAp := Lib.hid (fun v' w' (h' : Ints w' v' (xs.take 90)) => Apart_bad n v' _ w' h' (by rw [resB_take, hres]))
  rw [hres] at HRR
  have HSt := Lib.hid (fun v' w' (h' : Ints w' v' (xs.take 90)) => Steps_bad n v' _ w' h' (by rw [stB_take, hst]))
  by_cases c1 : n < 1
  · clear h hres hst HRi
    have HB0 := Lib.hid (Below.refl w.heap.size w)
    go_enter Try.func6, Try.ntmps6
    go_wp2_with fail
    refine (HL.out w HB0.out).mono ?_
    rintro e w1 ⟨v1, rfl, hv1, hb1⟩
    have HB1 := Lib.hid (HB0.out.trans (hb1.mono HB0.out.size))
    have A_1 := Lib.hid (hv1)
    clear hb1 hv1
    go_wp2_with fail
    refine (HSu.out v1 w1 A_1.out).mono ?_
    rintro e w' ⟨rfl, rfl⟩
    clear A_1
    go_wp2_with fail
    refine (HL.out w1 HB1.out).mono ?_
    rintro e w2 ⟨v2, rfl, hv2, hb2⟩
    have HB2 := Lib.hid (HB1.out.trans (hb2.mono HB1.out.size))
    have A_2 := Lib.hid (hv2)
    clear hb2 hv2
    go_wp2_with fail
    refine (HAp.out v2 w2 A_2.out).mono ?_
    rintro e w' ⟨rfl, rfl⟩
    clear A_2
    go_wp2_with fail
    refine (HL.out w2 HB2.out).mono ?_
    rintro e w3 ⟨v3, rfl, hv3, hb3⟩
    have HB3 := Lib.hid (HB2.out.trans (hb3.mono HB2.out.size))
    have A_3 := Lib.hid (hv3)
    clear hb3 hv3
    go_wp2_with fail
    refine (HSt.out v3 w3 A_3.out).mono ?_
    rintro e w' ⟨rfl, rfl⟩
    clear A_3
    go_wp2_with fail
    refine (HRR.out w3 HB3.out).mono ?_
    rintro e w' ⟨rfl, rfl⟩
    go_wp2_with fail
    refine (HAw.out w3).mono ?_
    rintro e w4 ⟨rfl, hb4⟩
    have HB4 := Lib.hid (HB3.out.trans (hb4.mono HB3.out.size))
    clear hb4
    go_wp2
    go_ret
    exact ⟨rfl, HB4.out⟩
  by_cases c2 : 40 < n
  · clear h hres hst HRi
    have HB0 := Lib.hid (Below.refl w.heap.size w)
    go_enter Try.func6, Try.ntmps6
    go_wp2_with fail
    refine (HL.out w HB0.out).mono ?_
    rintro e w1 ⟨v1, rfl, hv1, hb1⟩
    have HB1 := Lib.hid (HB0.out.trans (hb1.mono HB0.out.size))
    have A_1 := Lib.hid (hv1)
    clear hb1 hv1
    go_wp2_with fail
    refine (HSu.out v1 w1 A_1.out).mono ?_
    rintro e w' ⟨rfl, rfl⟩
    clear A_1
    go_wp2_with fail
    refine (HL.out w1 HB1.out).mono ?_
    rintro e w2 ⟨v2, rfl, hv2, hb2⟩
    have HB2 := Lib.hid (HB1.out.trans (hb2.mono HB1.out.size))
    have A_2 := Lib.hid (hv2)
    clear hb2 hv2
    go_wp2_with fail
    refine (HAp.out v2 w2 A_2.out).mono ?_
    rintro e w' ⟨rfl, rfl⟩
    clear A_2
    go_wp2_with fail
    refine (HL.out w2 HB2.out).mono ?_
    rintro e w3 ⟨v3, rfl, hv3, hb3⟩
    have HB3 := Lib.hid (HB2.out.trans (hb3.mono HB2.out.size))
    have A_3 := Lib.hid (hv3)
    clear hb3 hv3
    go_wp2_with fail
    refine (HSt.out v3 w3 A_3.out).mono ?_
    rintro e w' ⟨rfl, rfl⟩
    clear A_3
    go_wp2_with fail
    refine (HRR.out w3 HB3.out).mono ?_
    rintro e w' ⟨rfl, rfl⟩
    go_wp2_with fail
    refine (HAw.out w3).mono ?_
    rintro e w4 ⟨rfl, hb4⟩
    have HB4 := Lib.hid (HB3.out.trans (hb4.mono HB3.out.size))
    clear hb4
    go_wp2
    go_ret
    exact ⟨rfl, HB4.out⟩
  unfold stB at hst
  rw [show isCountB n = true from decide_eq_true (by omega), Bool.true_and] at hst
  rw [hst] at HRi
  clear h hres hst
  have HB0 := Lib.hid (Below.refl w.heap.size w)
  go_enter Try.func6, Try.ntmps6
  go_wp2_with fail
  refine (HL.out w HB0.out).mono ?_
  rintro e w1 ⟨v1, rfl, hv1, hb1⟩
  have HB1 := Lib.hid (HB0.out.trans (hb1.mono HB0.out.size))
  have A_1 := Lib.hid (hv1)
  clear hb1 hv1
  go_wp2_with fail
  refine (HSu.out v1 w1 A_1.out).mono ?_
  rintro e w' ⟨rfl, rfl⟩
  clear A_1
  go_wp2_with fail
  refine (HL.out w1 HB1.out).mono ?_
  rintro e w2 ⟨v2, rfl, hv2, hb2⟩
  have HB2 := Lib.hid (HB1.out.trans (hb2.mono HB1.out.size))
  have A_2 := Lib.hid (hv2)
  clear hb2 hv2
  go_wp2_with fail
  refine (HAp.out v2 w2 A_2.out).mono ?_
  rintro e w' ⟨rfl, rfl⟩
  clear A_2
  go_wp2_with fail
  refine (HL.out w2 HB2.out).mono ?_
  rintro e w3 ⟨v3, rfl, hv3, hb3⟩
  have HB3 := Lib.hid (HB2.out.trans (hb3.mono HB2.out.size))
  have A_3 := Lib.hid (hv3)
  clear hb3 hv3
  go_wp2_with fail
  refine (HSt.out v3 w3 A_3.out).mono ?_
  rintro e w' ⟨rfl, rfl⟩
  clear A_3
  go_wp2_with fail
  refine (HRi.out w3 HB3.out).mono ?_
  rintro e w' ⟨rfl, rfl⟩
  go_wp2_with fail
  refine (HRR.out w3 HB3.out).mono ?_
  rintro e w' ⟨rfl, rfl⟩
  go_wp2_with fail
  refine (HAw.out w3).mono ?_
  rintro e w4 ⟨rfl, hb4⟩
  have HB4 := Lib.hid (HB3.out.trans (hb4.mono HB3.out.size))
  clear hb4
  go_wp2
  go_ret
  exact ⟨rfl, HB4.out⟩

set_option maxHeartbeats 4000000 in
set_option maxRecDepth 100000 in
theorem tests_01 (m : Nat) (v : Value) (l : List Nat) (w : World) (h : Nats w v l) (hres : resB m (nats l) = false) (hst : Sts m l) :
    Calls Try.prog 6 #[.int .i64 m, v] w fun e w' => e = .returned (.bool true) ∧ Below w.heap.size w w' := by
  have hlo := hst.lo
  have hhi := hst.hi
  have HL := Lib.hid (fun w' (hb : Below w.heap.size w w') => list_any v _ w' (h.below hb (Nat.le_refl _)))
  have HRR := Lib.hid (fun w' (hb : Below w.heap.size w w') => rResidues_any (m:Int) v _ w' (h.below hb (Nat.le_refl _)))
  have HRi := Lib.hid (fun w' (hb : Below w.heap.size w w') => rRising' v _ 1 (m:Int) w' (h.below hb (Nat.le_refl _)))
  have HAw := Lib.hid (fun w => awake_any w)
  have HSu := Lib.hid (fun v' w' (h' : Ints w' v' ((nats l).take 90)) => Sums_bad (m:Int) v' _ w' h' (by rw [resB_take, hres]))
  have HAp := Lib.hid (fun v' w' (h' : Ints w' v' ((nats l).take 90)) => Apart_bad (m:Int) v' _ w' h' (by rw [resB_take, hres]))
  rw [hres] at HRR
  rw [nats_take90 (by have := hst.len; omega)] at HL HSu HAp
  have HSt := Lib.hid (fun v' w' (h' : Nats w' v' l) => Steps_any m v' l w' hst h')
  have HRS := Lib.hid (fun w' (hb : Below w.heap.size w w') => rSteps_any v l w' hst.up hst.b41 (h.below hb (Nat.le_refl _)))
  have hr := st_mk hst
  unfold stB at hr
  rw [Bool.and_eq_true] at hr
  rw [hr.2] at HRi
  clear h hres hst hr
  generalize stepsR l = q at *
  have HB0 := Lib.hid (Below.refl w.heap.size w)
  go_enter Try.func6, Try.ntmps6
  go_wp2_with fail
  refine (HL.out w HB0.out).mono ?_
  rintro e w1 ⟨v1, rfl, hv1, hb1⟩
  have HB1 := Lib.hid (HB0.out.trans (hb1.mono HB0.out.size))
  have A_1 := Lib.hid (hv1)
  clear hb1 hv1
  go_wp2_with fail
  refine (HSu.out v1 w1 A_1.out).mono ?_
  rintro e w' ⟨rfl, rfl⟩
  clear A_1
  go_wp2_with fail
  refine (HL.out w1 HB1.out).mono ?_
  rintro e w2 ⟨v2, rfl, hv2, hb2⟩
  have HB2 := Lib.hid (HB1.out.trans (hb2.mono HB1.out.size))
  have A_2 := Lib.hid (hv2)
  clear hb2 hv2
  go_wp2_with fail
  refine (HAp.out v2 w2 A_2.out).mono ?_
  rintro e w' ⟨rfl, rfl⟩
  clear A_2
  go_wp2_with fail
  refine (HL.out w2 HB2.out).mono ?_
  rintro e w3 ⟨v3, rfl, hv3, hb3⟩
  have HB3 := Lib.hid (HB2.out.trans (hb3.mono HB2.out.size))
  have A_3 := Lib.hid (hv3)
  clear hb3 hv3
  go_wp2_with fail
  refine (HSt.out v3 w3 A_3.out).mono ?_
  rintro e w4 ⟨rfl, hb4⟩
  have HB4 := Lib.hid (HB3.out.trans (hb4.mono HB3.out.size))
  have A_4 := Lib.hid (A_3.out.below hb4 (Nat.le_refl _))
  clear hb4
  clear A_4
  go_wp2_with fail
  refine (HRi.out w4 HB4.out).mono ?_
  rintro e w' ⟨rfl, rfl⟩
  go_wp2_with fail
  refine (HRS.out w4 HB4.out).mono ?_
  rintro e w' ⟨rfl, rfl⟩
  go_wp2_with fail
  refine (HRR.out w4 HB4.out).mono ?_
  rintro e w' ⟨rfl, rfl⟩
  go_wp2_with fail
  refine (HAw.out w4).mono ?_
  rintro e w5 ⟨rfl, hb5⟩
  have HB5 := Lib.hid (HB4.out.trans (hb5.mono HB4.out.size))
  clear hb5
  go_wp2
  go_ret
  exact ⟨rfl, HB5.out⟩

set_option maxHeartbeats 4000000 in
set_option maxRecDepth 100000 in
theorem tests_10 (m : Nat) (v : Value) (l : List Nat) (w : World) (h : Nats w v l) (hres : Res m l) (hst : stB m (nats l) = false) :
    Calls Try.prog 6 #[.int .i64 m, v] w fun e w' => e = .returned (.bool true) ∧ Below w.heap.size w w' := by
  have hlo := hres.lo
  have hhi := hres.hi
  have HL := Lib.hid (fun w' (hb : Below w.heap.size w w') => list_any v _ w' (h.below hb (Nat.le_refl _)))
  have HRR := Lib.hid (fun w' (hb : Below w.heap.size w w') => rResidues_any (m:Int) v _ w' (h.below hb (Nat.le_refl _)))
  have HRi := Lib.hid (fun w' (hb : Below w.heap.size w w') => rRising' v _ 1 (m:Int) w' (h.below hb (Nat.le_refl _)))
  have HAw := Lib.hid (fun w => awake_any w)
  have HSu := Lib.hid (fun v' w' (h' : Nats w' v' l) => Sums_any m v' l w' hres h')
  have HAp := Lib.hid (fun v' w' (h' : Nats w' v' l) => Apart_any m v' l w' hres h')
  rw [res_mk hres] at HRR
  have HRSu := Lib.hid (fun w' (hb : Below w.heap.size w w') => rSums_any m v l w' hres.lo hres.hi hres.b40 (by have := hres.len; omega) (h.below hb (Nat.le_refl _)))
  have HRAp := Lib.hid (fun w' (hb : Below w.heap.size w w') => rApart_any m v l w' hres.lo hres.hi hres.b40 (by have := hres.len; omega) (h.below hb (Nat.le_refl _)))
  have HSt := Lib.hid (fun v' w' (h' : Ints w' v' ((nats l).take 90)) => Steps_bad (m:Int) v' _ w' h' (by rw [stB_take, hst]))
  rw [nats_take90 (by have := hres.len; omega)] at HL HSt
  unfold stB at hst
  rw [show isCountB (m:Int) = true from decide_eq_true (by omega), Bool.true_and] at hst
  rw [hst] at HRi
  clear h hres hst
  generalize sumsB m l = q at *
  generalize apartB m l = p at *
  have HB0 := Lib.hid (Below.refl w.heap.size w)
  go_enter Try.func6, Try.ntmps6
  go_wp2_with fail
  refine (HL.out w HB0.out).mono ?_
  rintro e w1 ⟨v1, rfl, hv1, hb1⟩
  have HB1 := Lib.hid (HB0.out.trans (hb1.mono HB0.out.size))
  have A_1 := Lib.hid (hv1)
  clear hb1 hv1
  go_wp2_with fail
  refine (HSu.out v1 w1 A_1.out).mono ?_
  rintro e w2 ⟨rfl, hb2⟩
  have HB2 := Lib.hid (HB1.out.trans (hb2.mono HB1.out.size))
  have A_2 := Lib.hid (A_1.out.below hb2 (Nat.le_refl _))
  clear hb2
  clear A_2
  go_wp2_with fail
  refine (HL.out w2 HB2.out).mono ?_
  rintro e w3 ⟨v3, rfl, hv3, hb3⟩
  have HB3 := Lib.hid (HB2.out.trans (hb3.mono HB2.out.size))
  have A_3 := Lib.hid (hv3)
  clear hb3 hv3
  go_wp2_with fail
  refine (HAp.out v3 w3 A_3.out).mono ?_
  rintro e w4 ⟨rfl, hb4⟩
  have HB4 := Lib.hid (HB3.out.trans (hb4.mono HB3.out.size))
  have A_4 := Lib.hid (A_3.out.below hb4 (Nat.le_refl _))
  clear hb4
  clear A_4
  go_wp2_with fail
  refine (HL.out w4 HB4.out).mono ?_
  rintro e w5 ⟨v5, rfl, hv5, hb5⟩
  have HB5 := Lib.hid (HB4.out.trans (hb5.mono HB4.out.size))
  have A_5 := Lib.hid (hv5)
  clear hb5 hv5
  go_wp2_with fail
  refine (HSt.out v5 w5 A_5.out).mono ?_
  rintro e w' ⟨rfl, rfl⟩
  clear A_5
  go_wp2_with fail
  refine (HRi.out w5 HB5.out).mono ?_
  rintro e w' ⟨rfl, rfl⟩
  go_wp2_with fail
  refine (HRR.out w5 HB5.out).mono ?_
  rintro e w' ⟨rfl, rfl⟩
  go_wp2_with fail
  refine (HRSu.out w5 HB5.out).mono ?_
  rintro e w6 ⟨rfl, hb6⟩
  have HB6 := Lib.hid (HB5.out.trans (hb6.mono HB5.out.size))
  clear hb6
  go_wp2_with fail
  refine (HRAp.out w6 HB6.out).mono ?_
  rintro e w' ⟨rfl, rfl⟩
  go_wp2_with fail
  refine (HAw.out w6).mono ?_
  rintro e w7 ⟨rfl, hb7⟩
  have HB7 := Lib.hid (HB6.out.trans (hb7.mono HB6.out.size))
  clear hb7
  go_wp2
  go_ret
  exact ⟨rfl, HB7.out⟩

set_option maxHeartbeats 4000000 in
set_option maxRecDepth 100000 in
theorem tests_11 (m : Nat) (v : Value) (l : List Nat) (w : World) (h : Nats w v l) (hres : Res m l) (hst : Sts m l) :
    Calls Try.prog 6 #[.int .i64 m, v] w fun e w' => e = .returned (.bool true) ∧ Below w.heap.size w w' := by
  have hlo := hres.lo
  have hhi := hres.hi
  have HL := Lib.hid (fun w' (hb : Below w.heap.size w w') => list_any v _ w' (h.below hb (Nat.le_refl _)))
  have HRR := Lib.hid (fun w' (hb : Below w.heap.size w w') => rResidues_any (m:Int) v _ w' (h.below hb (Nat.le_refl _)))
  have HRi := Lib.hid (fun w' (hb : Below w.heap.size w w') => rRising' v _ 1 (m:Int) w' (h.below hb (Nat.le_refl _)))
  have HAw := Lib.hid (fun w => awake_any w)
  have HSu := Lib.hid (fun v' w' (h' : Nats w' v' l) => Sums_any m v' l w' hres h')
  have HAp := Lib.hid (fun v' w' (h' : Nats w' v' l) => Apart_any m v' l w' hres h')
  rw [res_mk hres] at HRR
  have HRSu := Lib.hid (fun w' (hb : Below w.heap.size w w') => rSums_any m v l w' hres.lo hres.hi hres.b40 (by have := hres.len; omega) (h.below hb (Nat.le_refl _)))
  have HRAp := Lib.hid (fun w' (hb : Below w.heap.size w w') => rApart_any m v l w' hres.lo hres.hi hres.b40 (by have := hres.len; omega) (h.below hb (Nat.le_refl _)))
  rw [nats_take90 (by have := hres.len; omega)] at HL
  have HSt := Lib.hid (fun v' w' (h' : Nats w' v' l) => Steps_any m v' l w' hst h')
  have HRS := Lib.hid (fun w' (hb : Below w.heap.size w w') => rSteps_any v l w' hst.up hst.b41 (h.below hb (Nat.le_refl _)))
  have hr := st_mk hst
  unfold stB at hr
  rw [Bool.and_eq_true] at hr
  rw [hr.2] at HRi
  clear h hres hst hr
  generalize sumsB m l = q at *
  generalize apartB m l = p at *
  generalize stepsR l = r at *
  have HB0 := Lib.hid (Below.refl w.heap.size w)
  go_enter Try.func6, Try.ntmps6
  go_wp2_with fail
  refine (HL.out w HB0.out).mono ?_
  rintro e w1 ⟨v1, rfl, hv1, hb1⟩
  have HB1 := Lib.hid (HB0.out.trans (hb1.mono HB0.out.size))
  have A_1 := Lib.hid (hv1)
  clear hb1 hv1
  go_wp2_with fail
  refine (HSu.out v1 w1 A_1.out).mono ?_
  rintro e w2 ⟨rfl, hb2⟩
  have HB2 := Lib.hid (HB1.out.trans (hb2.mono HB1.out.size))
  have A_2 := Lib.hid (A_1.out.below hb2 (Nat.le_refl _))
  clear hb2
  clear A_2
  go_wp2_with fail
  refine (HL.out w2 HB2.out).mono ?_
  rintro e w3 ⟨v3, rfl, hv3, hb3⟩
  have HB3 := Lib.hid (HB2.out.trans (hb3.mono HB2.out.size))
  have A_3 := Lib.hid (hv3)
  clear hb3 hv3
  go_wp2_with fail
  refine (HAp.out v3 w3 A_3.out).mono ?_
  rintro e w4 ⟨rfl, hb4⟩
  have HB4 := Lib.hid (HB3.out.trans (hb4.mono HB3.out.size))
  have A_4 := Lib.hid (A_3.out.below hb4 (Nat.le_refl _))
  clear hb4
  clear A_4
  go_wp2_with fail
  refine (HL.out w4 HB4.out).mono ?_
  rintro e w5 ⟨v5, rfl, hv5, hb5⟩
  have HB5 := Lib.hid (HB4.out.trans (hb5.mono HB4.out.size))
  have A_5 := Lib.hid (hv5)
  clear hb5 hv5
  go_wp2_with fail
  refine (HSt.out v5 w5 A_5.out).mono ?_
  rintro e w6 ⟨rfl, hb6⟩
  have HB6 := Lib.hid (HB5.out.trans (hb6.mono HB5.out.size))
  have A_6 := Lib.hid (A_5.out.below hb6 (Nat.le_refl _))
  clear hb6
  clear A_6
  go_wp2_with fail
  refine (HRi.out w6 HB6.out).mono ?_
  rintro e w' ⟨rfl, rfl⟩
  go_wp2_with fail
  refine (HRS.out w6 HB6.out).mono ?_
  rintro e w' ⟨rfl, rfl⟩
  go_wp2_with fail
  refine (HRR.out w6 HB6.out).mono ?_
  rintro e w' ⟨rfl, rfl⟩
  go_wp2_with fail
  refine (HRSu.out w6 HB6.out).mono ?_
  rintro e w7 ⟨rfl, hb7⟩
  have HB7 := Lib.hid (HB6.out.trans (hb7.mono HB6.out.size))
  clear hb7
  go_wp2_with fail
  refine (HRAp.out w7 HB7.out).mono ?_
  rintro e w' ⟨rfl, rfl⟩
  go_wp2_with fail
  refine (HAw.out w7).mono ?_
  rintro e w8 ⟨rfl, hb8⟩
  have HB8 := Lib.hid (HB7.out.trans (hb8.mono HB7.out.size))
  clear hb8
  go_wp2
  go_ret
  exact ⟨rfl, HB8.out⟩

theorem capsTests_law (n : Int) (v : Value) (xs : List Int) (w : World) (h : Ints w v xs) :
    Calls Try.prog 6 #[.int .i64 n, v] w fun e w' => e = .returned (.bool true) ∧ Below w.heap.size w w' := by
  cases hres : resB n xs with
  | false =>
    cases hst : stB n xs with
    | false => exact tests_00 n v xs w h hres hst
    | true =>
      obtain ⟨m, l, rfl, rfl, hs⟩ := st_nats hst
      exact tests_01 m v l w h hres hs
  | true =>
    obtain ⟨m, l, rfl, rfl, hr⟩ := res_nats hres
    cases hst : stB m (nats l) with
    | false => exact tests_10 m v l w h hr hst
    | true =>
      obtain ⟨m', l', hm, hl, hs⟩ := st_nats hst
      obtain rfl : m = m' := by omega
      obtain rfl := nats_inj hl
      exact tests_11 m v l w h hr hs
end Go.Proofs.Ytlalfjkenkmojaa
