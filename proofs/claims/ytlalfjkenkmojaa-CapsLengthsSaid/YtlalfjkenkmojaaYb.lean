/- CapsLengths: no ruler, or bad numbers; Short -/
import Derived.Test.YtlalfjkenkmojaaLc
namespace Go.Proofs.Ytlalfjkenkmojaa
open Go.RowKit
set_option maxHeartbeats 4000000 in
set_option maxRecDepth 100000 in
theorem len_bad1 (v : Value) (xs : List Int) (w : World) (h : Ints w v xs) (hr : rulV xs = false) (k : Nat) (h1 : 1 ≤ k) (h7 : k ≤ 7) :
    Calls Try.prog 16 #[v, .int .i64 k] w fun e w' => e = .returned (.bool true) ∧ Below w.heap.size w w' := by
  have HL := Lib.hid (fun w' (hb : Below w.heap.size w w') => list_any v _ w' (h.below hb (Nat.le_refl _)))
  have HAw := Lib.hid (fun w => awake_any w)
  have HRu := Lib.hid (fun v' w' (h' : Ints w' v' (xs.take 90)) => Ruler_bad v' _ w' h' (by rw [rulV_take, hr]))
  obtain ⟨ao, cap, rfl, hc1, hc2, hx⟩ := h.open
  clear hr h hx
  have HSh := Lib.hid (fun w => Short_len k w h1 h7)
  have hix := fun w => idx8 k (by omega) w
  obtain ⟨g, hg⟩ : ∃ g, g = golN k := ⟨_, rfl⟩
  obtain ⟨j, hj⟩ : ∃ j, j = k - 1 := ⟨_, rfl⟩
  have hjk : j < k := by omega
  have fk1 : decide ((k:Int) < 1) = false := decide_eq_false (by omega)
  have fk2 : decide (k < 1) = false := decide_eq_false (by omega)
  have fk3 : decide ((7:Int) < k) = false := decide_eq_false (by omega)
  have fk4 : decide (7 < k) = false := decide_eq_false (by omega)
  have fk5 : ((k:Int) == 0) = false := beq_eq_false_iff_ne.2 (by omega)
  have hwj : IntKind.i64.wrap ((k:Int) - 1) = (j:Int) := wr64 (by omega) (by omega)
  rw [← hg, ← hj] at HSh
  rw [← hg] at hix
  have hg25 : g ≤ 25 := by
    rw [hg]
    rcases (show k = 1 ∨ k = 2 ∨ k = 3 ∨ k = 4 ∨ k = 5 ∨ k = 6 ∨ k = 7 by omega) with rfl | rfl | rfl | rfl | rfl | rfl | rfl <;> decide
  clear hg hj
  have HB0 := Lib.hid (Below.refl w.heap.size w)
  go_enter Try.func16, Try.ntmps16
  go_wp2_with fail
  refine (HSh.out w).mono ?_
  rintro e w1 ⟨v1, r, rfl, hv1, hrl, hrg, hrr, hr60, hb1⟩
  have HRr := Lib.hid (fun w' h' => hrr ▸ Ruler_any v1 r w' (by omega) (by omega) hr60 h')
  have HV1 := Lib.hid hv1
  obtain ⟨ar, cr, rfl, hr1, hr2, hrx⟩ := hv1.open
  obtain ⟨br, off, rfl, hrc⟩ := hrx j (by omega)
  rw [hrg] at hrc
  rw [hrl] at HRr HV1 hr1 ⊢
  clear hrl hrg hrr hr60 hrx
  have HB1 := Lib.hid (HB0.out.trans (hb1.mono HB0.out.size))
  clear hb1 HSh
  go_wp2_with fail
  go_quiet (fail)
  go_wp2_with fail
  refine (HRr.out _ (Ints.below (show Ints w1 _ (nats r) from HV1.out) (below_drewN (Below.refl _ _) _) (Nat.le_refl _))).mono ?_
  rintro e w2 ⟨rfl, hb2⟩
  have HB2 := Lib.hid ((below_drewN HB1.out _).trans (hb2.mono (below_drewN HB1.out _).size))
  clear hb2 HRr HV1 hrc hix
  go_wp2_with fail
  refine (HL.out w2 HB2.out).mono ?_
  rintro e w3 ⟨v3, rfl, hv3, hb3⟩
  have HB3 := Lib.hid (HB2.out.trans (hb3.mono HB2.out.size))
  have HV3 := Lib.hid hv3
  clear hb3 hv3
  go_wp2_with fail
  refine (HRu.out v3 w3 HV3.out).mono ?_
  rintro e w' ⟨rfl, rfl⟩
  clear HV3 HRu
  go_wp2_with fail
  refine (HAw.out _).mono ?_
  rintro e w4 ⟨rfl, hb4⟩
  have HB4 := Lib.hid (HB3.out.trans (hb4.mono HB3.out.size))
  clear hb4
  go_wp2
  go_ret
  exact ⟨rfl, HB4.out⟩
set_option maxHeartbeats 4000000 in
set_option maxRecDepth 100000 in
theorem len_no1 (v : Value) (l : List Nat) (w : World) (h : Nats w v l) (hl1 : 1 ≤ l.length) (hl10 : l.length ≤ 10) (hlb : ∀ y ∈ l, y ≤ 60) (hr : rulB l = false) (k : Nat) (h1 : 1 ≤ k) (h7 : k ≤ 7) :
    Calls Try.prog 16 #[v, .int .i64 k] w fun e w' => e = .returned (.bool true) ∧ Below w.heap.size w w' := by
  have HL := Lib.hid (show ∀ w', Below w.heap.size w w' → Calls Try.prog 20 #[v] w' fun e w'' => ∃ v', e = .returned v' ∧ Nats w'' v' l ∧ Below w'.heap.size w' w'' from fun w' hb => by
    have hh := list_any v _ w' (Ints.below (show Ints w v (nats l) from h) hb (Nat.le_refl _))
    rw [List.take_of_length_le (by rw [nats_length]; omega)] at hh
    exact hh)
  have HAw := Lib.hid (fun w => awake_any w)
  have HRu := Lib.hid (fun v' w' (h' : Nats w' v' l) => hr ▸ Ruler_any v' l w' hl1 hl10 hlb h')
  obtain ⟨ao, cap, rfl, hc1, hc2, hx⟩ := Nats.open h
  clear hr h hx hlb
  generalize l.length = n at *
  have fn0 : ((n:Int) == 0) = false := beq_eq_false_iff_ne.2 (by omega)
  have fn1 : ¬ n = 0 := by omega
  have fn2 : ¬ (n:Int) = 0 := by omega
  have HSh := Lib.hid (fun w => Short_len k w h1 h7)
  have hix := fun w => idx8 k (by omega) w
  obtain ⟨g, hg⟩ : ∃ g, g = golN k := ⟨_, rfl⟩
  obtain ⟨j, hj⟩ : ∃ j, j = k - 1 := ⟨_, rfl⟩
  have hjk : j < k := by omega
  have fk1 : decide ((k:Int) < 1) = false := decide_eq_false (by omega)
  have fk2 : decide (k < 1) = false := decide_eq_false (by omega)
  have fk3 : decide ((7:Int) < k) = false := decide_eq_false (by omega)
  have fk4 : decide (7 < k) = false := decide_eq_false (by omega)
  have fk5 : ((k:Int) == 0) = false := beq_eq_false_iff_ne.2 (by omega)
  have hwj : IntKind.i64.wrap ((k:Int) - 1) = (j:Int) := wr64 (by omega) (by omega)
  rw [← hg, ← hj] at HSh
  rw [← hg] at hix
  have hg25 : g ≤ 25 := by
    rw [hg]
    rcases (show k = 1 ∨ k = 2 ∨ k = 3 ∨ k = 4 ∨ k = 5 ∨ k = 6 ∨ k = 7 by omega) with rfl | rfl | rfl | rfl | rfl | rfl | rfl <;> decide
  clear hg hj
  have HB0 := Lib.hid (Below.refl w.heap.size w)
  go_enter Try.func16, Try.ntmps16
  go_wp2_with fail
  refine (HSh.out w).mono ?_
  rintro e w1 ⟨v1, r, rfl, hv1, hrl, hrg, hrr, hr60, hb1⟩
  have HRr := Lib.hid (fun w' h' => hrr ▸ Ruler_any v1 r w' (by omega) (by omega) hr60 h')
  have HV1 := Lib.hid hv1
  obtain ⟨ar, cr, rfl, hr1, hr2, hrx⟩ := hv1.open
  obtain ⟨br, off, rfl, hrc⟩ := hrx j (by omega)
  rw [hrg] at hrc
  rw [hrl] at HRr HV1 hr1 ⊢
  clear hrl hrg hrr hr60 hrx
  have HB1 := Lib.hid (HB0.out.trans (hb1.mono HB0.out.size))
  clear hb1 HSh
  go_wp2_with fail
  go_quiet (fail)
  go_wp2_with fail
  refine (HRr.out _ (Ints.below (show Ints w1 _ (nats r) from HV1.out) (below_drewN (Below.refl _ _) _) (Nat.le_refl _))).mono ?_
  rintro e w2 ⟨rfl, hb2⟩
  have HB2 := Lib.hid ((below_drewN HB1.out _).trans (hb2.mono (below_drewN HB1.out _).size))
  clear hb2 HRr HV1 hrc hix
  go_wp2_with fail
  refine (HL.out w2 HB2.out).mono ?_
  rintro e w3 ⟨v3, rfl, hv3, hb3⟩
  have HB3 := Lib.hid (HB2.out.trans (hb3.mono HB2.out.size))
  have HV3 := Lib.hid hv3
  clear hb3 hv3
  go_wp2_with fail
  refine (HRu.out v3 w3 HV3.out).mono ?_
  rintro e w4 ⟨rfl, hb4⟩
  have HB4 := Lib.hid (HB3.out.trans (hb4.mono HB3.out.size))
  clear HV3 HRu hb4
  go_wp2_with fail
  refine (HAw.out _).mono ?_
  rintro e w5 ⟨rfl, hb5⟩
  have HB5 := Lib.hid (HB4.out.trans (hb5.mono HB4.out.size))
  clear hb5
  go_wp2
  go_ret
  exact ⟨rfl, HB5.out⟩
end Go.Proofs.Ytlalfjkenkmojaa
