/- SchemesReads: the walk -/
import Derived.Test.YtdnhfnegnjdeoaaDoorRr
namespace Go.Proofs.YtdnhfnegnjdeoaaDoor
open Go.RowKit

theorem readV_form (n : Nat) (p : Option (Nat × Nat × Nat)) : ∃ a b c d e : Int, readV n p = .tuple #[.agg #[.int .i64 a, .int .i64 b, .int .i64 c, .int .i64 d], .int .i64 e] := by
  rcases p with _ | ⟨K, L, M⟩
  · exact ⟨0, 0, 0, 0, 4, rfl⟩
  · exact ⟨n, K, L, M, 0, rfl⟩
/-- A slice that reads as numbers, shut. -/
structure NatsS (w : World) (v : Value) (bs : List Nat) : Prop where
  out : Nats w v bs
theorem eqB_refl (xs : List Int) : eqB xs xs = true := decide_eq_true rfl
theorem Gr.take {n : Nat} {bs : List Nat} (h : Gr n bs) : (nats bs).take 20 = nats bs := List.take_of_length_le (by rw [nats_length, h.len]; have := h.le; omega)
theorem own_agg (a b c d : Int) (w : World) : Calls Tryd.prog 21 #[.agg #[.int .i64 a, .int .i64 b, .int .i64 c, .int .i64 d]] w fun e w' => e = .returned (.agg #[.int .i64 a, .int .i64 b, .int .i64 c, .int .i64 d]) ∧ Below w.heap.size w w' := own_any a b c d w

set_option maxHeartbeats 4000000 in
set_option maxRecDepth 100000 in
theorem reads_bad (v : Value) (xs : List Int) (w : World) (h : Ints w v xs) (hT : Tab w) (hs : graphB xs = false) :
    Calls Tryd.prog 3 #[v] w fun e w' => e = .returned (.bool true) ∧ Below w.heap.size w w' := by
  have HL := Lib.hid (fun w' (hb : Below w.heap.size w w') => list_any v xs w' (h.below hb (Nat.le_refl _)))
  have HT := Lib.hid (fun w' (hb : Below w.heap.size w w') => tab_below hT hb)
  have HM := Lib.hid (fun w' (hb : Below w.heap.size w w') => Graph_any v xs w' (h.below hb (Nat.le_refl _)))
  have ht : graphB (xs.take 20) = false := by rw [graphB_take, hs]
  have HR := Lib.hid (fun v' w' (h' : Ints w' v' (xs.take 20)) (hT : Tab w') => Read_bad v' _ w' h' ht hT)
  have HO := Lib.hid (fun v' w' (h' : Ints w' v' (xs.take 20)) (hT : Tab w') => Other_bad v' _ w' h' ht hT)
  have HAw := Lib.hid (fun w' (hT : Tab w') => awake_any w' hT)
  have HOwn := Lib.hid (fun w' => own_agg 0 0 0 0 w')
  rw [hs] at HM
  unfold num4 at HR
  clear hs h hT ht
  have HB0 := Lib.hid (Below.refl w.heap.size w)
  go_enter Tryd.func3, Tryd.ntmps3
  go_wp2_with fail
  refine (HL.out w HB0.out).mono ?_
  rintro e w1 ⟨v1, rfl, hv1, hb1⟩
  have HB1 := Lib.hid (HB0.out.trans (hb1.mono HB0.out.size))
  clear hb1
  go_wp2_with fail
  refine (HR.out v1 w1 hv1 (HT.out _ HB1.out)).mono ?_
  rintro e w2 ⟨rfl, hb2⟩
  have hbb := HB1.out.trans (hb2.mono HB1.out.size)
  have HB2 := Lib.hid (hbb.alloc hbb.size (.cells #[.int .i64 0, .int .i64 0, .int .i64 0, .int .i64 0] 24))
  have HQ2 := Lib.hid (Q4.new w2 24 0 0 0 0)
  clear hb2 hbb hv1
  go_wp2_with fail
  refine (HL.out _ HB2.out).mono ?_
  rintro e w3 ⟨v3, rfl, hv3, hb3⟩
  have HB3 := Lib.hid (HB2.out.trans (hb3.mono HB2.out.size))
  have HQ3 := Lib.hid (HQ2.out.below hb3)
  clear hb3
  go_wp2_with fail
  refine (HO.out v3 w3 hv3 (HT.out _ HB3.out)).mono ?_
  rintro e w4 ⟨rfl, hb4⟩
  have HB4 := Lib.hid (HB3.out.trans (hb4.mono HB3.out.size))
  have HQ4 := Lib.hid (HQ3.out.below hb4)
  clear hb4 hv3
  go_wp2_with fail
  refine (HM.out _ HB4.out).mono ?_
  rintro e w5 ⟨rfl, hb5⟩
  have HB5 := Lib.hid (HB4.out.trans (hb5.mono HB4.out.size))
  have hQ5 := HQ4.out.below hb5
  have q0 := hQ5.c0
  have q1 := hQ5.c1
  have q2 := hQ5.c2
  have q3 := hQ5.c3
  clear hb5 hQ5
  go_wp2_with fail
  refine (HOwn.out _).mono ?_
  rintro e w6 ⟨rfl, hb6⟩
  have HB6 := Lib.hid (HB5.out.trans (hb6.mono HB5.out.size))
  clear hb6 q0 q1 q2 q3
  go_wp2_with fail
  refine (HAw.out _ (HT.out _ HB6.out)).mono ?_
  rintro e w7 ⟨rfl, hb7⟩
  have HB7 := Lib.hid (HB6.out.trans (hb7.mono HB6.out.size))
  clear hb7
  go_wp2
  go_ret
  exact ⟨rfl, HB7.out⟩

set_option maxHeartbeats 4000000 in
set_option maxRecDepth 100000 in
theorem reads_good (v : Value) (bs : List Nat) (n : Nat) (w : World) (hg : Gr n bs) (h : Nats w v bs) (hT : Tab w) :
    Calls Tryd.prog 3 #[v] w fun e w' => e = .returned (.bool true) ∧ Below w.heap.size w w' := by
  have HL := Lib.hid (fun w' (hb : Below w.heap.size w w') => list_any v (nats bs) w' (h.below hb (Nat.le_refl _)))
  rw [hg.take] at HL
  have HT := Lib.hid (fun w' (hb : Below w.heap.size w w') => tab_below hT hb)
  have HM := Lib.hid (fun w' (hb : Below w.heap.size w w') => Graph_any v (nats bs) w' (h.below hb (Nat.le_refl _)))
  rw [graphB_mk hg] at HM
  obtain ⟨a, b, c, d, f, hv⟩ := readV_form n (readP n bs)
  have HR := Lib.hid (fun v' w' (h' : Nats w' v' bs) (hT : Tab w') => Read_any v' bs n w' hg h' hT)
  rw [hv] at HR
  have HRR := Lib.hid (fun w' (hb : Below w.heap.size w w') => rRead_any v bs n w' hg (h.below hb (Nat.le_refl _)))
  rw [hv] at HRR
  have HO := Lib.hid (fun v' w' (h' : Nats w' v' bs) (hT : Tab w') => Other_any v' bs n w' hg h' hT)
  have HRO := Lib.hid (fun w' (hb : Below w.heap.size w w') => rOther_any v bs n w' hg (h.below hb (Nat.le_refl _)))
  have HEq := Lib.hid (fun y z w' (h1 : Nats w' y (oth n bs)) (h2 : Nats w' z (oth n bs)) => equal_any y z _ _ w' h1 h2)
  rw [eqB_refl] at HEq
  have HAw := Lib.hid (fun w' (hT : Tab w') => awake_any w' hT)
  have HOwn := Lib.hid (fun w' => own_agg a b c d w')
  obtain ⟨ao, cap, rfl, _, _⟩ := hg.open h
  clear hg h hT hv
  have HB0 := Lib.hid (Below.refl w.heap.size w)
  go_enter Tryd.func3, Tryd.ntmps3
  go_wp2_with fail
  refine (HL.out w HB0.out).mono ?_
  rintro e w1 ⟨v1, rfl, hv1, hb1⟩
  have HB1 := Lib.hid (HB0.out.trans (hb1.mono HB0.out.size))
  clear hb1
  go_wp2_with fail
  refine (HR.out v1 w1 hv1 (HT.out _ HB1.out)).mono ?_
  rintro e w2 ⟨rfl, hb2⟩
  have hbb := HB1.out.trans (hb2.mono HB1.out.size)
  have HB2 := Lib.hid (hbb.alloc hbb.size (.cells #[.int .i64 a, .int .i64 b, .int .i64 c, .int .i64 d] 24))
  have HQ2 := Lib.hid (Q4.new w2 24 a b c d)
  clear hb2 hbb hv1
  go_wp2_with fail
  refine (HL.out _ HB2.out).mono ?_
  rintro e w3 ⟨v3, rfl, hv3, hb3⟩
  have HB3 := Lib.hid (HB2.out.trans (hb3.mono HB2.out.size))
  have HQ3 := Lib.hid (HQ2.out.below hb3)
  clear hb3
  go_wp2_with fail
  refine (HO.out v3 w3 hv3 (HT.out _ HB3.out)).mono ?_
  rintro e w4 ⟨v4, rfl, hv4, hb4⟩
  have HB4 := Lib.hid (HB3.out.trans (hb4.mono HB3.out.size))
  have HQ4 := Lib.hid (HQ3.out.below hb4)
  have HV4 := Lib.hid hv4
  clear hb4 hv3 hv4
  go_wp2_with fail
  refine (HM.out _ HB4.out).mono ?_
  rintro e w5 ⟨rfl, hb5⟩
  have HB5 := Lib.hid (HB4.out.trans (hb5.mono HB4.out.size))
  have HQ5 := Lib.hid (HQ4.out.below hb5)
  have HV5 := Lib.hid (HV4.out.below hb5 (Nat.le_refl _))
  clear hb5
  go_wp2_with fail
  refine (HRR.out _ HB5.out).mono ?_
  rintro e w6 ⟨rfl, hb6⟩
  have hbb := HB5.out.trans (hb6.mono HB5.out.size)
  have hba := (Below.refl w6.heap.size w6).alloc (Nat.le_refl _) (.cells #[.int .i64 a, .int .i64 b, .int .i64 c, .int .i64 d] 32)
  have HB6 := Lib.hid (hbb.trans (hba.mono hbb.size))
  have HQ6 := Lib.hid ((HQ5.out.below hb6).below hba)
  have HV6 := Lib.hid ((HV5.out.below hb6 (Nat.le_refl _)).below hba (Nat.le_refl _))
  have HY6 := Lib.hid (Q4.new w6 32 a b c d)
  clear hb6 hbb hba
  go_wp2_with fail
  generalize w6.alloc (.cells #[.int .i64 a, .int .i64 b, .int .i64 c, .int .i64 d] 32) = W at *
  have x0 := HQ6.out.c0
  have x1 := HQ6.out.c1
  have x2 := HQ6.out.c2
  have x3 := HQ6.out.c3
  have y0 := HY6.out.c0
  have y1 := HY6.out.c1
  have y2 := HY6.out.c2
  have y3 := HY6.out.c3
  have HVd : NatsS W.drew v4 (oth n bs) := ⟨HV6.out.below (Below.refl W.heap.size W).drew (Nat.le_refl _)⟩
  have HBW := Lib.hid (fun w' (hb : Below W.heap.size W w') => HB6.out.trans (hb.mono HB6.out.size))
  clear HQ6 HY6 HV6 HR HO HL HM HRR HB1 HB2 HB3 HB4 HB5 HQ2 HQ3 HQ4 HQ5 HV4 HV5
  go_region_held3 (fun w' => w'.cell? ⟨w2.heap.size, 0, none⟩ = some (.int .i64 a) ∧ w'.cell? ⟨w2.heap.size, 1, none⟩ = some (.int .i64 b) ∧ w'.cell? ⟨w2.heap.size, 2, none⟩ = some (.int .i64 c) ∧ w'.cell? ⟨w2.heap.size, 3, none⟩ = some (.int .i64 d) ∧
      w'.cell? ⟨w6.heap.size, 0, none⟩ = some (.int .i64 a) ∧ w'.cell? ⟨w6.heap.size, 1, none⟩ = some (.int .i64 b) ∧ w'.cell? ⟨w6.heap.size, 2, none⟩ = some (.int .i64 c) ∧ w'.cell? ⟨w6.heap.size, 3, none⟩ = some (.int .i64 d) ∧ NatsS w' v4 (oth n bs) ∧ Below W.heap.size W w')
    (first | exact ⟨x0, x1, x2, x3, y0, y1, y2, y3, HVd, (Below.refl _ _).drew⟩ | (obtain ⟨k0, k1, k2, k3, k4, k5, k6, k7, k8, kb⟩ := ‹_ ∧ _›; exact ⟨ck k0 hbx, ck k1 hbx, ck k2 hbx, ck k3 hbx, ck k4 hbx, ck k5 hbx, ck k6 hbx, ck k7 hbx, ⟨k8.out.below hbx (Nat.le_refl _)⟩, kb.trans (hbx.mono kb.size)⟩))
    (first | (go_at_call 21; refine (HOwn.out _).mono ?_; rintro e w' ⟨rfl, hbx⟩) | (go_at_call 25; refine (HRO.out _ (HBW.out _ (by obtain ⟨_, _, _, _, _, _, _, _, _, kb⟩ := ‹_ ∧ _›; exact kb))).mono ?_; rintro e w' ⟨vv, rfl, hv0, hbx⟩; have hvv : NatsS w' vv (oth n bs) := ⟨hv0⟩; clear hv0) | (go_at_call 24; refine (HEq.out _ _ _ (by obtain ⟨_, _, _, _, _, _, _, _, k8, _⟩ := ‹_ ∧ _›; exact k8.out) hvv.out).mono ?_; rintro e w' ⟨rfl, hbx⟩) | (go_at_call 22; refine (HAw.out _ (HT.out _ (HBW.out _ (by obtain ⟨_, _, _, _, _, _, _, _, _, kb⟩ := ‹_ ∧ _›; exact kb)))).mono ?_; rintro e w' ⟨rfl, hbx⟩))
  go_wp2
  go_ret
  obtain ⟨_, _, _, _, _, _, _, _, _, kb⟩ := ‹_ ∧ _›
  exact ⟨rfl, HBW.out _ kb⟩

theorem schemesReads_law (v : Value) (xs : List Int) (w : World) (h : Ints w v xs) (hT : Tab w) :
    Calls Tryd.prog 3 #[v] w fun e w' => e = .returned (.bool true) ∧ Below w.heap.size w w' := by
  cases hs : graphB xs with
  | false => exact reads_bad v xs w h hT hs
  | true =>
    obtain ⟨bs, rfl, hg⟩ := graphB_of hs
    exact reads_good v bs _ w hg h hT
end Go.Proofs.YtdnhfnegnjdeoaaDoor
