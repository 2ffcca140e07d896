/- SchemesTwice: no graph first -/
import Derived.Test.YtdnhfnegnjdeoaaDoorFt
namespace Go.Proofs.YtdnhfnegnjdeoaaDoor
open Go.RowKit

set_option maxHeartbeats 4000000 in
set_option maxRecDepth 100000 in
theorem twice_none (v u : Value) (xs ys : List Int) (s : Int) (w : World) (h : Ints w v xs) (h' : Ints w u ys) (hT : Tab w) (hs : graphB xs = false) :
    Calls Tryd.prog 13 #[v, u, .int .i64 s] w fun e w' => e = .returned (.bool true) ∧ Below w.heap.size w w' := by
  have HL := Lib.hid (fun w' (hb : Below w.heap.size w w') => list_any v _ w' (h.below hb (Nat.le_refl _)))
  have HK := Lib.hid (fun w' (hb : Below w.heap.size w w') => list_any u _ w' (h'.below hb (Nat.le_refl _)))
  have HAw := Lib.hid (fun w' (hb : Below w.heap.size w w') => awake_any w' (tab_below hT hb))
  have ht : graphB (xs.take 20) = false := by rw [graphB_take, hs]
  have HSwB := Lib.hid (fun v' w' (h' : Ints w' v' (xs.take 20)) (hb : Below w.heap.size w w') => Switch_bad v' _ s w' h' (.inl ht) (tab_below hT hb))
  have HSm := Lib.hid (fun v' u' w' (h1 : Ints w' v' (xs.take 20)) (h2 : Ints w' u' (ys.take 20)) (hb : Below w.heap.size w w') => Same_bad v' u' _ _ w' h1 h2 (.inl ht) (tab_below hT hb))
  clear h h' hT hs ht
  have HB0 := Lib.hid (Below.refl w.heap.size w)
  go_enter Tryd.func13, Tryd.ntmps13
  go_wp2_with fail
  refine (HL.out w HB0.out).mono ?_
  rintro e w1 ⟨v1, rfl, hv1, hb1⟩
  have HB1 := Lib.hid (HB0.out.trans (hb1.mono HB0.out.size))
  have A_1 := Lib.hid (hv1)
  clear hb1 hv1
  go_wp2_with fail
  refine (HSwB.out v1 w1 A_1.out HB1.out).mono ?_
  rintro e w2 ⟨rfl, hb2⟩
  have HB2 := Lib.hid (HB1.out.trans (hb2.mono HB1.out.size))
  have A_2 := Lib.hid (A_1.out.below hb2 (Nat.le_refl _))
  clear hb2
  clear A_2
  go_wp2_with fail
  refine (HL.out w2 HB2.out).mono ?_
  rintro e w3 ⟨v3, rfl, hv3, hb3⟩
  have HB3 := Lib.hid (HB2.out.trans (hb3.mono HB2.out.size))
  have A_3 := Lib.hid (hv3)
  clear hb3 hv3
  go_wp2_with fail
  refine (HK.out w3 HB3.out).mono ?_
  rintro e w4 ⟨v4, rfl, hv4, hb4⟩
  have HB4 := Lib.hid (HB3.out.trans (hb4.mono HB3.out.size))
  have A_4 := Lib.hid (A_3.out.below hb4 (Nat.le_refl _))
  have B_4 := Lib.hid (hv4)
  clear hb4 hv4
  go_wp2_with fail
  refine (HSm.out v3 v4 w4 A_4.out B_4.out HB4.out).mono ?_
  rintro e w5 ⟨rfl, hb5⟩
  have HB5 := Lib.hid (HB4.out.trans (hb5.mono HB4.out.size))
  have A_5 := Lib.hid (A_4.out.below hb5 (Nat.le_refl _))
  have B_5 := Lib.hid (B_4.out.below hb5 (Nat.le_refl _))
  clear hb5
  clear A_5
  clear B_5
  go_wp2_with fail
  refine (HAw.out w5 HB5.out).mono ?_
  rintro e w6 ⟨rfl, hb6⟩
  have HB6 := Lib.hid (HB5.out.trans (hb6.mono HB5.out.size))
  clear hb6
  go_wp2
  go_ret
  exact ⟨rfl, HB6.out⟩

set_option maxHeartbeats 4000000 in
set_option maxRecDepth 100000 in
theorem twice_odd_good (v u : Value) (bs : List Nat) (ys : List Int) (n : Nat) (t : Nat) (w : World) (hg : Gr n bs) (h : Nats w v bs) (h' : Ints w u ys) (hT : Tab w) (hs : graphB ys = false ∨ n ≠ ys.length) (ht : t < 2 ^ n) :
    Calls Tryd.prog 13 #[v, u, .int .i64 t] w fun e w' => e = .returned (.bool true) ∧ Below w.heap.size w w' := by
  have HL := Lib.hid (fun w' (hb : Below w.heap.size w w') => list_any v _ w' (h.below hb (Nat.le_refl _)))
  have HK := Lib.hid (fun w' (hb : Below w.heap.size w w') => list_any u _ w' (h'.below hb (Nat.le_refl _)))
  have HAw := Lib.hid (fun w' (hb : Below w.heap.size w w') => awake_any w' (tab_below hT hb))
  rw [hg.take] at HL
  have hlen : (nats bs).length = n := by rw [nats_length, hg.len]
  have hsm : graphB (nats bs) = false ∨ graphB (ys.take 20) = false ∨ (nats bs).length ≠ (ys.take 20).length := by
    rw [graphB_take, hlen, List.length_take]
    have := hg.le
    rcases hs with hs | hs
    · exact .inr (.inl hs)
    · exact .inr (.inr (by omega))
  have HSm := Lib.hid (fun v' u' w' (h1 : Nats w' v' bs) (h2 : Ints w' u' (ys.take 20)) (hb : Below w.heap.size w w') => Same_bad v' u' _ _ w' h1 h2 hsm (tab_below hT hb))
  have HSw := Lib.hid (fun v' w' (h' : Nats w' v' bs) (hb : Below w.heap.size w w') => Switch_any v' bs n t w' hg h' ht (tab_below hT hb))
  have HSw2 := Lib.hid (fun v' w' (h' : Nats w' v' (swL n bs t)) (hb : Below w.heap.size w w') => Switch_any v' (swL n bs t) n t w' (swL_gr hg ht) h' ht (tab_below hT hb))
  rw [swL_swL hg ht] at HSw2
  have HCl := Lib.hid (fun v' w' (h' : Nats w' v' (swL n bs t)) => cloneG_any v' _ n w' (swL_gr hg ht) h')
  have HOd := Lib.hid (fun v' w' (h' : Nats w' v' bs) (hb : Below w.heap.size w w') => Odd_any v' bs n w' hg h' (tab_below hT hb))
  have HOd2 := Lib.hid (fun v' w' (h' : Nats w' v' (swL n bs t)) (hb : Below w.heap.size w w') => Odd_any v' _ n w' (swL_gr hg ht) h' (tab_below hT hb))
  rw [odd_twice] at HOd2
  have HEqg := Lib.hid (fun y w' (h1 : Nats w' y bs) (hb : Below w.heap.size w w') => equal_any y v _ _ w' h1 (h.below hb (Nat.le_refl _)))
  rw [eqB_refl] at HEqg
  clear h h' hT hs hsm hlen hg ht
  have HB0 := Lib.hid (Below.refl w.heap.size w)
  go_enter Tryd.func13, Tryd.ntmps13
  go_wp2_with fail
  refine (HL.out w HB0.out).mono ?_
  rintro e w1 ⟨v1, rfl, hv1, hb1⟩
  have HB1 := Lib.hid (HB0.out.trans (hb1.mono HB0.out.size))
  have A_1 := Lib.hid (hv1)
  clear hb1 hv1
  go_wp2_with fail
  refine (HSw.out v1 w1 A_1.out HB1.out).mono ?_
  rintro e w2 ⟨v2, rfl, hv2, hb2⟩
  have HB2 := Lib.hid (HB1.out.trans (hb2.mono HB1.out.size))
  have A_2 := Lib.hid (A_1.out.below hb2 (Nat.le_refl _))
  have X_2 := Lib.hid (hv2)
  clear hb2 hv2
  clear A_2
  go_wp2_with fail
  refine (HCl.out v2 w2 X_2.out).mono ?_
  rintro e w3 ⟨v3, rfl, hv3, hb3⟩
  have HB3 := Lib.hid (HB2.out.trans (hb3.mono HB2.out.size))
  have X_3 := Lib.hid (X_2.out.below hb3 (Nat.le_refl _))
  have C_3 := Lib.hid (hv3)
  clear hb3 hv3
  go_wp2_with fail
  refine (HSw2.out v3 w3 C_3.out HB3.out).mono ?_
  rintro e w4 ⟨v4, rfl, hv4, hb4⟩
  have HB4 := Lib.hid (HB3.out.trans (hb4.mono HB3.out.size))
  have X_4 := Lib.hid (X_3.out.below hb4 (Nat.le_refl _))
  have C_4 := Lib.hid (C_3.out.below hb4 (Nat.le_refl _))
  have Y_4 := Lib.hid (hv4)
  clear hb4 hv4
  clear C_4
  go_wp2_with fail
  refine (HL.out w4 HB4.out).mono ?_
  rintro e w5 ⟨v5, rfl, hv5, hb5⟩
  have HB5 := Lib.hid (HB4.out.trans (hb5.mono HB4.out.size))
  have X_5 := Lib.hid (X_4.out.below hb5 (Nat.le_refl _))
  have Y_5 := Lib.hid (Y_4.out.below hb5 (Nat.le_refl _))
  have A_5 := Lib.hid (hv5)
  clear hb5 hv5
  go_wp2_with fail
  refine (HOd.out v5 w5 A_5.out HB5.out).mono ?_
  rintro e w6 ⟨rfl, hb6⟩
  have HB6 := Lib.hid (HB5.out.trans (hb6.mono HB5.out.size))
  have X_6 := Lib.hid (X_5.out.below hb6 (Nat.le_refl _))
  have Y_6 := Lib.hid (Y_5.out.below hb6 (Nat.le_refl _))
  have A_6 := Lib.hid (A_5.out.below hb6 (Nat.le_refl _))
  clear hb6
  clear A_6
  go_wp2_with fail
  refine (HCl.out v2 w6 X_6.out).mono ?_
  rintro e w7 ⟨v7, rfl, hv7, hb7⟩
  have HB7 := Lib.hid (HB6.out.trans (hb7.mono HB6.out.size))
  have X_7 := Lib.hid (X_6.out.below hb7 (Nat.le_refl _))
  have Y_7 := Lib.hid (Y_6.out.below hb7 (Nat.le_refl _))
  have C_7 := Lib.hid (hv7)
  clear hb7 hv7
  go_wp2_with fail
  refine (HOd2.out v7 w7 C_7.out HB7.out).mono ?_
  rintro e w8 ⟨rfl, hb8⟩
  have HB8 := Lib.hid (HB7.out.trans (hb8.mono HB7.out.size))
  have X_8 := Lib.hid (X_7.out.below hb8 (Nat.le_refl _))
  have Y_8 := Lib.hid (Y_7.out.below hb8 (Nat.le_refl _))
  have C_8 := Lib.hid (C_7.out.below hb8 (Nat.le_refl _))
  clear hb8
  clear C_8
  clear X_8
  go_wp2_with fail
  refine (HEqg.out v4 w8 Y_8.out HB8.out).mono ?_
  rintro e w9 ⟨rfl, hb9⟩
  have HB9 := Lib.hid (HB8.out.trans (hb9.mono HB8.out.size))
  have Y_9 := Lib.hid (Y_8.out.below hb9 (Nat.le_refl _))
  clear hb9
  clear Y_9
  go_wp2_with fail
  refine (HL.out w9 HB9.out).mono ?_
  rintro e w10 ⟨v10, rfl, hv10, hb10⟩
  have HB10 := Lib.hid (HB9.out.trans (hb10.mono HB9.out.size))
  have A_10 := Lib.hid (hv10)
  clear hb10 hv10
  go_wp2_with fail
  refine (HK.out w10 HB10.out).mono ?_
  rintro e w11 ⟨v11, rfl, hv11, hb11⟩
  have HB11 := Lib.hid (HB10.out.trans (hb11.mono HB10.out.size))
  have A_11 := Lib.hid (A_10.out.below hb11 (Nat.le_refl _))
  have B_11 := Lib.hid (hv11)
  clear hb11 hv11
  go_wp2_with fail
  refine (HSm.out v10 v11 w11 A_11.out B_11.out HB11.out).mono ?_
  rintro e w12 ⟨rfl, hb12⟩
  have HB12 := Lib.hid (HB11.out.trans (hb12.mono HB11.out.size))
  have A_12 := Lib.hid (A_11.out.below hb12 (Nat.le_refl _))
  have B_12 := Lib.hid (B_11.out.below hb12 (Nat.le_refl _))
  clear hb12
  clear A_12
  clear B_12
  go_wp2_with fail
  refine (HAw.out w12 HB12.out).mono ?_
  rintro e w13 ⟨rfl, hb13⟩
  have HB13 := Lib.hid (HB12.out.trans (hb13.mono HB12.out.size))
  clear hb13
  go_wp2
  go_ret
  exact ⟨rfl, HB13.out⟩

set_option maxHeartbeats 4000000 in
set_option maxRecDepth 100000 in
theorem twice_odd_bad (v u : Value) (bs : List Nat) (ys : List Int) (n : Nat) (s : Int) (w : World) (hg : Gr n bs) (h : Nats w v bs) (h' : Ints w u ys) (hT : Tab w) (hs : graphB ys = false ∨ n ≠ ys.length) (hz : setB s n = false) :
    Calls Tryd.prog 13 #[v, u, .int .i64 s] w fun e w' => e = .returned (.bool true) ∧ Below w.heap.size w w' := by
  have HL := Lib.hid (fun w' (hb : Below w.heap.size w w') => list_any v _ w' (h.below hb (Nat.le_refl _)))
  have HK := Lib.hid (fun w' (hb : Below w.heap.size w w') => list_any u _ w' (h'.below hb (Nat.le_refl _)))
  have HAw := Lib.hid (fun w' (hb : Below w.heap.size w w') => awake_any w' (tab_below hT hb))
  rw [hg.take] at HL
  have hlen : (nats bs).length = n := by rw [nats_length, hg.len]
  have hsm : graphB (nats bs) = false ∨ graphB (ys.take 20) = false ∨ (nats bs).length ≠ (ys.take 20).length := by
    rw [graphB_take, hlen, List.length_take]
    have := hg.le
    rcases hs with hs | hs
    · exact .inr (.inl hs)
    · exact .inr (.inr (by omega))
  have HSm := Lib.hid (fun v' u' w' (h1 : Nats w' v' bs) (h2 : Ints w' u' (ys.take 20)) (hb : Below w.heap.size w w') => Same_bad v' u' _ _ w' h1 h2 hsm (tab_below hT hb))
  have HSwB := Lib.hid (fun v' w' (h' : Nats w' v' bs) (hb : Below w.heap.size w w') => Switch_bad v' _ s w' h' (.inr (by rw [hlen]; exact hz)) (tab_below hT hb))
  clear h h' hT hs hsm hlen hg hz
  have HB0 := Lib.hid (Below.refl w.heap.size w)
  go_enter Tryd.func13, Tryd.ntmps13
  go_wp2_with fail
  refine (HL.out w HB0.out).mono ?_
  rintro e w1 ⟨v1, rfl, hv1, hb1⟩
  have HB1 := Lib.hid (HB0.out.trans (hb1.mono HB0.out.size))
  have A_1 := Lib.hid (hv1)
  clear hb1 hv1
  go_wp2_with fail
  refine (HSwB.out v1 w1 A_1.out HB1.out).mono ?_
  rintro e w2 ⟨rfl, hb2⟩
  have HB2 := Lib.hid (HB1.out.trans (hb2.mono HB1.out.size))
  have A_2 := Lib.hid (A_1.out.below hb2 (Nat.le_refl _))
  clear hb2
  clear A_2
  go_wp2_with fail
  refine (HL.out w2 HB2.out).mono ?_
  rintro e w3 ⟨v3, rfl, hv3, hb3⟩
  have HB3 := Lib.hid (HB2.out.trans (hb3.mono HB2.out.size))
  have A_3 := Lib.hid (hv3)
  clear hb3 hv3
  go_wp2_with fail
  refine (HK.out w3 HB3.out).mono ?_
  rintro e w4 ⟨v4, rfl, hv4, hb4⟩
  have HB4 := Lib.hid (HB3.out.trans (hb4.mono HB3.out.size))
  have A_4 := Lib.hid (A_3.out.below hb4 (Nat.le_refl _))
  have B_4 := Lib.hid (hv4)
  clear hb4 hv4
  go_wp2_with fail
  refine (HSm.out v3 v4 w4 A_4.out B_4.out HB4.out).mono ?_
  rintro e w5 ⟨rfl, hb5⟩
  have HB5 := Lib.hid (HB4.out.trans (hb5.mono HB4.out.size))
  have A_5 := Lib.hid (A_4.out.below hb5 (Nat.le_refl _))
  have B_5 := Lib.hid (B_4.out.below hb5 (Nat.le_refl _))
  clear hb5
  clear A_5
  clear B_5
  go_wp2_with fail
  refine (HAw.out w5 HB5.out).mono ?_
  rintro e w6 ⟨rfl, hb6⟩
  have HB6 := Lib.hid (HB5.out.trans (hb6.mono HB5.out.size))
  clear hb6
  go_wp2
  go_ret
  exact ⟨rfl, HB6.out⟩
end Go.Proofs.YtdnhfnegnjdeoaaDoor
