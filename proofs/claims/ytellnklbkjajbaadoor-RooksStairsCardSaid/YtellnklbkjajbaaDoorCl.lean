/- RooksCounts: the walk -/
import Derived.Test.YtellnklbkjajbaaDoorPh
import Derived.Test.YtellnklbkjajbaaDoorCt
namespace Go.Proofs.YtellnklbkjajbaaDoor
open Go.RowKit

theorem equal_self (v v' : Value) (xs : List Int) (w : World) (h : Ints w v xs) (h' : Ints w v' xs) :
    Calls Tryd.prog 20 #[v, v'] w fun e w' => e = .returned (.bool true) ∧ Below w.heap.size w w' := by
  have := equal_any v v' xs xs w h h'
  rwa [eqB_refl] at this
theorem rRooks_val (v : Value) (bs : List Nat) (n : Nat) (w : World) (hb : Brd n bs) (h : Nats w v bs) :
    Calls Tryd.prog 21 #[v] w fun e w' => ∃ v', e = .returned v' ∧ Ints w' v' (rookL bs) ∧ Below w.heap.size w w' :=
  (rRooks_any v bs n w hb h).mono fun _ _ ⟨A, he, _, hI, hb'⟩ => ⟨_, he, by
    have := hI.ints (by rw [rookL_length, hb.len]; have := hb.le; omega) (rookL_I64 bs)
    rwa [rookL_length, hb.len] at this, hb'⟩
theorem rHits_val (v : Value) (bs : List Nat) (n : Nat) (w : World) (hb : Brd n bs) (h : Nats w v bs) :
    Calls Tryd.prog 22 #[v] w fun e w' => ∃ v', e = .returned v' ∧ Ints w' v' (hitsL bs) ∧ Below w.heap.size w w' :=
  (rHits_any v bs n w hb h).mono fun _ _ ⟨A, he, _, hI, hb'⟩ => ⟨_, he, by
    have := hI.ints (by rw [hitsL_length, hb.len]; have := hb.le; omega) (hitsL_I64 bs)
    rwa [hitsL_length, hb.len] at this, hb'⟩

set_option maxHeartbeats 4000000 in
set_option maxRecDepth 100000 in
theorem rooksCounts_law (v : Value) (xs : List Int) (w : World) (h : Ints w v xs) (hT : Tab w) :
    Calls Tryd.prog 3 #[v] w fun e w' => e = .returned (.bool true) ∧ Below w.heap.size w w' := by
  have HL := Lib.hid (fun w' (hb : Below w.heap.size w w') => list_any v xs w' (h.below hb (Nat.le_refl _)))
  have HM := Lib.hid (fun w' (hb : Below w.heap.size w w') => Board_any v xs w' (h.below hb (Nat.le_refl _)))
  have HTab := Lib.hid (fun w' (hb : Below w.heap.size w w') => tab_block hT (hb.block 1 (tab_lt hT)))
  have HAw := Lib.hid (fun w' (hb : Below w.heap.size w w') => awake_any w' (HTab.out w' hb))
  cases hs : boardB xs with
  | false =>
    have HRk := Lib.hid (fun v' w' (h' : Ints w' v' (xs.take 9)) => Rooks_bad v' (xs.take 9) w' (by rw [boardB_take, hs]) h')
    have HHt := Lib.hid (fun v' w' (h' : Ints w' v' (xs.take 9)) => Hits_bad v' (xs.take 9) w' (by rw [boardB_take, hs]) h')
    rw [hs] at HM
    clear hs h hT
    have HB0 := Lib.hid (Below.refl w.heap.size w)
    go_enter Tryd.func3, Tryd.ntmps3
    go_wp2_with fail
    refine (HL.out w HB0.out).mono ?_
    rintro e w1 ⟨v1, rfl, hv1, hb1⟩
    have HB1 := Lib.hid (HB0.out.trans (hb1.mono HB0.out.size))
    have A_1 := Lib.hid (hv1)
    clear hb1 hv1
    go_wp2_with fail
    refine (HRk.out v1 w1 A_1.out).mono ?_
    rintro e w' ⟨rfl, rfl⟩
    clear A_1
    go_wp2_with fail
    refine (HL.out w1 HB1.out).mono ?_
    rintro e w2 ⟨v2, rfl, hv2, hb2⟩
    have HB2 := Lib.hid (HB1.out.trans (hb2.mono HB1.out.size))
    have A_2 := Lib.hid (hv2)
    clear hb2 hv2
    go_wp2_with fail
    refine (HHt.out v2 w2 A_2.out).mono ?_
    rintro e w3 ⟨rfl, hb3⟩
    have HB3 := Lib.hid (HB2.out.trans (hb3.mono HB2.out.size))
    have A_3 := Lib.hid (A_2.out.below hb3 (Nat.le_refl _))
    clear hb3
    clear A_3
    go_wp2_with fail
    refine (HM.out w3 HB3.out).mono ?_
    rintro e w' ⟨rfl, rfl⟩
    go_wp2_with fail
    refine (HAw.out w3 HB3.out).mono ?_
    rintro e w4 ⟨rfl, hb4⟩
    have HB4 := Lib.hid (HB3.out.trans (hb4.mono HB3.out.size))
    clear hb4
    go_wp2
    go_ret
    exact ⟨rfl, HB4.out⟩
  | true =>
    obtain ⟨bs, rfl, hb⟩ := boardB_of hs
    rw [nats_length] at hb
    obtain ⟨n, hn⟩ : ∃ n, n = bs.length := ⟨_, rfl⟩
    rw [← hn] at hb
    have hn6 := hb.le
    have ht : (nats bs).take 9 = nats bs := List.take_of_length_le (by rw [nats_length]; omega)
    rw [ht] at HL
    rw [hs] at HM
    have HRk := Lib.hid (fun v' w' (h' : Nats w' v' bs) (hT' : Tab w') => Rooks_val v' bs n w' hb h' hT')
    have HHt := Lib.hid (fun v' w' (h' : Nats w' v' bs) (hT' : Tab w') => Hits_val v' bs n w' hb h' hT')
    have HRr := Lib.hid (fun w' (hb' : Below w.heap.size w w') => rRooks_val v bs n w' hb (h.below hb' (Nat.le_refl _)))
    have HRh := Lib.hid (fun w' (hb' : Below w.heap.size w w') => rHits_val v bs n w' hb (h.below hb' (Nat.le_refl _)))
    have HEq := Lib.hid (fun v v' xs w h h' => equal_self v v' xs w h h')
    generalize rookL bs = rs at *
    generalize hitsL bs = ys at *
    clear hs h hb ht hT hn
    have HB0 := Lib.hid (Below.refl w.heap.size w)
    go_enter Tryd.func3, Tryd.ntmps3
    go_wp2_with fail
    refine (HL.out w HB0.out).mono ?_
    rintro e w1 ⟨v1, rfl, hv1, hb1⟩
    have HB1 := Lib.hid (HB0.out.trans (hb1.mono HB0.out.size))
    have A_1 := Lib.hid (hv1)
    clear hb1 hv1
    go_wp2_with fail
    refine (HRk.out v1 w1 A_1.out (HTab.out w1 HB1.out)).mono ?_
    rintro e w2 ⟨v2, rfl, hv2, hb2⟩
    have HB2 := Lib.hid (HB1.out.trans (hb2.mono HB1.out.size))
    have A_2 := Lib.hid (A_1.out.below hb2 (Nat.le_refl _))
    have X_2 := Lib.hid (hv2)
    clear hb2 hv2
    clear A_2
    go_wp2_with fail
    refine (HL.out w2 HB2.out).mono ?_
    rintro e w3 ⟨v3, rfl, hv3, hb3⟩
    have HB3 := Lib.hid (HB2.out.trans (hb3.mono HB2.out.size))
    have X_3 := Lib.hid (X_2.out.below hb3 (Nat.le_refl _))
    have A_3 := Lib.hid (hv3)
    clear hb3 hv3
    go_wp2_with fail
    refine (HHt.out v3 w3 A_3.out (HTab.out w3 HB3.out)).mono ?_
    rintro e w4 ⟨v4, rfl, hv4, hb4⟩
    have HB4 := Lib.hid (HB3.out.trans (hb4.mono HB3.out.size))
    have X_4 := Lib.hid (X_3.out.below hb4 (Nat.le_refl _))
    have A_4 := Lib.hid (A_3.out.below hb4 (Nat.le_refl _))
    have Y_4 := Lib.hid (hv4)
    clear hb4 hv4
    clear A_4
    go_wp2_with fail
    refine (HM.out w4 HB4.out).mono ?_
    rintro e w' ⟨rfl, rfl⟩
    go_wp2_with fail
    refine (HRr.out w4 HB4.out).mono ?_
    rintro e w5 ⟨v5, rfl, hv5, hb5⟩
    have HB5 := Lib.hid (HB4.out.trans (hb5.mono HB4.out.size))
    have X_5 := Lib.hid (X_4.out.below hb5 (Nat.le_refl _))
    have Y_5 := Lib.hid (Y_4.out.below hb5 (Nat.le_refl _))
    have U_5 := Lib.hid (hv5)
    clear hb5 hv5
    go_wp2_with fail
    refine (HEq.out _ _ _ w5 X_5.out U_5.out).mono ?_
    rintro e w6 ⟨rfl, hb6⟩
    have HB6 := Lib.hid (HB5.out.trans (hb6.mono HB5.out.size))
    have X_6 := Lib.hid (X_5.out.below hb6 (Nat.le_refl _))
    have Y_6 := Lib.hid (Y_5.out.below hb6 (Nat.le_refl _))
    have U_6 := Lib.hid (U_5.out.below hb6 (Nat.le_refl _))
    clear hb6
    clear U_6
    clear X_6
    go_wp2_with fail
    refine (HRh.out w6 HB6.out).mono ?_
    rintro e w7 ⟨v7, rfl, hv7, hb7⟩
    have HB7 := Lib.hid (HB6.out.trans (hb7.mono HB6.out.size))
    have Y_7 := Lib.hid (Y_6.out.below hb7 (Nat.le_refl _))
    have V_7 := Lib.hid (hv7)
    clear hb7 hv7
    go_wp2_with fail
    refine (HEq.out _ _ _ w7 Y_7.out V_7.out).mono ?_
    rintro e w8 ⟨rfl, hb8⟩
    have HB8 := Lib.hid (HB7.out.trans (hb8.mono HB7.out.size))
    have Y_8 := Lib.hid (Y_7.out.below hb8 (Nat.le_refl _))
    have V_8 := Lib.hid (V_7.out.below hb8 (Nat.le_refl _))
    clear hb8
    clear V_8
    clear Y_8
    go_wp2_with fail
    refine (HAw.out w8 HB8.out).mono ?_
    rintro e w9 ⟨rfl, hb9⟩
    have HB9 := Lib.hid (HB8.out.trans (hb9.mono HB8.out.size))
    clear hb9
    go_wp2
    go_ret
    exact ⟨rfl, HB9.out⟩
end Go.Proofs.YtellnklbkjajbaaDoor
