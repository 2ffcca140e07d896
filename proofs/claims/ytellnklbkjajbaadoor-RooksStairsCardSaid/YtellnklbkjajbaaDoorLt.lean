/- RooksStairs: the walk -/
import Derived.Test.YtellnklbkjajbaaDoorHw
import Derived.Test.YtellnklbkjajbaaDoorCl
import Derived.Test.YtellnklbkjajbaaDoorOp
namespace Go.Proofs.YtellnklbkjajbaaDoor
open Go.RowKit

def htE (bs : List Nat) : Int := if okB bs then 0 else 4
def htV (bs : List Nat) : List Int := if okB bs then htL bs else []
theorem HtPost.val {bs : List Nat} {e : Ending} {w' : World} (h : HtPost bs e w') : ∃ v', e = .returned (.tuple #[v', .int .i64 (htE bs)]) ∧ Ints w' v' (htV bs) := by
  unfold htE htV
  rcases h with ⟨h, rfl⟩ | ⟨h, v', rfl, hI⟩
  · rw [h]; exact ⟨_, rfl, Ints.nil _⟩
  · rw [h]; exact ⟨v', rfl, hI⟩
theorem Heights_val (v : Value) (bs : List Nat) (n : Nat) (w : World) (hb : Brd n bs) (h : Nats w v bs) :
    Calls Tryd.prog 32 #[v] w fun e w' => ∃ v', e = .returned (.tuple #[v', .int .i64 (htE bs)]) ∧ Ints w' v' (htV bs) ∧ Below w.heap.size w w' :=
  (Heights_any v bs n w hb h).mono fun _ _ ⟨hp, hb'⟩ => by obtain ⟨v', e1, e2⟩ := hp.val; exact ⟨v', e1, e2, hb'⟩
theorem rHeights_val (v : Value) (bs : List Nat) (n : Nat) (w : World) (hb : Brd n bs) (h : Nats w v bs) :
    Calls Tryd.prog 35 #[v] w fun e w' => ∃ v', e = .returned (.tuple #[v', .int .i64 (htE bs)]) ∧ Ints w' v' (htV bs) ∧ Below w.heap.size w w' :=
  (rHeights_any v bs n w hb h).mono fun _ _ ⟨hp, hb'⟩ => by obtain ⟨v', e1, e2⟩ := hp.val; exact ⟨v', e1, e2, hb'⟩
theorem stp_take {n : Nat} {ls : List Nat} (h : Stp n ls) : (nats ls).take 9 = nats ls := List.take_of_length_le (by rw [nats_length, h.len]; have := h.le; omega)
theorem brd_take {n : Nat} {bs : List Nat} (h : Brd n bs) : (nats bs).take 9 = nats bs := List.take_of_length_le (by rw [nats_length, h.len]; have := h.le; omega)

set_option maxHeartbeats 8000000 in
set_option maxRecDepth 100000 in
theorem rooksStairs_law (v : Value) (xs : List Int) (u : Value) (ys : List Int) (w : World) (h : Ints w v xs) (hu : Ints w u ys) (hT : Tab w) :
    Calls Tryd.prog 6 #[v, u] w fun e w' => e = .returned (.bool true) ∧ Below w.heap.size w w' := by
  have HL := Lib.hid (fun w' (hb : Below w.heap.size w w') => list_any v xs w' (h.below hb (Nat.le_refl _)))
  have HLu := Lib.hid (fun w' (hb : Below w.heap.size w w') => list_any u ys w' (hu.below hb (Nat.le_refl _)))
  have HM := Lib.hid (fun w' (hb : Below w.heap.size w w') => Board_any u ys w' (hu.below hb (Nat.le_refl _)))
  have HS := Lib.hid (fun w' (hb : Below w.heap.size w w') => Steps_any v xs w' (h.below hb (Nat.le_refl _)))
  have HTab := Lib.hid (fun w' (hb : Below w.heap.size w w') => tab_block hT (hb.block 1 (tab_lt hT)))
  have HAw := Lib.hid (fun w' (hb : Below w.heap.size w w') => awake_any w' (HTab.out w' hb))
  have HEq := Lib.hid (fun v v' xs w h h' => equal_self v v' xs w h h')
  cases hs : stepsB xs with
  | false =>
    cases hbd : boardB ys with
    | false =>
      rw [hs] at HS
      have HSt := Lib.hid (fun v' w' (h' : Ints w' v' (xs.take 9)) => Stair_bad v' (xs.take 9) w' (by rw [stepsB_take, hs]) h')
      rw [hbd] at HM
      have HHt := Lib.hid (fun v' w' (h' : Ints w' v' (ys.take 9)) => Heights_bad v' (ys.take 9) w' (by rw [boardB_take, hbd]) h')
      clear hs hbd h hu hT
      have HB0 := Lib.hid (Below.refl w.heap.size w)
      go_enter Tryd.func6, Tryd.ntmps6
      go_wp2_with fail
      refine (HL.out w HB0.out).mono ?_
      rintro e w1 ⟨v1, rfl, hv1, hb1⟩
      have HB1 := Lib.hid (HB0.out.trans (hb1.mono HB0.out.size))
      have A_1 := Lib.hid (hv1)
      clear hb1 hv1
      go_wp2_with fail
      refine (HSt.out v1 w1 A_1.out).mono ?_
      rintro e w2 ⟨rfl, hb2⟩
      have HB2 := Lib.hid (HB1.out.trans (hb2.mono HB1.out.size))
      have A_2 := Lib.hid (A_1.out.below hb2 (Nat.le_refl _))
      clear hb2
      clear A_2
      go_wp2_with fail
      refine (HLu.out w2 HB2.out).mono ?_
      rintro e w3 ⟨v3, rfl, hv3, hb3⟩
      have HB3 := Lib.hid (HB2.out.trans (hb3.mono HB2.out.size))
      have B_3 := Lib.hid (hv3)
      clear hb3 hv3
      go_wp2_with fail
      refine (HHt.out v3 w3 B_3.out).mono ?_
      rintro e w' ⟨rfl, rfl⟩
      clear B_3
      go_wp2_with fail
      refine (HS.out w3 HB3.out).mono ?_
      rintro e w' ⟨rfl, rfl⟩
      go_wp2_with fail
      refine (HS.out w3 HB3.out).mono ?_
      rintro e w' ⟨rfl, rfl⟩
      go_wp2_with fail
      refine (HAw.out w3 HB3.out).mono ?_
      rintro e w4 ⟨rfl, hb4⟩
      have HB4 := Lib.hid (HB3.out.trans (hb4.mono HB3.out.size))
      clear hb4
      go_wp2_with fail
      refine (HM.out w4 HB4.out).mono ?_
      rintro e w' ⟨rfl, rfl⟩
      go_wp2
      go_ret
      exact ⟨rfl, HB4.out⟩
    | true =>
      rw [hs] at HS
      have HSt := Lib.hid (fun v' w' (h' : Ints w' v' (xs.take 9)) => Stair_bad v' (xs.take 9) w' (by rw [stepsB_take, hs]) h')
      obtain ⟨bs, rfl, hb⟩ := boardB_of hbd
      rw [nats_length] at hb
      obtain ⟨m, hm⟩ : ∃ m, m = bs.length := ⟨_, rfl⟩
      rw [← hm] at hb
      rw [brd_take hb] at HLu
      rw [hbd] at HM
      have HHt := Lib.hid (fun v' w' (h' : Nats w' v' bs) => Heights_val v' bs m w' hb h')
      have HRh := Lib.hid (fun w' (hb' : Below w.heap.size w w') => rHeights_val u bs m w' hb (hu.below hb' (Nat.le_refl _)))
      generalize htV bs = hv at *
      generalize htE bs = he at *
      clear hs hbd h hu hT hb hm
      have HB0 := Lib.hid (Below.refl w.heap.size w)
      go_enter Tryd.func6, Tryd.ntmps6
      go_wp2_with fail
      refine (HL.out w HB0.out).mono ?_
      rintro e w1 ⟨v1, rfl, hv1, hb1⟩
      have HB1 := Lib.hid (HB0.out.trans (hb1.mono HB0.out.size))
      have A_1 := Lib.hid (hv1)
      clear hb1 hv1
      go_wp2_with fail
      refine (HSt.out v1 w1 A_1.out).mono ?_
      rintro e w2 ⟨rfl, hb2⟩
      have HB2 := Lib.hid (HB1.out.trans (hb2.mono HB1.out.size))
      have A_2 := Lib.hid (A_1.out.below hb2 (Nat.le_refl _))
      clear hb2
      clear A_2
      go_wp2_with fail
      refine (HLu.out w2 HB2.out).mono ?_
      rintro e w3 ⟨v3, rfl, hv3, hb3⟩
      have HB3 := Lib.hid (HB2.out.trans (hb3.mono HB2.out.size))
      have B_3 := Lib.hid (hv3)
      clear hb3 hv3
      go_wp2_with fail
      refine (HHt.out v3 w3 B_3.out).mono ?_
      rintro e w4 ⟨v4, rfl, hv4, hb4⟩
      have HB4 := Lib.hid (HB3.out.trans (hb4.mono HB3.out.size))
      have B_4 := Lib.hid (B_3.out.below hb4 (Nat.le_refl _))
      have Y_4 := Lib.hid (hv4)
      clear hb4 hv4
      clear B_4
      go_wp2_with fail
      refine (HS.out w4 HB4.out).mono ?_
      rintro e w' ⟨rfl, rfl⟩
      go_wp2_with fail
      refine (HS.out w4 HB4.out).mono ?_
      rintro e w' ⟨rfl, rfl⟩
      go_wp2_with fail
      refine (HAw.out w4 HB4.out).mono ?_
      rintro e w5 ⟨rfl, hb5⟩
      have HB5 := Lib.hid (HB4.out.trans (hb5.mono HB4.out.size))
      have Y_5 := Lib.hid (Y_4.out.below hb5 (Nat.le_refl _))
      clear hb5
      go_wp2_with fail
      refine (HM.out w5 HB5.out).mono ?_
      rintro e w' ⟨rfl, rfl⟩
      go_wp2_with fail
      refine (HRh.out w5 HB5.out).mono ?_
      rintro e w6 ⟨v6, rfl, hv6, hb6⟩
      have HB6 := Lib.hid (HB5.out.trans (hb6.mono HB5.out.size))
      have Y_6 := Lib.hid (Y_5.out.below hb6 (Nat.le_refl _))
      have V_6 := Lib.hid (hv6)
      clear hb6 hv6
      go_wp2_with fail
      refine (HEq.out _ _ _ w6 Y_6.out V_6.out).mono ?_
      rintro e w7 ⟨rfl, hb7⟩
      have HB7 := Lib.hid (HB6.out.trans (hb7.mono HB6.out.size))
      have Y_7 := Lib.hid (Y_6.out.below hb7 (Nat.le_refl _))
      have V_7 := Lib.hid (V_6.out.below hb7 (Nat.le_refl _))
      clear hb7
      clear Y_7
      clear V_7
      go_wp2
      go_ret
      exact ⟨rfl, HB7.out⟩
  | true =>
    cases hbd : boardB ys with
    | false =>
      obtain ⟨ls, rfl, hst⟩ := stepsB_of hs
      rw [nats_length] at hst
      obtain ⟨n, hn⟩ : ∃ n, n = ls.length := ⟨_, rfl⟩
      rw [← hn] at hst
      rw [stp_take hst] at HL
      rw [hs] at HS
      have HSt := Lib.hid (fun v' w' (h' : Nats w' v' ls) => Stair_any v' ls n w' hst h')
      have HRs := Lib.hid (fun w' (hb' : Below w.heap.size w w') => rStair_any v ls n w' hst (h.below hb' (Nat.le_refl _)))
      generalize stL ls = sl at *
      rw [hbd] at HM
      have HHt := Lib.hid (fun v' w' (h' : Ints w' v' (ys.take 9)) => Heights_bad v' (ys.take 9) w' (by rw [boardB_take, hbd]) h')
      clear hs hbd h hu hT hst hn
      have HB0 := Lib.hid (Below.refl w.heap.size w)
      go_enter Tryd.func6, Tryd.ntmps6
      go_wp2_with fail
      refine (HL.out w HB0.out).mono ?_
      rintro e w1 ⟨v1, rfl, hv1, hb1⟩
      have HB1 := Lib.hid (HB0.out.trans (hb1.mono HB0.out.size))
      have A_1 := Lib.hid (hv1)
      clear hb1 hv1
      go_wp2_with fail
      refine (HSt.out v1 w1 A_1.out).mono ?_
      rintro e w2 ⟨v2, rfl, hv2, hb2⟩
      have HB2 := Lib.hid (HB1.out.trans (hb2.mono HB1.out.size))
      have A_2 := Lib.hid (A_1.out.below hb2 (Nat.le_refl _))
      have X_2 := Lib.hid (hv2)
      clear hb2 hv2
      clear A_2
      go_wp2_with fail
      refine (HLu.out w2 HB2.out).mono ?_
      rintro e w3 ⟨v3, rfl, hv3, hb3⟩
      have HB3 := Lib.hid (HB2.out.trans (hb3.mono HB2.out.size))
      have X_3 := Lib.hid (X_2.out.below hb3 (Nat.le_refl _))
      have B_3 := Lib.hid (hv3)
      clear hb3 hv3
      go_wp2_with fail
      refine (HHt.out v3 w3 B_3.out).mono ?_
      rintro e w' ⟨rfl, rfl⟩
      clear B_3
      go_wp2_with fail
      refine (HS.out w3 HB3.out).mono ?_
      rintro e w' ⟨rfl, rfl⟩
      go_wp2_with fail
      refine (HRs.out w3 HB3.out).mono ?_
      rintro e w4 ⟨v4, rfl, hv4, hb4⟩
      have HB4 := Lib.hid (HB3.out.trans (hb4.mono HB3.out.size))
      have X_4 := Lib.hid (X_3.out.below hb4 (Nat.le_refl _))
      have U_4 := Lib.hid (hv4)
      clear hb4 hv4
      go_wp2_with fail
      refine (HEq.out _ _ _ w4 X_4.out U_4.out).mono ?_
      rintro e w5 ⟨rfl, hb5⟩
      have HB5 := Lib.hid (HB4.out.trans (hb5.mono HB4.out.size))
      have X_5 := Lib.hid (X_4.out.below hb5 (Nat.le_refl _))
      have U_5 := Lib.hid (U_4.out.below hb5 (Nat.le_refl _))
      clear hb5
      clear X_5
      clear U_5
      go_wp2_with fail
      refine (HS.out w5 HB5.out).mono ?_
      rintro e w' ⟨rfl, rfl⟩
      go_wp2_with fail
      refine (HAw.out w5 HB5.out).mono ?_
      rintro e w6 ⟨rfl, hb6⟩
      have HB6 := Lib.hid (HB5.out.trans (hb6.mono HB5.out.size))
      clear hb6
      go_wp2_with fail
      refine (HM.out w6 HB6.out).mono ?_
      rintro e w' ⟨rfl, rfl⟩
      go_wp2
      go_ret
      exact ⟨rfl, HB6.out⟩
    | true =>
      obtain ⟨ls, rfl, hst⟩ := stepsB_of hs
      rw [nats_length] at hst
      obtain ⟨n, hn⟩ : ∃ n, n = ls.length := ⟨_, rfl⟩
      rw [← hn] at hst
      rw [stp_take hst] at HL
      rw [hs] at HS
      have HSt := Lib.hid (fun v' w' (h' : Nats w' v' ls) => Stair_any v' ls n w' hst h')
      have HRs := Lib.hid (fun w' (hb' : Below w.heap.size w w') => rStair_any v ls n w' hst (h.below hb' (Nat.le_refl _)))
      generalize stL ls = sl at *
      obtain ⟨bs, rfl, hb⟩ := boardB_of hbd
      rw [nats_length] at hb
      obtain ⟨m, hm⟩ : ∃ m, m = bs.length := ⟨_, rfl⟩
      rw [← hm] at hb
      rw [brd_take hb] at HLu
      rw [hbd] at HM
      have HHt := Lib.hid (fun v' w' (h' : Nats w' v' bs) => Heights_val v' bs m w' hb h')
      have HRh := Lib.hid (fun w' (hb' : Below w.heap.size w w') => rHeights_val u bs m w' hb (hu.below hb' (Nat.le_refl _)))
      generalize htV bs = hv at *
      generalize htE bs = he at *
      clear hs hbd h hu hT hst hn hb hm
      have HB0 := Lib.hid (Below.refl w.heap.size w)
      go_enter Tryd.func6, Tryd.ntmps6
      go_wp2_with fail
      refine (HL.out w HB0.out).mono ?_
      rintro e w1 ⟨v1, rfl, hv1, hb1⟩
      have HB1 := Lib.hid (HB0.out.trans (hb1.mono HB0.out.size))
      have A_1 := Lib.hid (hv1)
      clear hb1 hv1
      go_wp2_with fail
      refine (HSt.out v1 w1 A_1.out).mono ?_
      rintro e w2 ⟨v2, rfl, hv2, hb2⟩
      have HB2 := Lib.hid (HB1.out.trans (hb2.mono HB1.out.size))
      have A_2 := Lib.hid (A_1.out.below hb2 (Nat.le_refl _))
      have X_2 := Lib.hid (hv2)
      clear hb2 hv2
      clear A_2
      go_wp2_with fail
      refine (HLu.out w2 HB2.out).mono ?_
      rintro e w3 ⟨v3, rfl, hv3, hb3⟩
      have HB3 := Lib.hid (HB2.out.trans (hb3.mono HB2.out.size))
      have X_3 := Lib.hid (X_2.out.below hb3 (Nat.le_refl _))
      have B_3 := Lib.hid (hv3)
      clear hb3 hv3
      go_wp2_with fail
      refine (HHt.out v3 w3 B_3.out).mono ?_
      rintro e w4 ⟨v4, rfl, hv4, hb4⟩
      have HB4 := Lib.hid (HB3.out.trans (hb4.mono HB3.out.size))
      have X_4 := Lib.hid (X_3.out.below hb4 (Nat.le_refl _))
      have B_4 := Lib.hid (B_3.out.below hb4 (Nat.le_refl _))
      have Y_4 := Lib.hid (hv4)
      clear hb4 hv4
      clear B_4
      go_wp2_with fail
      refine (HS.out w4 HB4.out).mono ?_
      rintro e w' ⟨rfl, rfl⟩
      go_wp2_with fail
      refine (HRs.out w4 HB4.out).mono ?_
      rintro e w5 ⟨v5, rfl, hv5, hb5⟩
      have HB5 := Lib.hid (HB4.out.trans (hb5.mono HB4.out.size))
      have X_5 := Lib.hid (X_4.out.below hb5 (Nat.le_refl _))
      have Y_5 := Lib.hid (Y_4.out.below hb5 (Nat.le_refl _))
      have U_5 := Lib.hid (hv5)
      clear hb5 hv5
      go_wp2_with fail
      refine (HEq.out _ _ _ w5 X_5.out U_5.out).mono ?_
      rintro e w6 ⟨rfl, hb6⟩
      have HB6 := Lib.hid (HB5.out.trans (hb6.mono HB5.out.size))
      have X_6 := Lib.hid (X_5.out.below hb6 (Nat.le_refl _))
      have Y_6 := Lib.hid (Y_5.out.below hb6 (Nat.le_refl _))
      have U_6 := Lib.hid (U_5.out.below hb6 (Nat.le_refl _))
      clear hb6
      clear X_6
      clear U_6
      go_wp2_with fail
      refine (HS.out w6 HB6.out).mono ?_
      rintro e w' ⟨rfl, rfl⟩
      go_wp2_with fail
      refine (HAw.out w6 HB6.out).mono ?_
      rintro e w7 ⟨rfl, hb7⟩
      have HB7 := Lib.hid (HB6.out.trans (hb7.mono HB6.out.size))
      have Y_7 := Lib.hid (Y_6.out.below hb7 (Nat.le_refl _))
      clear hb7
      go_wp2_with fail
      refine (HM.out w7 HB7.out).mono ?_
      rintro e w' ⟨rfl, rfl⟩
      go_wp2_with fail
      refine (HRh.out w7 HB7.out).mono ?_
      rintro e w8 ⟨v8, rfl, hv8, hb8⟩
      have HB8 := Lib.hid (HB7.out.trans (hb8.mono HB7.out.size))
      have Y_8 := Lib.hid (Y_7.out.below hb8 (Nat.le_refl _))
      have V_8 := Lib.hid (hv8)
      clear hb8 hv8
      go_wp2_with fail
      refine (HEq.out _ _ _ w8 Y_8.out V_8.out).mono ?_
      rintro e w9 ⟨rfl, hb9⟩
      have HB9 := Lib.hid (HB8.out.trans (hb9.mono HB8.out.size))
      have Y_9 := Lib.hid (Y_8.out.below hb9 (Nat.le_refl _))
      have V_9 := Lib.hid (V_8.out.below hb9 (Nat.le_refl _))
      clear hb9
      clear Y_9
      clear V_9
      go_wp2
      go_ret
      exact ⟨rfl, HB9.out⟩
end Go.Proofs.YtellnklbkjajbaaDoor
