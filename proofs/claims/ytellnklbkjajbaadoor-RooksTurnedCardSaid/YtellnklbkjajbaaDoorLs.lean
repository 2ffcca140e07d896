/- RooksLess: the walk -/
import Derived.Test.YtellnklbkjajbaaDoorRw
namespace Go.Proofs.YtellnklbkjajbaaDoor
open Go.RowKit

theorem NatBlk.mat {w : World} {g n : Nat} {hs : List Nat} (h : NatBlk w g hs) (hm : Brd n hs) : Nats w (.slice (some ⟨g, 0, none⟩) n n) hs := by
  have := h.nats (by rw [hm.len]; have := hm.le; omega) (fun x hx => Nat.lt_of_lt_of_le (hm.lt x hx) (by have := pw6 n hm.le; omega))
  rwa [hm.len] at this
theorem Other_val (v : Value) (bs : List Nat) (n : Nat) (w : World) (hb : Brd n bs) (h : Nats w v bs) :
    Calls Tryd.prog 28 #[v] w fun e w' => ∃ v', e = .returned (.tuple #[v', .int .i64 0]) ∧ Nats w' v' (otherL n bs) ∧ Below w.heap.size w w' :=
  (Other_any v bs n w hb h).mono fun _ _ ⟨he, hB, hb'⟩ => ⟨_, he, hB.mat (other_brd hb), hb'⟩
theorem eqB_refl (xs : List Int) : eqB xs xs = true := decide_eq_true rfl

set_option maxHeartbeats 4000000 in
set_option maxRecDepth 100000 in
theorem rooksLess_law (v : Value) (xs : List Int) (i j : Int) (w : World) (h : Ints w v xs) (hT : Tab w) :
    Calls Tryd.prog 5 #[v, .int .i64 i, .int .i64 j] w fun e w' => e = .returned (.bool true) ∧ Below w.heap.size w w' := by
  have HL := Lib.hid (fun w' (hb : Below w.heap.size w w') => list_any v xs w' (h.below hb (Nat.le_refl _)))
  have HM := Lib.hid (fun w' (hb : Below w.heap.size w w') => Board_any v xs w' (h.below hb (Nat.le_refl _)))
  have HAw := Lib.hid (fun w' (hb : Below w.heap.size w w') => awake_any w' (tab_block hT (hb.block 1 (tab_lt hT))))
  cases hs : boardB xs with
  | false =>
    have hg : goodW (xs.take 9) i j = false := by unfold goodW; rw [boardB_take, hs]; rfl
    have HWo := Lib.hid (fun v' w' (h' : Ints w' v' (xs.take 9)) => Without_bad v' (xs.take 9) i j w' h' hg)
    have HOt := Lib.hid (fun v' w' (h' : Ints w' v' (xs.take 9)) => Other_bad v' (xs.take 9) w' (by rw [boardB_take, hs]) h')
    rw [hs] at HM
    clear hs h hg hT
    have HB0 := Lib.hid (Below.refl w.heap.size w)
    go_enter Tryd.func5, Tryd.ntmps5
    go_wp2_with fail
    refine (HL.out w HB0.out).mono ?_
    rintro e w1 ⟨v1, rfl, hv1, hb1⟩
    have HB1 := Lib.hid (HB0.out.trans (hb1.mono HB0.out.size))
    have A_1 := Lib.hid (hv1)
    clear hb1 hv1
    go_wp2_with fail
    refine (HWo.out v1 w1 A_1.out).mono ?_
    rintro e w' ⟨rfl, rfl⟩
    clear A_1
    go_wp2_with fail
    refine (HL.out w1 HB1.out).mono ?_
    rintro e w2 ⟨v2, rfl, hv2, hb2⟩
    have HB2 := Lib.hid (HB1.out.trans (hb2.mono HB1.out.size))
    have A_2 := Lib.hid (hv2)
    clear hb2 hv2
    go_wp2_with fail
    refine (HOt.out v2 w2 A_2.out).mono ?_
    rintro e w' ⟨rfl, rfl⟩
    clear A_2
    go_wp2_with fail
    refine (HM.out w2 HB2.out).mono ?_
    rintro e w' ⟨rfl, rfl⟩
    go_wp2_with fail
    refine (HAw.out w2 HB2.out).mono ?_
    rintro e w3 ⟨rfl, hb3⟩
    have HB3 := Lib.hid (HB2.out.trans (hb3.mono HB2.out.size))
    clear hb3
    go_wp2
    go_ret
    exact ⟨rfl, HB3.out⟩
  | true =>
    obtain ⟨bs, rfl, hb⟩ := boardB_of hs
    rw [nats_length] at hb
    obtain ⟨n, hn⟩ : ∃ n, n = bs.length := ⟨_, rfl⟩
    rw [← hn] at hb
    have hn6 := hb.le
    have ht : (nats bs).take 9 = nats bs := List.take_of_length_le (by rw [nats_length]; omega)
    rw [ht] at HL
    have HOt := Lib.hid (fun v' w' (h' : Nats w' v' bs) => Other_val v' bs n w' hb h')
    have HRO := Lib.hid (fun w' (hb' : Below w.heap.size w w') => rOther_any v bs n w' hb (h.below hb' (Nat.le_refl _)))
    have HEq := Lib.hid (fun y z w' (h1 : Nats w' y (otherL n bs)) (h2 : Nats w' z (otherL n bs)) => equal_any y z _ _ w' h1 h2)
    rw [eqB_refl] at HEq
    rw [hs] at HM
    by_cases hg : 2 ≤ n ∧ (0 ≤ i ∧ i < n) ∧ (0 ≤ j ∧ j < n)
    · obtain ⟨hg1, hg2, hg3⟩ := hg
      obtain ⟨a, rfl⟩ : ∃ a : Nat, i = a := ⟨i.toNat, by omega⟩
      obtain ⟨c, rfl⟩ : ∃ c : Nat, j = c := ⟨j.toNat, by omega⟩
      have HWo := Lib.hid (fun v' w' (h' : Nats w' v' bs) => Without_any v' bs n a c w' hb h' hg1 (by omega) (by omega))
      have HRW := Lib.hid (fun w' (hb' : Below w.heap.size w w') => rWithout_any v bs n a c w' hb (h.below hb' (Nat.le_refl _)) hg1 (by omega) (by omega))
      have HEw := Lib.hid (fun y z w' (h1 : Nats w' y (withoutL bs a c)) (h2 : Nats w' z (withoutL bs a c)) => equal_any y z _ _ w' h1 h2)
      rw [eqB_refl] at HEw
      obtain ⟨ao, cap, rfl, _, _, _⟩ := Nats.open h
      rw [← hn] at *
      have q1 : ¬ ((n:Int) < 2) := by omega
      have q2 : ¬ ((a:Int) < 0) := by omega
      have q3 : ¬ ((n:Int) ≤ a) := by omega
      have q4 : ¬ ((c:Int) < 0) := by omega
      have q5 : ¬ ((n:Int) ≤ c) := by omega
      clear hs h hb ht hT hn hg1 hg2 hg3
      have HB0 := Lib.hid (Below.refl w.heap.size w)
      go_enter Tryd.func5, Tryd.ntmps5
      go_wp2_with fail
      refine (HL.out w HB0.out).mono ?_
      rintro e w1 ⟨v1, rfl, hv1, hb1⟩
      have HB1 := Lib.hid (HB0.out.trans (hb1.mono HB0.out.size))
      have A_1 := Lib.hid (hv1)
      clear hb1 hv1
      go_wp2_with fail
      refine (HWo.out v1 w1 A_1.out).mono ?_
      rintro e w2 ⟨v2, rfl, hv2, hb2⟩
      have HB2 := Lib.hid (HB1.out.trans (hb2.mono HB1.out.size))
      have A_2 := Lib.hid (A_1.out.below hb2 (Nat.le_refl _))
      have X_2 := Lib.hid (hv2)
      clear hb2 hv2
      clear A_2
      go_wp2_with fail
      refine (HL.out w2 HB2.out).mono ?_
      rintro e w3 ⟨v3, rfl, hv3, hb3⟩
      have HB3 := Lib.hid (HB2.out.trans (hb3.mono HB2.out.size))
      have X_3 := Lib.hid (X_2.out.below hb3 (Nat.le_refl _))
      have A_3 := Lib.hid (hv3)
      clear hb3 hv3
      go_wp2_with fail
      refine (HOt.out v3 w3 A_3.out).mono ?_
      rintro e w4 ⟨v4, rfl, hv4, hb4⟩
      have HB4 := Lib.hid (HB3.out.trans (hb4.mono HB3.out.size))
      have X_4 := Lib.hid (X_3.out.below hb4 (Nat.le_refl _))
      have A_4 := Lib.hid (A_3.out.below hb4 (Nat.le_refl _))
      have Y_4 := Lib.hid (hv4)
      clear hb4 hv4
      clear A_4
      go_wp2_with fail
      refine (HM.out w4 HB4.out).mono ?_
      rintro e w' ⟨rfl, rfl⟩
      go_wp2_with fail
      refine (HRO.out w4 HB4.out).mono ?_
      rintro e w5 ⟨v5, rfl, hv5, hb5⟩
      have HB5 := Lib.hid (HB4.out.trans (hb5.mono HB4.out.size))
      have X_5 := Lib.hid (X_4.out.below hb5 (Nat.le_refl _))
      have Y_5 := Lib.hid (Y_4.out.below hb5 (Nat.le_refl _))
      have Z_5 := Lib.hid (hv5)
      clear hb5 hv5
      go_wp2_with fail
      refine (HEq.out v4 v5 w5 Y_5.out Z_5.out).mono ?_
      rintro e w6 ⟨rfl, hb6⟩
      have HB6 := Lib.hid (HB5.out.trans (hb6.mono HB5.out.size))
      have X_6 := Lib.hid (X_5.out.below hb6 (Nat.le_refl _))
      have Y_6 := Lib.hid (Y_5.out.below hb6 (Nat.le_refl _))
      have Z_6 := Lib.hid (Z_5.out.below hb6 (Nat.le_refl _))
      clear hb6
      clear Y_6
      clear Z_6
      go_wp2_with fail
      refine (HAw.out w6 HB6.out).mono ?_
      rintro e w7 ⟨rfl, hb7⟩
      have HB7 := Lib.hid (HB6.out.trans (hb7.mono HB6.out.size))
      have X_7 := Lib.hid (X_6.out.below hb7 (Nat.le_refl _))
      clear hb7
      go_wp2_with fail
      refine (HRW.out w7 HB7.out).mono ?_
      rintro e w8 ⟨v8, rfl, hv8, hb8⟩
      have HB8 := Lib.hid (HB7.out.trans (hb8.mono HB7.out.size))
      have X_8 := Lib.hid (X_7.out.below hb8 (Nat.le_refl _))
      have V_8 := Lib.hid (hv8)
      clear hb8 hv8
      go_wp2_with fail
      refine (HEw.out v2 v8 w8 X_8.out V_8.out).mono ?_
      rintro e w9 ⟨rfl, hb9⟩
      have HB9 := Lib.hid (HB8.out.trans (hb9.mono HB8.out.size))
      have X_9 := Lib.hid (X_8.out.below hb9 (Nat.le_refl _))
      have V_9 := Lib.hid (V_8.out.below hb9 (Nat.le_refl _))
      clear hb9
      go_wp2
      go_ret
      exact ⟨rfl, HB9.out⟩
    · have hgw : goodW (nats bs) i j = false := by
        unfold goodW idxB
        rw [nats_length, ← hn]
        simp only [Bool.and_eq_false_iff, decide_eq_false_iff_not]
        omega
      have HWo := Lib.hid (fun v' w' (h' : Nats w' v' bs) => Without_bad v' (nats bs) i j w' h' hgw)
      obtain ⟨ao, cap, rfl, _, _, _⟩ := Nats.open h
      rw [← hn] at *
      clear hs h hb ht hT hgw
      by_cases c0 : ((n:Int) < 2)
      · clear hg hn
        have HB0 := Lib.hid (Below.refl w.heap.size w)
        go_enter Tryd.func5, Tryd.ntmps5
        go_wp2_with fail
        refine (HL.out w HB0.out).mono ?_
        rintro e w1 ⟨v1, rfl, hv1, hb1⟩
        have HB1 := Lib.hid (HB0.out.trans (hb1.mono HB0.out.size))
        have A_1 := Lib.hid (hv1)
        clear hb1 hv1
        go_wp2_with fail
        refine (HWo.out v1 w1 A_1.out).mono ?_
        rintro e w' ⟨rfl, rfl⟩
        clear A_1
        go_wp2_with fail
        refine (HL.out w1 HB1.out).mono ?_
        rintro e w2 ⟨v2, rfl, hv2, hb2⟩
        have HB2 := Lib.hid (HB1.out.trans (hb2.mono HB1.out.size))
        have A_2 := Lib.hid (hv2)
        clear hb2 hv2
        go_wp2_with fail
        refine (HOt.out v2 w2 A_2.out).mono ?_
        rintro e w3 ⟨v3, rfl, hv3, hb3⟩
        have HB3 := Lib.hid (HB2.out.trans (hb3.mono HB2.out.size))
        have A_3 := Lib.hid (A_2.out.below hb3 (Nat.le_refl _))
        have Y_3 := Lib.hid (hv3)
        clear hb3 hv3
        clear A_3
        go_wp2_with fail
        refine (HM.out w3 HB3.out).mono ?_
        rintro e w' ⟨rfl, rfl⟩
        go_wp2_with fail
        refine (HRO.out w3 HB3.out).mono ?_
        rintro e w4 ⟨v4, rfl, hv4, hb4⟩
        have HB4 := Lib.hid (HB3.out.trans (hb4.mono HB3.out.size))
        have Y_4 := Lib.hid (Y_3.out.below hb4 (Nat.le_refl _))
        have Z_4 := Lib.hid (hv4)
        clear hb4 hv4
        go_wp2_with fail
        refine (HEq.out v3 v4 w4 Y_4.out Z_4.out).mono ?_
        rintro e w5 ⟨rfl, hb5⟩
        have HB5 := Lib.hid (HB4.out.trans (hb5.mono HB4.out.size))
        have Y_5 := Lib.hid (Y_4.out.below hb5 (Nat.le_refl _))
        have Z_5 := Lib.hid (Z_4.out.below hb5 (Nat.le_refl _))
        clear hb5
        clear Y_5
        clear Z_5
        go_wp2_with fail
        refine (HAw.out w5 HB5.out).mono ?_
        rintro e w6 ⟨rfl, hb6⟩
        have HB6 := Lib.hid (HB5.out.trans (hb6.mono HB5.out.size))
        clear hb6
        go_wp2
        go_ret
        exact ⟨rfl, HB6.out⟩
      · skip
        by_cases c1 : (i < 0)
        · clear hg hn
          have HB0 := Lib.hid (Below.refl w.heap.size w)
          go_enter Tryd.func5, Tryd.ntmps5
          go_wp2_with fail
          refine (HL.out w HB0.out).mono ?_
          rintro e w1 ⟨v1, rfl, hv1, hb1⟩
          have HB1 := Lib.hid (HB0.out.trans (hb1.mono HB0.out.size))
          have A_1 := Lib.hid (hv1)
          clear hb1 hv1
          go_wp2_with fail
          refine (HWo.out v1 w1 A_1.out).mono ?_
          rintro e w' ⟨rfl, rfl⟩
          clear A_1
          go_wp2_with fail
          refine (HL.out w1 HB1.out).mono ?_
          rintro e w2 ⟨v2, rfl, hv2, hb2⟩
          have HB2 := Lib.hid (HB1.out.trans (hb2.mono HB1.out.size))
          have A_2 := Lib.hid (hv2)
          clear hb2 hv2
          go_wp2_with fail
          refine (HOt.out v2 w2 A_2.out).mono ?_
          rintro e w3 ⟨v3, rfl, hv3, hb3⟩
          have HB3 := Lib.hid (HB2.out.trans (hb3.mono HB2.out.size))
          have A_3 := Lib.hid (A_2.out.below hb3 (Nat.le_refl _))
          have Y_3 := Lib.hid (hv3)
          clear hb3 hv3
          clear A_3
          go_wp2_with fail
          refine (HM.out w3 HB3.out).mono ?_
          rintro e w' ⟨rfl, rfl⟩
          go_wp2_with fail
          refine (HRO.out w3 HB3.out).mono ?_
          rintro e w4 ⟨v4, rfl, hv4, hb4⟩
          have HB4 := Lib.hid (HB3.out.trans (hb4.mono HB3.out.size))
          have Y_4 := Lib.hid (Y_3.out.below hb4 (Nat.le_refl _))
          have Z_4 := Lib.hid (hv4)
          clear hb4 hv4
          go_wp2_with fail
          refine (HEq.out v3 v4 w4 Y_4.out Z_4.out).mono ?_
          rintro e w5 ⟨rfl, hb5⟩
          have HB5 := Lib.hid (HB4.out.trans (hb5.mono HB4.out.size))
          have Y_5 := Lib.hid (Y_4.out.below hb5 (Nat.le_refl _))
          have Z_5 := Lib.hid (Z_4.out.below hb5 (Nat.le_refl _))
          clear hb5
          clear Y_5
          clear Z_5
          go_wp2_with fail
          refine (HAw.out w5 HB5.out).mono ?_
          rintro e w6 ⟨rfl, hb6⟩
          have HB6 := Lib.hid (HB5.out.trans (hb6.mono HB5.out.size))
          clear hb6
          go_wp2
          go_ret
          exact ⟨rfl, HB6.out⟩
        · skip
          by_cases c2 : ((n:Int) ≤ i)
          · clear hg hn
            have HB0 := Lib.hid (Below.refl w.heap.size w)
            go_enter Tryd.func5, Tryd.ntmps5
            go_wp2_with fail
            refine (HL.out w HB0.out).mono ?_
            rintro e w1 ⟨v1, rfl, hv1, hb1⟩
            have HB1 := Lib.hid (HB0.out.trans (hb1.mono HB0.out.size))
            have A_1 := Lib.hid (hv1)
            clear hb1 hv1
            go_wp2_with fail
            refine (HWo.out v1 w1 A_1.out).mono ?_
            rintro e w' ⟨rfl, rfl⟩
            clear A_1
            go_wp2_with fail
            refine (HL.out w1 HB1.out).mono ?_
            rintro e w2 ⟨v2, rfl, hv2, hb2⟩
            have HB2 := Lib.hid (HB1.out.trans (hb2.mono HB1.out.size))
            have A_2 := Lib.hid (hv2)
            clear hb2 hv2
            go_wp2_with fail
            refine (HOt.out v2 w2 A_2.out).mono ?_
            rintro e w3 ⟨v3, rfl, hv3, hb3⟩
            have HB3 := Lib.hid (HB2.out.trans (hb3.mono HB2.out.size))
            have A_3 := Lib.hid (A_2.out.below hb3 (Nat.le_refl _))
            have Y_3 := Lib.hid (hv3)
            clear hb3 hv3
            clear A_3
            go_wp2_with fail
            refine (HM.out w3 HB3.out).mono ?_
            rintro e w' ⟨rfl, rfl⟩
            go_wp2_with fail
            refine (HRO.out w3 HB3.out).mono ?_
            rintro e w4 ⟨v4, rfl, hv4, hb4⟩
            have HB4 := Lib.hid (HB3.out.trans (hb4.mono HB3.out.size))
            have Y_4 := Lib.hid (Y_3.out.below hb4 (Nat.le_refl _))
            have Z_4 := Lib.hid (hv4)
            clear hb4 hv4
            go_wp2_with fail
            refine (HEq.out v3 v4 w4 Y_4.out Z_4.out).mono ?_
            rintro e w5 ⟨rfl, hb5⟩
            have HB5 := Lib.hid (HB4.out.trans (hb5.mono HB4.out.size))
            have Y_5 := Lib.hid (Y_4.out.below hb5 (Nat.le_refl _))
            have Z_5 := Lib.hid (Z_4.out.below hb5 (Nat.le_refl _))
            clear hb5
            clear Y_5
            clear Z_5
            go_wp2_with fail
            refine (HAw.out w5 HB5.out).mono ?_
            rintro e w6 ⟨rfl, hb6⟩
            have HB6 := Lib.hid (HB5.out.trans (hb6.mono HB5.out.size))
            clear hb6
            go_wp2
            go_ret
            exact ⟨rfl, HB6.out⟩
          · skip
            by_cases c3 : (j < 0)
            · clear hg hn
              have HB0 := Lib.hid (Below.refl w.heap.size w)
              go_enter Tryd.func5, Tryd.ntmps5
              go_wp2_with fail
              refine (HL.out w HB0.out).mono ?_
              rintro e w1 ⟨v1, rfl, hv1, hb1⟩
              have HB1 := Lib.hid (HB0.out.trans (hb1.mono HB0.out.size))
              have A_1 := Lib.hid (hv1)
              clear hb1 hv1
              go_wp2_with fail
              refine (HWo.out v1 w1 A_1.out).mono ?_
              rintro e w' ⟨rfl, rfl⟩
              clear A_1
              go_wp2_with fail
              refine (HL.out w1 HB1.out).mono ?_
              rintro e w2 ⟨v2, rfl, hv2, hb2⟩
              have HB2 := Lib.hid (HB1.out.trans (hb2.mono HB1.out.size))
              have A_2 := Lib.hid (hv2)
              clear hb2 hv2
              go_wp2_with fail
              refine (HOt.out v2 w2 A_2.out).mono ?_
              rintro e w3 ⟨v3, rfl, hv3, hb3⟩
              have HB3 := Lib.hid (HB2.out.trans (hb3.mono HB2.out.size))
              have A_3 := Lib.hid (A_2.out.below hb3 (Nat.le_refl _))
              have Y_3 := Lib.hid (hv3)
              clear hb3 hv3
              clear A_3
              go_wp2_with fail
              refine (HM.out w3 HB3.out).mono ?_
              rintro e w' ⟨rfl, rfl⟩
              go_wp2_with fail
              refine (HRO.out w3 HB3.out).mono ?_
              rintro e w4 ⟨v4, rfl, hv4, hb4⟩
              have HB4 := Lib.hid (HB3.out.trans (hb4.mono HB3.out.size))
              have Y_4 := Lib.hid (Y_3.out.below hb4 (Nat.le_refl _))
              have Z_4 := Lib.hid (hv4)
              clear hb4 hv4
              go_wp2_with fail
              refine (HEq.out v3 v4 w4 Y_4.out Z_4.out).mono ?_
              rintro e w5 ⟨rfl, hb5⟩
              have HB5 := Lib.hid (HB4.out.trans (hb5.mono HB4.out.size))
              have Y_5 := Lib.hid (Y_4.out.below hb5 (Nat.le_refl _))
              have Z_5 := Lib.hid (Z_4.out.below hb5 (Nat.le_refl _))
              clear hb5
              clear Y_5
              clear Z_5
              go_wp2_with fail
              refine (HAw.out w5 HB5.out).mono ?_
              rintro e w6 ⟨rfl, hb6⟩
              have HB6 := Lib.hid (HB5.out.trans (hb6.mono HB5.out.size))
              clear hb6
              go_wp2
              go_ret
              exact ⟨rfl, HB6.out⟩
            · skip
              have c4 : ((n:Int) ≤ j) := by omega
              clear hg hn
              have HB0 := Lib.hid (Below.refl w.heap.size w)
              go_enter Tryd.func5, Tryd.ntmps5
              go_wp2_with fail
              refine (HL.out w HB0.out).mono ?_
              rintro e w1 ⟨v1, rfl, hv1, hb1⟩
              have HB1 := Lib.hid (HB0.out.trans (hb1.mono HB0.out.size))
              have A_1 := Lib.hid (hv1)
              clear hb1 hv1
              go_wp2_with fail
              refine (HWo.out v1 w1 A_1.out).mono ?_
              rintro e w' ⟨rfl, rfl⟩
              clear A_1
              go_wp2_with fail
              refine (HL.out w1 HB1.out).mono ?_
              rintro e w2 ⟨v2, rfl, hv2, hb2⟩
              have HB2 := Lib.hid (HB1.out.trans (hb2.mono HB1.out.size))
              have A_2 := Lib.hid (hv2)
              clear hb2 hv2
              go_wp2_with fail
              refine (HOt.out v2 w2 A_2.out).mono ?_
              rintro e w3 ⟨v3, rfl, hv3, hb3⟩
              have HB3 := Lib.hid (HB2.out.trans (hb3.mono HB2.out.size))
              have A_3 := Lib.hid (A_2.out.below hb3 (Nat.le_refl _))
              have Y_3 := Lib.hid (hv3)
              clear hb3 hv3
              clear A_3
              go_wp2_with fail
              refine (HM.out w3 HB3.out).mono ?_
              rintro e w' ⟨rfl, rfl⟩
              go_wp2_with fail
              refine (HRO.out w3 HB3.out).mono ?_
              rintro e w4 ⟨v4, rfl, hv4, hb4⟩
              have HB4 := Lib.hid (HB3.out.trans (hb4.mono HB3.out.size))
              have Y_4 := Lib.hid (Y_3.out.below hb4 (Nat.le_refl _))
              have Z_4 := Lib.hid (hv4)
              clear hb4 hv4
              go_wp2_with fail
              refine (HEq.out v3 v4 w4 Y_4.out Z_4.out).mono ?_
              rintro e w5 ⟨rfl, hb5⟩
              have HB5 := Lib.hid (HB4.out.trans (hb5.mono HB4.out.size))
              have Y_5 := Lib.hid (Y_4.out.below hb5 (Nat.le_refl _))
              have Z_5 := Lib.hid (Z_4.out.below hb5 (Nat.le_refl _))
              clear hb5
              clear Y_5
              clear Z_5
              go_wp2_with fail
              refine (HAw.out w5 HB5.out).mono ?_
              rintro e w6 ⟨rfl, hb6⟩
              have HB6 := Lib.hid (HB5.out.trans (hb6.mono HB5.out.size))
              clear hb6
              go_wp2
              go_ret
              exact ⟨rfl, HB6.out⟩
end Go.Proofs.YtellnklbkjajbaaDoor
