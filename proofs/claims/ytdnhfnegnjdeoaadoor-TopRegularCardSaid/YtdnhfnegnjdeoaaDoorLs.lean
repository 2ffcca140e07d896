/- SchemesSwitches: the walk -/
import Derived.Test.YtdnhfnegnjdeoaaDoorOd
namespace Go.Proofs.YtdnhfnegnjdeoaaDoor
open Go.RowKit

set_option maxHeartbeats 4000000 in
set_option maxRecDepth 100000 in
theorem schemesSwitches_law (v : Value) (xs : List Int) (s : Int) (w : World) (h : Ints w v xs) (hT : Tab w) :
    Calls Tryd.prog 6 #[v, .int .i64 s] w fun e w' => e = .returned (.bool true) ∧ Below w.heap.size w w' := by
  have HL := Lib.hid (fun w' (hb : Below w.heap.size w w') => list_any v xs w' (h.below hb (Nat.le_refl _)))
  have HM := Lib.hid (fun w' (hb : Below w.heap.size w w') => Graph_any v xs w' (h.below hb (Nat.le_refl _)))
  have HAw := Lib.hid (fun w' (hb : Below w.heap.size w w') => awake_any w' (tab_below hT hb))
  cases hs : graphB xs with
  | false =>
    have ht : graphB (xs.take 20) = false := by rw [graphB_take, hs]
    have HSw := Lib.hid (fun v' w' (h' : Ints w' v' (xs.take 20)) (hb : Below w.heap.size w w') => Switch_bad v' _ s w' h' (.inl ht) (tab_below hT hb))
    have HOd := Lib.hid (fun v' w' (h' : Ints w' v' (xs.take 20)) (hb : Below w.heap.size w w') => Odd_bad v' _ w' h' ht (tab_below hT hb))
    rw [hs] at HM
    clear hs h hT ht
    have HB0 := Lib.hid (Below.refl w.heap.size w)
    go_enter Tryd.func6, Tryd.ntmps6
    go_wp2_with fail
    refine (HL.out w HB0.out).mono ?_
    rintro e w1 ⟨v1, rfl, hv1, hb1⟩
    have HB1 := Lib.hid (HB0.out.trans (hb1.mono HB0.out.size))
    have A_1 := Lib.hid (hv1)
    clear hb1 hv1
    go_wp2_with fail
    refine (HSw.out v1 w1 A_1.out HB1.out).mono ?_
    rintro e w2 ⟨rfl, hb2⟩
    have HB2 := Lib.hid (HB1.out.trans (hb2.mono HB1.out.size))
    have A_2 := Lib.hid (A_1.out.below hb2 (Nat.le_refl _))
    clear hb2
    clear A_2
    go_wp2_with fail
    refine (HL.out w2 HB2.out).mono ?_
    rintro e w3 ⟨v3, rfl, hv3, hb3⟩
    have HB3 := Lib.hid (HB2.out.trans (hb3.mono HB2.out.size))
    have A_3 := Lib.hid (hv3)
    clear hb3 hv3
    go_wp2_with fail
    refine (HOd.out v3 w3 A_3.out HB3.out).mono ?_
    rintro e w4 ⟨rfl, hb4⟩
    have HB4 := Lib.hid (HB3.out.trans (hb4.mono HB3.out.size))
    have A_4 := Lib.hid (A_3.out.below hb4 (Nat.le_refl _))
    clear hb4
    clear A_4
    go_wp2_with fail
    refine (HM.out w4 HB4.out).mono ?_
    rintro e w5 ⟨rfl, hb5⟩
    have HB5 := Lib.hid (HB4.out.trans (hb5.mono HB4.out.size))
    clear hb5
    go_wp2_with fail
    refine (HAw.out w5 HB5.out).mono ?_
    rintro e w6 ⟨rfl, hb6⟩
    have HB6 := Lib.hid (HB5.out.trans (hb6.mono HB5.out.size))
    clear hb6
    go_wp2
    go_ret
    exact ⟨rfl, HB6.out⟩
  | true =>
    obtain ⟨bs, rfl, hg⟩ := graphB_of hs
    rw [nats_length] at hg
    obtain ⟨n, hn⟩ : ∃ n, n = bs.length := ⟨_, rfl⟩
    rw [← hn] at hg
    have hlen : (nats bs).length = n := by rw [nats_length, hn]
    rw [hg.take] at HL
    rw [hs] at HM
    have HOd := Lib.hid (fun v' w' (h' : Nats w' v' bs) (hb : Below w.heap.size w w') => Odd_any v' bs n w' hg h' (tab_below hT hb))
    have HRO := Lib.hid (fun w' (hb' : Below w.heap.size w w') => rOdd_any v bs n w' hg (h.below hb' (Nat.le_refl _)))
    have hle := hg.le
    have hwp := wrap_pw n hle
    have hpn := pw_bd n hle
    by_cases hz : 0 ≤ s ∧ s < 2 ^ n
    · obtain ⟨hz1, hz2⟩ := hz
      obtain ⟨t, rfl⟩ : ∃ t : Nat, s = t := ⟨s.toNat, by omega⟩
      have ht : t < 2 ^ n := by rw [← pw_cast] at hz2; exact Int.ofNat_lt.1 hz2
      have HSw := Lib.hid (fun v' w' (h' : Nats w' v' bs) (hb : Below w.heap.size w w') => Switch_any v' bs n t w' hg h' ht (tab_below hT hb))
      have HRS := Lib.hid (fun w' (hb' : Below w.heap.size w w') => rSwitch_any v bs n t w' hg (h.below hb' (Nat.le_refl _)) ht)
      have HEq := Lib.hid (fun y z w' (h1 : Nats w' y (swL n bs t)) (h2 : Nats w' z (swL n bs t)) => equal_any y z _ _ w' h1 h2)
      rw [eqB_refl] at HEq
      obtain ⟨ao, cap, rfl, _, _⟩ := hg.open h
      have q1 : ¬ ((t:Int) < 0) := by omega
      have q2 : ¬ ((2:Int) ^ n ≤ (t:Int)) := by omega
      clear hs h hg hT hn ht hz1 hz2 hlen hpn
      have HB0 := Lib.hid (Below.refl w.heap.size w)
      go_enter Tryd.func6, Tryd.ntmps6
      go_wp2_with fail
      refine (HL.out w HB0.out).mono ?_
      rintro e w1 ⟨v1, rfl, hv1, hb1⟩
      have HB1 := Lib.hid (HB0.out.trans (hb1.mono HB0.out.size))
      have A_1 := Lib.hid (hv1)
      clear hb1 hv1
      go_wp2_with fail
      refine (HSw.out v1 w1 A_1.out HB1.out).mono ?_
      rintro e w2 ⟨v2, rfl, hv2, hb2⟩
      have HB2 := Lib.hid (HB1.out.trans (hb2.mono HB1.out.size))
      have A_2 := Lib.hid (A_1.out.below hb2 (Nat.le_refl _))
      have X_2 := Lib.hid (hv2)
      clear hb2 hv2
      clear A_2
      go_wp2_with fail
      refine (HL.out w2 HB2.out).mono ?_
      rintro e w3 ⟨v3, rfl, hv3, hb3⟩
      have HB3 := Lib.hid (HB2.out.trans (hb3.mono HB2.out.size))
      have X_3 := Lib.hid (X_2.out.below hb3 (Nat.le_refl _))
      have A_3 := Lib.hid (hv3)
      clear hb3 hv3
      go_wp2_with fail
      refine (HOd.out v3 w3 A_3.out HB3.out).mono ?_
      rintro e w4 ⟨rfl, hb4⟩
      have HB4 := Lib.hid (HB3.out.trans (hb4.mono HB3.out.size))
      have X_4 := Lib.hid (X_3.out.below hb4 (Nat.le_refl _))
      have A_4 := Lib.hid (A_3.out.below hb4 (Nat.le_refl _))
      clear hb4
      clear A_4
      go_wp2_with fail
      refine (HM.out w4 HB4.out).mono ?_
      rintro e w5 ⟨rfl, hb5⟩
      have HB5 := Lib.hid (HB4.out.trans (hb5.mono HB4.out.size))
      have X_5 := Lib.hid (X_4.out.below hb5 (Nat.le_refl _))
      clear hb5
      go_wp2_with fail
      refine (HRO.out w5 HB5.out).mono ?_
      rintro e w6 ⟨rfl, hb6⟩
      have HB6 := Lib.hid (HB5.out.trans (hb6.mono HB5.out.size))
      have X_6 := Lib.hid (X_5.out.below hb6 (Nat.le_refl _))
      clear hb6
      go_wp2_with fail
      refine (HAw.out w6 HB6.out).mono ?_
      rintro e w7 ⟨rfl, hb7⟩
      have HB7 := Lib.hid (HB6.out.trans (hb7.mono HB6.out.size))
      have X_7 := Lib.hid (X_6.out.below hb7 (Nat.le_refl _))
      clear hb7
      go_wp2_with fail
      refine (HRS.out w7 HB7.out).mono ?_
      rintro e w8 ⟨aoY, cY, rfl, hv8, hb8⟩
      have HB8 := Lib.hid (HB7.out.trans (hb8.mono HB7.out.size))
      have X_8 := Lib.hid (X_7.out.below hb8 (Nat.le_refl _))
      have Y_8 := Lib.hid hv8
      clear hb8 hv8
      go_wp2_with fail
      refine (HEq.out v2 _ w8 X_8.out Y_8.out).mono ?_
      rintro e w9 ⟨rfl, hb9⟩
      have HB9 := Lib.hid (HB8.out.trans (hb9.mono HB8.out.size))
      have X_9 := Lib.hid (X_8.out.below hb9 (Nat.le_refl _))
      have Y_9 := Lib.hid (Y_8.out.below hb9 (Nat.le_refl _))
      clear hb9
      go_wp2
      go_ret
      exact ⟨rfl, HB9.out⟩
    · have hb : setB s (nats bs).length = false := by rw [hlen]; exact decide_eq_false hz
      have HSw := Lib.hid (fun v' w' (h' : Nats w' v' bs) (hb' : Below w.heap.size w w') => Switch_bad v' _ s w' h' (.inr hb) (tab_below hT hb'))
      obtain ⟨ao, cap, rfl, _, _⟩ := hg.open h
      clear hs h hg hT hn hlen hb hpn
      by_cases q1 : s < 0
      · clear hz
        have HB0 := Lib.hid (Below.refl w.heap.size w)
        go_enter Tryd.func6, Tryd.ntmps6
        go_wp2_with fail
        refine (HL.out w HB0.out).mono ?_
        rintro e w1 ⟨v1, rfl, hv1, hb1⟩
        have HB1 := Lib.hid (HB0.out.trans (hb1.mono HB0.out.size))
        have A_1 := Lib.hid (hv1)
        clear hb1 hv1
        go_wp2_with fail
        refine (HSw.out v1 w1 A_1.out HB1.out).mono ?_
        rintro e w2 ⟨rfl, hb2⟩
        have HB2 := Lib.hid (HB1.out.trans (hb2.mono HB1.out.size))
        have A_2 := Lib.hid (A_1.out.below hb2 (Nat.le_refl _))
        clear hb2
        clear A_2
        go_wp2_with fail
        refine (HL.out w2 HB2.out).mono ?_
        rintro e w3 ⟨v3, rfl, hv3, hb3⟩
        have HB3 := Lib.hid (HB2.out.trans (hb3.mono HB2.out.size))
        have A_3 := Lib.hid (hv3)
        clear hb3 hv3
        go_wp2_with fail
        refine (HOd.out v3 w3 A_3.out HB3.out).mono ?_
        rintro e w4 ⟨rfl, hb4⟩
        have HB4 := Lib.hid (HB3.out.trans (hb4.mono HB3.out.size))
        have A_4 := Lib.hid (A_3.out.below hb4 (Nat.le_refl _))
        clear hb4
        clear A_4
        go_wp2_with fail
        refine (HM.out w4 HB4.out).mono ?_
        rintro e w5 ⟨rfl, hb5⟩
        have HB5 := Lib.hid (HB4.out.trans (hb5.mono HB4.out.size))
        clear hb5
        go_wp2_with fail
        refine (HRO.out w5 HB5.out).mono ?_
        rintro e w6 ⟨rfl, hb6⟩
        have HB6 := Lib.hid (HB5.out.trans (hb6.mono HB5.out.size))
        clear hb6
        go_wp2_with fail
        refine (HAw.out w6 HB6.out).mono ?_
        rintro e w7 ⟨rfl, hb7⟩
        have HB7 := Lib.hid (HB6.out.trans (hb7.mono HB6.out.size))
        clear hb7
        go_wp2
        go_ret
        exact ⟨rfl, HB7.out⟩
      · have q2 : (2:Int) ^ n ≤ s := by omega
        clear hz
        have HB0 := Lib.hid (Below.refl w.heap.size w)
        go_enter Tryd.func6, Tryd.ntmps6
        go_wp2_with fail
        refine (HL.out w HB0.out).mono ?_
        rintro e w1 ⟨v1, rfl, hv1, hb1⟩
        have HB1 := Lib.hid (HB0.out.trans (hb1.mono HB0.out.size))
        have A_1 := Lib.hid (hv1)
        clear hb1 hv1
        go_wp2_with fail
        refine (HSw.out v1 w1 A_1.out HB1.out).mono ?_
        rintro e w2 ⟨rfl, hb2⟩
        have HB2 := Lib.hid (HB1.out.trans (hb2.mono HB1.out.size))
        have A_2 := Lib.hid (A_1.out.below hb2 (Nat.le_refl _))
        clear hb2
        clear A_2
        go_wp2_with fail
        refine (HL.out w2 HB2.out).mono ?_
        rintro e w3 ⟨v3, rfl, hv3, hb3⟩
        have HB3 := Lib.hid (HB2.out.trans (hb3.mono HB2.out.size))
        have A_3 := Lib.hid (hv3)
        clear hb3 hv3
        go_wp2_with fail
        refine (HOd.out v3 w3 A_3.out HB3.out).mono ?_
        rintro e w4 ⟨rfl, hb4⟩
        have HB4 := Lib.hid (HB3.out.trans (hb4.mono HB3.out.size))
        have A_4 := Lib.hid (A_3.out.below hb4 (Nat.le_refl _))
        clear hb4
        clear A_4
        go_wp2_with fail
        refine (HM.out w4 HB4.out).mono ?_
        rintro e w5 ⟨rfl, hb5⟩
        have HB5 := Lib.hid (HB4.out.trans (hb5.mono HB4.out.size))
        clear hb5
        go_wp2_with fail
        refine (HRO.out w5 HB5.out).mono ?_
        rintro e w6 ⟨rfl, hb6⟩
        have HB6 := Lib.hid (HB5.out.trans (hb6.mono HB5.out.size))
        clear hb6
        go_wp2_with fail
        refine (HAw.out w6 HB6.out).mono ?_
        rintro e w7 ⟨rfl, hb7⟩
        have HB7 := Lib.hid (HB6.out.trans (hb7.mono HB6.out.size))
        clear hb7
        go_wp2
        go_ret
        exact ⟨rfl, HB7.out⟩
end Go.Proofs.YtdnhfnegnjdeoaaDoor
