/- SchemesAlone: the walk -/
import Derived.Test.YtdnhfnegnjdeoaaDoorAl
namespace Go.Proofs.YtdnhfnegnjdeoaaDoor
open Go.RowKit

theorem badA_take (xs : List Int) (v : Int) (h : badA xs v = true) : badA (xs.take 20) v = true := by
  unfold badA at h ⊢
  rw [graphB_take]
  cases hg : graphB xs with
  | false => rfl
  | true =>
    obtain ⟨_, h2, _⟩ := of_decide_eq_true hg
    rw [hg] at h
    rw [List.take_of_length_le (by omega)]
    exact h

set_option maxHeartbeats 4000000 in
set_option maxRecDepth 100000 in
theorem alone_bad_law (u : Value) (xs : List Int) (v : Int) (w : World) (h : Ints w u xs) (hT : Tab w) (hbad : badA xs v = true) :
    Calls Tryd.prog 8 #[u, .int .i64 v] w fun e w' => e = .returned (.bool true) ∧ Below w.heap.size w w' := by
  have HL := Lib.hid (fun w' (hb : Below w.heap.size w w') => list_any u xs w' (h.below hb (Nat.le_refl _)))
  have HM := Lib.hid (fun w' (hb : Below w.heap.size w w') => Graph_any u xs w' (h.below hb (Nat.le_refl _)))
  have HAw := Lib.hid (fun w' (hb : Below w.heap.size w w') => awake_any w' (tab_below hT hb))
  have HAl := Lib.hid (fun v' w' (h' : Ints w' v' (xs.take 20)) (hb : Below w.heap.size w w') => Alone_bad v' _ v w' h' (tab_below hT hb) (badA_take xs v hbad))
  obtain ⟨ao, cap, rfl, _, _⟩ := h.open
  clear h hT
  unfold badA at hbad
  cases hs : graphB xs with
  | false =>
    rw [hs] at HM
    clear hs hbad
    have HB0 := Lib.hid (Below.refl w.heap.size w)
    go_enter Tryd.func8, Tryd.ntmps8
    go_wp2_with fail
    refine (HL.out w HB0.out).mono ?_
    rintro e w1 ⟨v1, rfl, hv1, hb1⟩
    have HB1 := Lib.hid (HB0.out.trans (hb1.mono HB0.out.size))
    have A_1 := Lib.hid (hv1)
    clear hb1 hv1
    go_wp2_with fail
    refine (HAl.out v1 w1 A_1.out HB1.out).mono ?_
    rintro e w2 ⟨rfl, hb2⟩
    have HB2 := Lib.hid (HB1.out.trans (hb2.mono HB1.out.size))
    have A_2 := Lib.hid (A_1.out.below hb2 (Nat.le_refl _))
    clear hb2
    clear A_2
    go_wp2_with fail
    refine (HM.out w2 HB2.out).mono ?_
    rintro e w3 ⟨rfl, hb3⟩
    have HB3 := Lib.hid (HB2.out.trans (hb3.mono HB2.out.size))
    clear hb3
    go_wp2_with fail
    refine (HAw.out w3 HB3.out).mono ?_
    rintro e w4 ⟨rfl, hb4⟩
    have HB4 := Lib.hid (HB3.out.trans (hb4.mono HB3.out.size))
    clear hb4
    go_wp2
    go_ret
    exact ⟨rfl, HB4.out⟩
  | true =>
    rw [hs] at HM hbad
    by_cases c1 : v < 0
    · clear hs hbad
      have HB0 := Lib.hid (Below.refl w.heap.size w)
      go_enter Tryd.func8, Tryd.ntmps8
      go_wp2_with fail
      refine (HL.out w HB0.out).mono ?_
      rintro e w1 ⟨v1, rfl, hv1, hb1⟩
      have HB1 := Lib.hid (HB0.out.trans (hb1.mono HB0.out.size))
      have A_1 := Lib.hid (hv1)
      clear hb1 hv1
      go_wp2_with fail
      refine (HAl.out v1 w1 A_1.out HB1.out).mono ?_
      rintro e w2 ⟨rfl, hb2⟩
      have HB2 := Lib.hid (HB1.out.trans (hb2.mono HB1.out.size))
      have A_2 := Lib.hid (A_1.out.below hb2 (Nat.le_refl _))
      clear hb2
      clear A_2
      go_wp2_with fail
      refine (HM.out w2 HB2.out).mono ?_
      rintro e w3 ⟨rfl, hb3⟩
      have HB3 := Lib.hid (HB2.out.trans (hb3.mono HB2.out.size))
      clear hb3
      go_wp2_with fail
      refine (HAw.out w3 HB3.out).mono ?_
      rintro e w4 ⟨rfl, hb4⟩
      have HB4 := Lib.hid (HB3.out.trans (hb4.mono HB3.out.size))
      clear hb4
      go_wp2
      go_ret
      exact ⟨rfl, HB4.out⟩
    · by_cases c2 : (xs.length : Int) ≤ v
      · clear hs hbad
        have HB0 := Lib.hid (Below.refl w.heap.size w)
        go_enter Tryd.func8, Tryd.ntmps8
        go_wp2_with fail
        refine (HL.out w HB0.out).mono ?_
        rintro e w1 ⟨v1, rfl, hv1, hb1⟩
        have HB1 := Lib.hid (HB0.out.trans (hb1.mono HB0.out.size))
        have A_1 := Lib.hid (hv1)
        clear hb1 hv1
        go_wp2_with fail
        refine (HAl.out v1 w1 A_1.out HB1.out).mono ?_
        rintro e w2 ⟨rfl, hb2⟩
        have HB2 := Lib.hid (HB1.out.trans (hb2.mono HB1.out.size))
        have A_2 := Lib.hid (A_1.out.below hb2 (Nat.le_refl _))
        clear hb2
        clear A_2
        go_wp2_with fail
        refine (HM.out w2 HB2.out).mono ?_
        rintro e w3 ⟨rfl, hb3⟩
        have HB3 := Lib.hid (HB2.out.trans (hb3.mono HB2.out.size))
        clear hb3
        go_wp2_with fail
        refine (HAw.out w3 HB3.out).mono ?_
        rintro e w4 ⟨rfl, hb4⟩
        have HB4 := Lib.hid (HB3.out.trans (hb4.mono HB3.out.size))
        clear hb4
        go_wp2
        go_ret
        exact ⟨rfl, HB4.out⟩
      · have c3 : (xs.length : Int) < 2 := by
          rw [decide_eq_true (by omega : 0 ≤ v), decide_eq_true (by omega : v < xs.length)] at hbad
          have : ¬ 2 ≤ xs.length := by simpa using hbad
          omega
        clear hs hbad
        have HB0 := Lib.hid (Below.refl w.heap.size w)
        go_enter Tryd.func8, Tryd.ntmps8
        go_wp2_with fail
        refine (HL.out w HB0.out).mono ?_
        rintro e w1 ⟨v1, rfl, hv1, hb1⟩
        have HB1 := Lib.hid (HB0.out.trans (hb1.mono HB0.out.size))
        have A_1 := Lib.hid (hv1)
        clear hb1 hv1
        go_wp2_with fail
        refine (HAl.out v1 w1 A_1.out HB1.out).mono ?_
        rintro e w2 ⟨rfl, hb2⟩
        have HB2 := Lib.hid (HB1.out.trans (hb2.mono HB1.out.size))
        have A_2 := Lib.hid (A_1.out.below hb2 (Nat.le_refl _))
        clear hb2
        clear A_2
        go_wp2_with fail
        refine (HM.out w2 HB2.out).mono ?_
        rintro e w3 ⟨rfl, hb3⟩
        have HB3 := Lib.hid (HB2.out.trans (hb3.mono HB2.out.size))
        clear hb3
        go_wp2_with fail
        refine (HAw.out w3 HB3.out).mono ?_
        rintro e w4 ⟨rfl, hb4⟩
        have HB4 := Lib.hid (HB3.out.trans (hb4.mono HB3.out.size))
        clear hb4
        go_wp2
        go_ret
        exact ⟨rfl, HB4.out⟩

set_option maxHeartbeats 4000000 in
set_option maxRecDepth 100000 in
theorem alone_good_law (u : Value) (bs : List Nat) (n v : Nat) (w : World) (hg : Gr n bs) (h : Nats w u bs) (hT : Tab w) (hn2 : 2 ≤ n) (hv : v < n) :
    Calls Tryd.prog 8 #[u, .int .i64 v] w fun e w' => e = .returned (.bool true) ∧ Below w.heap.size w w' := by
  have HL := Lib.hid (fun w' (hb : Below w.heap.size w w') => list_any u _ w' (h.below hb (Nat.le_refl _)))
  have HM := Lib.hid (fun w' (hb : Below w.heap.size w w') => Graph_any u _ w' (h.below hb (Nat.le_refl _)))
  have HAw := Lib.hid (fun w' (hb : Below w.heap.size w w') => awake_any w' (tab_below hT hb))
  rw [hg.take] at HL
  rw [graphB_mk hg] at HM
  have HAl := Lib.hid (fun v' w' (h' : Nats w' v' bs) (hb : Below w.heap.size w w') => Alone_any v' bs n v w' hg h' (tab_below hT hb) hn2 hv)
  have HRA := Lib.hid (fun w' (hb' : Below w.heap.size w w') => rAlone_any u bs n v w' hg (h.below hb' (Nat.le_refl _)) hv)
  have HEq := Lib.hid (fun y z w' (h1 : Nats w' y (aloneL n bs v)) (h2 : Nats w' z (aloneL n bs v)) => equal_any y z _ _ w' h1 h2)
  rw [eqB_refl] at HEq
  obtain ⟨ao, cap, rfl, _, _⟩ := hg.open h
  have c1 : ¬ ((v:Int) < 0) := by omega
  have c2 : ¬ ((n:Int) ≤ v) := by omega
  have c3 : ¬ ((n:Int) < 2) := by omega
  clear h hT hg
  have HB0 := Lib.hid (Below.refl w.heap.size w)
  go_enter Tryd.func8, Tryd.ntmps8
  go_wp2_with fail
  refine (HL.out w HB0.out).mono ?_
  rintro e w1 ⟨v1, rfl, hv1, hb1⟩
  have HB1 := Lib.hid (HB0.out.trans (hb1.mono HB0.out.size))
  have A_1 := Lib.hid (hv1)
  clear hb1 hv1
  go_wp2_with fail
  refine (HAl.out v1 w1 A_1.out HB1.out).mono ?_
  rintro e w2 ⟨v2, rfl, hv2, hb2⟩
  have HB2 := Lib.hid (HB1.out.trans (hb2.mono HB1.out.size))
  have A_2 := Lib.hid (A_1.out.below hb2 (Nat.le_refl _))
  have X_2 := Lib.hid (hv2)
  clear hb2 hv2
  clear A_2
  go_wp2_with fail
  refine (HM.out w2 HB2.out).mono ?_
  rintro e w3 ⟨rfl, hb3⟩
  have HB3 := Lib.hid (HB2.out.trans (hb3.mono HB2.out.size))
  have X_3 := Lib.hid (X_2.out.below hb3 (Nat.le_refl _))
  clear hb3
  go_wp2_with fail
  refine (HRA.out w3 HB3.out).mono ?_
  rintro e w4 ⟨v4, rfl, hv4, hb4⟩
  have HB4 := Lib.hid (HB3.out.trans (hb4.mono HB3.out.size))
  have X_4 := Lib.hid (X_3.out.below hb4 (Nat.le_refl _))
  have Y_4 := Lib.hid (hv4)
  clear hb4 hv4
  go_wp2_with fail
  refine (HEq.out v2 v4 w4 X_4.out Y_4.out).mono ?_
  rintro e w5 ⟨rfl, hb5⟩
  have HB5 := Lib.hid (HB4.out.trans (hb5.mono HB4.out.size))
  have X_5 := Lib.hid (X_4.out.below hb5 (Nat.le_refl _))
  have Y_5 := Lib.hid (Y_4.out.below hb5 (Nat.le_refl _))
  clear hb5
  clear X_5
  clear Y_5
  go_wp2_with fail
  refine (HAw.out w5 HB5.out).mono ?_
  rintro e w6 ⟨rfl, hb6⟩
  have HB6 := Lib.hid (HB5.out.trans (hb6.mono HB5.out.size))
  clear hb6
  go_wp2
  go_ret
  exact ⟨rfl, HB6.out⟩

theorem schemesAlone_law (u : Value) (xs : List Int) (v : Int) (w : World) (h : Ints w u xs) (hT : Tab w) :
    Calls Tryd.prog 8 #[u, .int .i64 v] w fun e w' => e = .returned (.bool true) ∧ Below w.heap.size w w' := by
  cases hb : badA xs v with
  | true => exact alone_bad_law u xs v w h hT hb
  | false =>
    unfold badA at hb
    simp only [Bool.not_eq_false', Bool.and_eq_true, decide_eq_true_eq] at hb
    obtain ⟨⟨⟨hs, h2⟩, h3⟩, h4⟩ := hb
    obtain ⟨bs, rfl, hg⟩ := graphB_of hs
    obtain ⟨t, rfl⟩ : ∃ t : Nat, v = t := ⟨v.toNat, by omega⟩
    exact alone_good_law u bs _ t w hg h hT h2 (by omega)
end Go.Proofs.YtdnhfnegnjdeoaaDoor
