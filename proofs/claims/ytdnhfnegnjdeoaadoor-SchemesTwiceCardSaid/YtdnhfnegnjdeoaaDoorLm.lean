/- SchemesSame: the walk -/
import Derived.Test.YtdnhfnegnjdeoaaDoorSa2
namespace Go.Proofs.YtdnhfnegnjdeoaaDoor
open Go.RowKit

theorem sameV_form (n : Nat) (bs cs : List Nat) : ∃ a e : Int, sameV n bs cs = .tuple #[.int .i64 a, .int .i64 e] := by
  unfold sameV
  split
  · exact ⟨_, _, rfl⟩
  · exact ⟨_, _, rfl⟩

set_option maxHeartbeats 4000000 in
set_option maxRecDepth 100000 in
theorem same_good (v u : Value) (bs cs : List Nat) (n : Nat) (w : World) (hg : Gr n bs) (h : Nats w v bs) (hg2 : Gr n cs) (h' : Nats w u cs) (hT : Tab w) :
    Calls Tryd.prog 7 #[v, u] w fun e w' => e = .returned (.bool true) ∧ Below w.heap.size w w' := by
  have HL := Lib.hid (fun w' (hb : Below w.heap.size w w') => list_any v _ w' (h.below hb (Nat.le_refl _)))
  have HK := Lib.hid (fun w' (hb : Below w.heap.size w w') => list_any u _ w' (h'.below hb (Nat.le_refl _)))
  have HM := Lib.hid (fun w' (hb : Below w.heap.size w w') => Graph_any v _ w' (h.below hb (Nat.le_refl _)))
  have HM2 := Lib.hid (fun w' (hb : Below w.heap.size w w') => Graph_any u _ w' (h'.below hb (Nat.le_refl _)))
  have HAw := Lib.hid (fun w' (hb : Below w.heap.size w w') => awake_any w' (tab_below hT hb))
  rw [hg.take] at HL
  rw [hg2.take] at HK
  rw [graphB_mk hg] at HM
  rw [graphB_mk hg2] at HM2
  obtain ⟨a, f, hv⟩ := sameV_form n bs cs
  have HSm := Lib.hid (fun v' u' w' (h1 : Nats w' v' bs) (h2 : Nats w' u' cs) (hb : Below w.heap.size w w') => Same_any v' u' bs cs n w' hg h1 hg2 h2 (tab_below hT hb))
  rw [hv] at HSm
  have HRS := Lib.hid (fun w' (hb : Below w.heap.size w w') => rSame_any _ _ bs cs n w' hg (h.below hb (Nat.le_refl _)) hg2 (h'.below hb (Nat.le_refl _)))
  rw [hv] at HRS
  obtain ⟨ao, cap, rfl, _, _⟩ := hg.open h
  obtain ⟨ao', cap', rfl, _, _⟩ := hg2.open h'
  clear h h' hT hv hg hg2
  have HB0 := Lib.hid (Below.refl w.heap.size w)
  go_enter Tryd.func7, Tryd.ntmps7
  go_wp2_with fail
  refine (HL.out w HB0.out).mono ?_
  rintro e w1 ⟨v1, rfl, hv1, hb1⟩
  have HB1 := Lib.hid (HB0.out.trans (hb1.mono HB0.out.size))
  have A_1 := Lib.hid (hv1)
  clear hb1 hv1
  go_wp2_with fail
  refine (HK.out w1 HB1.out).mono ?_
  rintro e w2 ⟨v2, rfl, hv2, hb2⟩
  have HB2 := Lib.hid (HB1.out.trans (hb2.mono HB1.out.size))
  have A_2 := Lib.hid (A_1.out.below hb2 (Nat.le_refl _))
  have B_2 := Lib.hid (hv2)
  clear hb2 hv2
  go_wp2_with fail
  refine (HSm.out v1 v2 w2 A_2.out B_2.out HB2.out).mono ?_
  rintro e w3 ⟨rfl, hb3⟩
  have HB3 := Lib.hid (HB2.out.trans (hb3.mono HB2.out.size))
  have A_3 := Lib.hid (A_2.out.below hb3 (Nat.le_refl _))
  have B_3 := Lib.hid (B_2.out.below hb3 (Nat.le_refl _))
  clear hb3
  clear A_3
  clear B_3
  go_wp2_with fail
  refine (HM.out w3 HB3.out).mono ?_
  rintro e w4 ⟨rfl, hb4⟩
  have HB4 := Lib.hid (HB3.out.trans (hb4.mono HB3.out.size))
  clear hb4
  go_wp2_with fail
  refine (HM2.out w4 HB4.out).mono ?_
  rintro e w5 ⟨rfl, hb5⟩
  have HB5 := Lib.hid (HB4.out.trans (hb5.mono HB4.out.size))
  clear hb5
  go_wp2_with fail
  refine (HRS.out w5 HB5.out).mono ?_
  rintro e w6 ⟨rfl, hb6⟩
  have HB6 := Lib.hid (HB5.out.trans (hb6.mono HB5.out.size))
  clear hb6
  go_wp2_with fail
  refine (HAw.out w6 HB6.out).mono ?_
  rintro e w7 ⟨rfl, hb7⟩
  have HB7 := Lib.hid (HB6.out.trans (hb7.mono HB6.out.size))
  clear hb7
  go_wp2
  go_ret
  exact ⟨rfl, HB7.out⟩

set_option maxHeartbeats 4000000 in
set_option maxRecDepth 100000 in
theorem schemesSame_law (v u : Value) (xs ys : List Int) (w : World) (h : Ints w v xs) (h' : Ints w u ys) (hT : Tab w) :
    Calls Tryd.prog 7 #[v, u] w fun e w' => e = .returned (.bool true) ∧ Below w.heap.size w w' := by
  have HL := Lib.hid (fun w' (hb : Below w.heap.size w w') => list_any v xs w' (h.below hb (Nat.le_refl _)))
  have HK := Lib.hid (fun w' (hb : Below w.heap.size w w') => list_any u ys w' (h'.below hb (Nat.le_refl _)))
  have HM := Lib.hid (fun w' (hb : Below w.heap.size w w') => Graph_any v xs w' (h.below hb (Nat.le_refl _)))
  have HM2 := Lib.hid (fun w' (hb : Below w.heap.size w w') => Graph_any u ys w' (h'.below hb (Nat.le_refl _)))
  have HAw := Lib.hid (fun w' (hb : Below w.heap.size w w') => awake_any w' (tab_below hT hb))
  have HBAD := Lib.hid (fun (hg : graphB xs = false ∨ graphB ys = false ∨ (xs.take 20).length ≠ (ys.take 20).length) v' u' w' (h1 : Ints w' v' (xs.take 20)) (h2 : Ints w' u' (ys.take 20)) (hb : Below w.heap.size w w') =>
    Same_bad v' u' _ _ w' h1 h2 (by rw [graphB_take, graphB_take]; exact hg) (tab_below hT hb))
  cases hs : graphB xs with
  | false =>
    have HSm := Lib.hid (HBAD.out (.inl hs))
    rw [hs] at HM
    clear hs h h' hT HBAD HM2
    have HB0 := Lib.hid (Below.refl w.heap.size w)
    go_enter Tryd.func7, Tryd.ntmps7
    go_wp2_with fail
    refine (HL.out w HB0.out).mono ?_
    rintro e w1 ⟨v1, rfl, hv1, hb1⟩
    have HB1 := Lib.hid (HB0.out.trans (hb1.mono HB0.out.size))
    have A_1 := Lib.hid (hv1)
    clear hb1 hv1
    go_wp2_with fail
    refine (HK.out w1 HB1.out).mono ?_
    rintro e w2 ⟨v2, rfl, hv2, hb2⟩
    have HB2 := Lib.hid (HB1.out.trans (hb2.mono HB1.out.size))
    have A_2 := Lib.hid (A_1.out.below hb2 (Nat.le_refl _))
    have B_2 := Lib.hid (hv2)
    clear hb2 hv2
    go_wp2_with fail
    refine (HSm.out v1 v2 w2 A_2.out B_2.out HB2.out).mono ?_
    rintro e w3 ⟨rfl, hb3⟩
    have HB3 := Lib.hid (HB2.out.trans (hb3.mono HB2.out.size))
    have A_3 := Lib.hid (A_2.out.below hb3 (Nat.le_refl _))
    have B_3 := Lib.hid (B_2.out.below hb3 (Nat.le_refl _))
    clear hb3
    clear A_3
    clear B_3
    go_wp2_with fail
    refine (HM.out w3 HB3.out).mono ?_
    rintro e w4 ⟨rfl, hb4⟩
    have HB4 := Lib.hid (HB3.out.trans (hb4.mono HB3.out.size))
    clear hb4
    go_wp2_with fail
    refine (HAw.out w4 HB4.out).mono ?_
    rintro e w5 ⟨rfl, hb5⟩
    have HB5 := Lib.hid (HB4.out.trans (hb5.mono HB4.out.size))
    clear hb5
    go_wp2
    go_ret
    exact ⟨rfl, HB5.out⟩
  | true =>
    rw [hs] at HM
    cases hs2 : graphB ys with
    | false =>
      have HSm := Lib.hid (HBAD.out (.inr (.inl hs2)))
      rw [hs2] at HM2
      clear hs hs2 h h' hT HBAD
      have HB0 := Lib.hid (Below.refl w.heap.size w)
      go_enter Tryd.func7, Tryd.ntmps7
      go_wp2_with fail
      refine (HL.out w HB0.out).mono ?_
      rintro e w1 ⟨v1, rfl, hv1, hb1⟩
      have HB1 := Lib.hid (HB0.out.trans (hb1.mono HB0.out.size))
      have A_1 := Lib.hid (hv1)
      clear hb1 hv1
      go_wp2_with fail
      refine (HK.out w1 HB1.out).mono ?_
      rintro e w2 ⟨v2, rfl, hv2, hb2⟩
      have HB2 := Lib.hid (HB1.out.trans (hb2.mono HB1.out.size))
      have A_2 := Lib.hid (A_1.out.below hb2 (Nat.le_refl _))
      have B_2 := Lib.hid (hv2)
      clear hb2 hv2
      go_wp2_with fail
      refine (HSm.out v1 v2 w2 A_2.out B_2.out HB2.out).mono ?_
      rintro e w3 ⟨rfl, hb3⟩
      have HB3 := Lib.hid (HB2.out.trans (hb3.mono HB2.out.size))
      have A_3 := Lib.hid (A_2.out.below hb3 (Nat.le_refl _))
      have B_3 := Lib.hid (B_2.out.below hb3 (Nat.le_refl _))
      clear hb3
      clear A_3
      clear B_3
      go_wp2_with fail
      refine (HM.out w3 HB3.out).mono ?_
      rintro e w4 ⟨rfl, hb4⟩
      have HB4 := Lib.hid (HB3.out.trans (hb4.mono HB3.out.size))
      clear hb4
      go_wp2_with fail
      refine (HM2.out w4 HB4.out).mono ?_
      rintro e w5 ⟨rfl, hb5⟩
      have HB5 := Lib.hid (HB4.out.trans (hb5.mono HB4.out.size))
      clear hb5
      go_wp2_with fail
      refine (HAw.out w5 HB5.out).mono ?_
      rintro e w6 ⟨rfl, hb6⟩
      have HB6 := Lib.hid (HB5.out.trans (hb6.mono HB5.out.size))
      clear hb6
      go_wp2
      go_ret
      exact ⟨rfl, HB6.out⟩
    | true =>
      rw [hs2] at HM2
      obtain ⟨ao, cap, rfl, _, _⟩ := h.open
      obtain ⟨ao', cap', rfl, _, _⟩ := h'.open
      by_cases hl : xs.length = ys.length
      · obtain ⟨bs, rfl, hg⟩ := graphB_of hs
        obtain ⟨cs, rfl, hg2⟩ := graphB_of hs2
        rw [← hl] at hg2
        exact same_good _ _ bs cs _ w hg h hg2 h' hT
      · have hlt : (xs.take 20).length ≠ (ys.take 20).length := by
          obtain ⟨_, h1, _⟩ := of_decide_eq_true hs
          obtain ⟨_, h2, _⟩ := of_decide_eq_true hs2
          rw [List.length_take, List.length_take]; omega
        have HSm := Lib.hid (HBAD.out (.inr (.inr hlt)))
        have hne : ((xs.length : Int) != (ys.length : Int)) = true := by simp; omega
        clear hs hs2 h h' hT HBAD hl hlt
        have HB0 := Lib.hid (Below.refl w.heap.size w)
        go_enter Tryd.func7, Tryd.ntmps7
        go_wp2_with fail
        refine (HL.out w HB0.out).mono ?_
        rintro e w1 ⟨v1, rfl, hv1, hb1⟩
        have HB1 := Lib.hid (HB0.out.trans (hb1.mono HB0.out.size))
        have A_1 := Lib.hid (hv1)
        clear hb1 hv1
        go_wp2_with fail
        refine (HK.out w1 HB1.out).mono ?_
        rintro e w2 ⟨v2, rfl, hv2, hb2⟩
        have HB2 := Lib.hid (HB1.out.trans (hb2.mono HB1.out.size))
        have A_2 := Lib.hid (A_1.out.below hb2 (Nat.le_refl _))
        have B_2 := Lib.hid (hv2)
        clear hb2 hv2
        go_wp2_with fail
        refine (HSm.out v1 v2 w2 A_2.out B_2.out HB2.out).mono ?_
        rintro e w3 ⟨rfl, hb3⟩
        have HB3 := Lib.hid (HB2.out.trans (hb3.mono HB2.out.size))
        have A_3 := Lib.hid (A_2.out.below hb3 (Nat.le_refl _))
        have B_3 := Lib.hid (B_2.out.below hb3 (Nat.le_refl _))
        clear hb3
        clear A_3
        clear B_3
        go_wp2_with fail
        refine (HM.out w3 HB3.out).mono ?_
        rintro e w4 ⟨rfl, hb4⟩
        have HB4 := Lib.hid (HB3.out.trans (hb4.mono HB3.out.size))
        clear hb4
        go_wp2_with fail
        refine (HM2.out w4 HB4.out).mono ?_
        rintro e w5 ⟨rfl, hb5⟩
        have HB5 := Lib.hid (HB4.out.trans (hb5.mono HB4.out.size))
        clear hb5
        go_wp2_with fail
        refine (HAw.out w5 HB5.out).mono ?_
        rintro e w6 ⟨rfl, hb6⟩
        have HB6 := Lib.hid (HB5.out.trans (hb6.mono HB5.out.size))
        clear hb6
        go_wp2
        go_ret
        exact ⟨rfl, HB6.out⟩
end Go.Proofs.YtdnhfnegnjdeoaaDoor
