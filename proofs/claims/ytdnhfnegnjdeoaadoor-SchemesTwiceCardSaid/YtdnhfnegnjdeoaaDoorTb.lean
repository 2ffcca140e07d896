/- SchemesTwice: both graphs, the set bad -/
import Derived.Test.YtdnhfnegnjdeoaaDoorFt
namespace Go.Proofs.YtdnhfnegnjdeoaaDoor
open Go.RowKit

set_option maxHeartbeats 4000000 in
set_option maxRecDepth 100000 in
theorem twice_same_bad (v u : Value) (bs cs : List Nat) (n : Nat) (s : Int) (w : World) (hg : Gr n bs) (h : Nats w v bs) (hg2 : Gr n cs) (h' : Nats w u cs) (hT : Tab w) (hz : setB s n = false) (he : swL n bs (setOf n bs cs) = cs) :
    Calls Tryd.prog 13 #[v, u, .int .i64 s] w fun e w' => e = .returned (.bool true) ∧ Below w.heap.size w w' := by
  have HL := Lib.hid (fun w' (hb : Below w.heap.size w w') => list_any v _ w' (h.below hb (Nat.le_refl _)))
  have HK := Lib.hid (fun w' (hb : Below w.heap.size w w') => list_any u _ w' (h'.below hb (Nat.le_refl _)))
  have HAw := Lib.hid (fun w' (hb : Below w.heap.size w w') => awake_any w' (tab_below hT hb))
  rw [hg.take] at HL
  rw [hg2.take] at HK
  have HM := Lib.hid (fun w' (hb : Below w.heap.size w w') => Graph_any v _ w' (h.below hb (Nat.le_refl _)))
  have HM2 := Lib.hid (fun w' (hb : Below w.heap.size w w') => Graph_any u _ w' (h'.below hb (Nat.le_refl _)))
  rw [graphB_mk hg] at HM
  rw [graphB_mk hg2] at HM2
  have HODG := Lib.hid (fun i j k w' (hb' : Below w.heap.size w w') (hi : i < n) (hj : j < n) (hk : k < n) => isOdd54_any v bs n i j k w' hg (h.below hb' (Nat.le_refl _)) hi hj hk)
  have HODH := Lib.hid (fun i j k w' (hb' : Below w.heap.size w w') (hi : i < n) (hj : j < n) (hk : k < n) => isOdd54_any u cs n i j k w' hg2 (h'.below hb' (Nat.le_refl _)) hi hj hk)
  have HSm := Lib.hid (fun v' u' w' (h1 : Nats w' v' bs) (h2 : Nats w' u' cs) (hb : Below w.heap.size w w') => Same_any v' u' bs cs n w' hg h1 hg2 h2 (tab_below hT hb))
  rw [sameV_yes he] at HSm
  have HF : Hid (fI bs cs n = true) := (fI_same hg hg2).2 he
  have HSwS := Lib.hid (fun v' w' (h' : Nats w' v' bs) (hb : Below w.heap.size w w') => Switch_any v' bs n (setOf n bs cs) w' hg h' (setOf_lt hg hg2) (tab_below hT hb))
  rw [he] at HSwS
  have HEqh := Lib.hid (fun y w' (h1 : Nats w' y cs) (hb : Below w.heap.size w w') => equal_any y u _ _ w' h1 (h'.below hb (Nat.le_refl _)))
  rw [eqB_refl] at HEqh
  have hand := last_and hg hg2
  have hpos := hg.pos
  have hle := hg.le
  obtain ⟨l, hl⟩ : ∃ l, l = n - 1 := ⟨_, rfl⟩
  rw [← hl] at hand
  have hlc : (n:Int) - 1 = (l:Int) := by omega
  have hwl := wrap_pw l (by omega)
  have hl16 : l ≤ 16 := by omega
  have hlen : (nats bs).length = n := by rw [nats_length, hg.len]
  have HSwB := Lib.hid (fun v' w' (h' : Nats w' v' bs) (hb : Below w.heap.size w w') => Switch_bad v' _ s w' h' (.inr (by rw [hlen]; exact hz)) (tab_below hT hb))
  obtain ⟨ao, cap, rfl, _, _⟩ := hg.open h
  obtain ⟨ao', cap', rfl, _, _⟩ := hg2.open h'
  clear h h' hT hg hg2 he hz hlen hl
  generalize setOf n bs cs = ss at *
  have HB0 := Lib.hid (Below.refl w.heap.size w)
  go_enter Tryd.func13, Tryd.ntmps13
  go_wp2_with fail
  refine (HL.out w HB0.out).mono ?_
  rintro e w1 ⟨v1, rfl, hv1, hb1⟩
  have HB1 := Lib.hid (HB0.out.trans (hb1.mono HB0.out.size))
  have A_1 := Lib.hid (hv1)
  clear hb1 hv1
  go_wp2_with fail
  refine (HSwB.out v1 w1 A_1.out HB1.out).mono ?_
  rintro e w2 ⟨rfl, hb2⟩
  have HB2 := Lib.hid (HB1.out.trans (hb2.mono HB1.out.size))
  have A_2 := Lib.hid (A_1.out.below hb2 (Nat.le_refl _))
  clear hb2
  clear A_2
  go_wp2_with fail
  refine (HL.out w2 HB2.out).mono ?_
  rintro e w3 ⟨v3, rfl, hv3, hb3⟩
  have HB3 := Lib.hid (HB2.out.trans (hb3.mono HB2.out.size))
  have A_3 := Lib.hid (hv3)
  clear hb3 hv3
  go_wp2_with fail
  refine (HK.out w3 HB3.out).mono ?_
  rintro e w4 ⟨v4, rfl, hv4, hb4⟩
  have HB4 := Lib.hid (HB3.out.trans (hb4.mono HB3.out.size))
  have A_4 := Lib.hid (A_3.out.below hb4 (Nat.le_refl _))
  have B_4 := Lib.hid (hv4)
  clear hb4 hv4
  go_wp2_with fail
  refine (HSm.out v3 v4 w4 A_4.out B_4.out HB4.out).mono ?_
  rintro e w5 ⟨rfl, hb5⟩
  have HB5 := Lib.hid (HB4.out.trans (hb5.mono HB4.out.size))
  have A_5 := Lib.hid (A_4.out.below hb5 (Nat.le_refl _))
  have B_5 := Lib.hid (B_4.out.below hb5 (Nat.le_refl _))
  clear hb5
  clear A_5
  clear B_5
  go_wp2_with fail
  refine (HM.out w5 HB5.out).mono ?_
  rintro e w6 ⟨rfl, hb6⟩
  have HB6 := Lib.hid (HB5.out.trans (hb6.mono HB5.out.size))
  clear hb6
  go_wp2_with fail
  refine (HM2.out w6 HB6.out).mono ?_
  rintro e w7 ⟨rfl, hb7⟩
  have HB7 := Lib.hid (HB6.out.trans (hb7.mono HB6.out.size))
  clear hb7
  have HBS := HB7
  go_wp2_with fail
  go_loopw [16, 107] (fun ff ii wr => ∃ i : Nat, i ≤ n ∧ ii = .int .i64 i ∧ ff = .bool (fI bs cs i) ∧ Below w.heap.size w wr) (fun _ ii _ => n - (intOf ii).toNat)
  case atStart => exact ⟨0, Nat.zero_le _, rfl, rfl, HBS.out⟩
  case round =>
    clear HBS
    obtain ⟨i, hi, rfl, rfl, hbi⟩ := hrel
    have HBI := Lib.hid hbi
    clear hbi
    by_cases hit : i < n
    · have HI1 : Hid (fI bs cs (i + 1) = fJ bs cs (fI bs cs i) i i) := rfl
      have h0 : Hid (fI bs cs i = fJ bs cs (fI bs cs i) i 0) := rfl
      go_wp2_with fail
      go_loopw [16, 111] (fun ff jj wj => ∃ j : Nat, j ≤ i ∧ jj = .int .i64 j ∧ ff = .bool (fJ bs cs (fI bs cs i) i j) ∧ Below w.heap.size w wj) (fun _ jj _ => i - (intOf jj).toNat)
      case atStart => exact ⟨0, Nat.zero_le _, rfl, rfl, HBI.out⟩
      case round =>
        clear HBI
        obtain ⟨j, hj, rfl, rfl, hbj⟩ := hrel
        have HBJ := Lib.hid hbj
        clear hbj
        by_cases hjt : j < i
        · have HJ1 : Hid (fJ bs cs (fI bs cs i) i (j + 1) = fK bs cs (fJ bs cs (fI bs cs i) i j) i j j) := rfl
          go_wp2_with fail
          go_loopw [16, 115] (fun ff kk wk => ∃ k : Nat, k ≤ j ∧ kk = .int .i64 k ∧ ff = .bool (fK bs cs (fJ bs cs (fI bs cs i) i j) i j k) ∧ Below w.heap.size w wk) (fun _ kk _ => j - (intOf kk).toNat)
          case atStart => exact ⟨0, Nat.zero_le _, rfl, rfl, HBJ.out⟩
          case round =>
            clear HBJ
            obtain ⟨k, hk, rfl, rfl, hbk⟩ := hrel
            have HBK := Lib.hid hbk
            by_cases hkt : k < j
            · have HO1 := Lib.hid (HODG.out i j k _ hbk hit (by omega) (by omega))
              have HO2 := Lib.hid (fun w' hb' => HODH.out i j k w' hb' hit (by omega) (by omega))
              have HK1 : Hid (fK bs cs (fJ bs cs (fI bs cs i) i j) i j (k + 1) = (fK bs cs (fJ bs cs (fI bs cs i) i j) i j k && (odd3 bs i j k == odd3 cs i j k))) := rfl
              clear hbk
              cases hf : fK bs cs (fJ bs cs (fI bs cs i) i j) i j k with
              | true =>
                rw [hf] at HK1
                have HV : Hid (fK bs cs (fJ bs cs (fI bs cs i) i j) i j (k + 1) = (odd3 bs i j k == odd3 cs i j k)) := HK1.out
                clear HK1 hf
                generalize odd3 bs i j k = o1 at *
                generalize odd3 cs i j k = o2 at *
                go_wp2_with fail
                refine HO1.out.mono ?_
                rintro e w2 ⟨rfl, hb2⟩
                have HB2 := Lib.hid (HBK.out.trans (hb2.mono HBK.out.size))
                clear hb2
                go_wp2_with fail
                refine (HO2.out _ HB2.out).mono ?_
                rintro e w3 ⟨rfl, hb3⟩
                have HB3 := Lib.hid (HB2.out.trans (hb3.mono HB2.out.size))
                clear hb3
                go_wp2_with fail
                go_roundw
                case rel => exact ⟨k + 1, by omega, by go_num, by rw [HV.out], HB3.out⟩
                case measure => simp [intOf]; omega
              | false =>
                rw [hf] at HK1
                have HV : Hid (fK bs cs (fJ bs cs (fI bs cs i) i j) i j (k + 1) = false) := HK1.out
                clear HK1 hf HO1 HO2
                go_wp2_with fail
                go_roundw
                case rel => exact ⟨k + 1, by omega, by go_num, by rw [HV.out], HBK.out⟩
                case measure => simp [intOf]; omega
            · obtain rfl : k = j := by omega
              clear hbk
              go_wp2_with fail
              go_roundw
              case rel => exact ⟨k + 1, by omega, by go_num, by rw [HJ1.out], HBK.out⟩
              case measure => simp [intOf]; omega
        · obtain rfl : j = i := by omega
          go_wp2_with fail
          go_roundw
          case rel => exact ⟨j + 1, by omega, by go_num, by rw [HI1.out], HBJ.out⟩
          case measure => simp [intOf]; omega
    · obtain rfl : i = n := by omega
      rename World => w50
      have HB50 := HBI
      rw [HF.out]
      go_wp2_with fail
      refine (HL.out w50 HB50.out).mono ?_
      rintro e w51 ⟨v51, rfl, hv51, hb51⟩
      have HB51 := Lib.hid (HB50.out.trans (hb51.mono HB50.out.size))
      have A_51 := Lib.hid (hv51)
      clear hb51 hv51
      go_wp2_with fail
      refine (HSwS.out v51 w51 A_51.out HB51.out).mono ?_
      rintro e w52 ⟨v52, rfl, hv52, hb52⟩
      have HB52 := Lib.hid (HB51.out.trans (hb52.mono HB51.out.size))
      have A_52 := Lib.hid (A_51.out.below hb52 (Nat.le_refl _))
      have Z_52 := Lib.hid (hv52)
      clear hb52 hv52
      clear A_52
      go_wp2_with fail
      refine (HEqh.out v52 w52 Z_52.out HB52.out).mono ?_
      rintro e w53 ⟨rfl, hb53⟩
      have HB53 := Lib.hid (HB52.out.trans (hb53.mono HB52.out.size))
      have Z_53 := Lib.hid (Z_52.out.below hb53 (Nat.le_refl _))
      clear hb53
      clear Z_53
      go_wp2_with fail
      refine (HAw.out w53 HB53.out).mono ?_
      rintro e w54 ⟨rfl, hb54⟩
      have HB54 := Lib.hid (HB53.out.trans (hb54.mono HB53.out.size))
      clear hb54
      go_wp2
      go_ret
      exact ⟨rfl, HB54.out⟩

set_option maxHeartbeats 4000000 in
set_option maxRecDepth 100000 in
theorem twice_other_bad (v u : Value) (bs cs : List Nat) (n : Nat) (s : Int) (w : World) (hg : Gr n bs) (h : Nats w v bs) (hg2 : Gr n cs) (h' : Nats w u cs) (hT : Tab w) (hz : setB s n = false) (he : swL n bs (setOf n bs cs) ≠ cs) :
    Calls Tryd.prog 13 #[v, u, .int .i64 s] w fun e w' => e = .returned (.bool true) ∧ Below w.heap.size w w' := by
  have HL := Lib.hid (fun w' (hb : Below w.heap.size w w') => list_any v _ w' (h.below hb (Nat.le_refl _)))
  have HK := Lib.hid (fun w' (hb : Below w.heap.size w w') => list_any u _ w' (h'.below hb (Nat.le_refl _)))
  have HAw := Lib.hid (fun w' (hb : Below w.heap.size w w') => awake_any w' (tab_below hT hb))
  rw [hg.take] at HL
  rw [hg2.take] at HK
  have HM := Lib.hid (fun w' (hb : Below w.heap.size w w') => Graph_any v _ w' (h.below hb (Nat.le_refl _)))
  have HM2 := Lib.hid (fun w' (hb : Below w.heap.size w w') => Graph_any u _ w' (h'.below hb (Nat.le_refl _)))
  rw [graphB_mk hg] at HM
  rw [graphB_mk hg2] at HM2
  have HODG := Lib.hid (fun i j k w' (hb' : Below w.heap.size w w') (hi : i < n) (hj : j < n) (hk : k < n) => isOdd54_any v bs n i j k w' hg (h.below hb' (Nat.le_refl _)) hi hj hk)
  have HODH := Lib.hid (fun i j k w' (hb' : Below w.heap.size w w') (hi : i < n) (hj : j < n) (hk : k < n) => isOdd54_any u cs n i j k w' hg2 (h'.below hb' (Nat.le_refl _)) hi hj hk)
  have HSm := Lib.hid (fun v' u' w' (h1 : Nats w' v' bs) (h2 : Nats w' u' cs) (hb : Below w.heap.size w w') => Same_any v' u' bs cs n w' hg h1 hg2 h2 (tab_below hT hb))
  rw [sameV_no he] at HSm
  have hle := hg.le
  have HF : Hid (fI bs cs n = false) := Lib.hid (by
    cases hf : fI bs cs n with
    | false => rfl
    | true => exact absurd ((fI_same hg hg2).1 hf) he)
  have hlen : (nats bs).length = n := by rw [nats_length, hg.len]
  have HSwB := Lib.hid (fun v' w' (h' : Nats w' v' bs) (hb : Below w.heap.size w w') => Switch_bad v' _ s w' h' (.inr (by rw [hlen]; exact hz)) (tab_below hT hb))
  obtain ⟨ao, cap, rfl, _, _⟩ := hg.open h
  obtain ⟨ao', cap', rfl, _, _⟩ := hg2.open h'
  clear h h' hT hg hg2 he hz hlen
  have HB0 := Lib.hid (Below.refl w.heap.size w)
  go_enter Tryd.func13, Tryd.ntmps13
  go_wp2_with fail
  refine (HL.out w HB0.out).mono ?_
  rintro e w1 ⟨v1, rfl, hv1, hb1⟩
  have HB1 := Lib.hid (HB0.out.trans (hb1.mono HB0.out.size))
  have A_1 := Lib.hid (hv1)
  clear hb1 hv1
  go_wp2_with fail
  refine (HSwB.out v1 w1 A_1.out HB1.out).mono ?_
  rintro e w2 ⟨rfl, hb2⟩
  have HB2 := Lib.hid (HB1.out.trans (hb2.mono HB1.out.size))
  have A_2 := Lib.hid (A_1.out.below hb2 (Nat.le_refl _))
  clear hb2
  clear A_2
  go_wp2_with fail
  refine (HL.out w2 HB2.out).mono ?_
  rintro e w3 ⟨v3, rfl, hv3, hb3⟩
  have HB3 := Lib.hid (HB2.out.trans (hb3.mono HB2.out.size))
  have A_3 := Lib.hid (hv3)
  clear hb3 hv3
  go_wp2_with fail
  refine (HK.out w3 HB3.out).mono ?_
  rintro e w4 ⟨v4, rfl, hv4, hb4⟩
  have HB4 := Lib.hid (HB3.out.trans (hb4.mono HB3.out.size))
  have A_4 := Lib.hid (A_3.out.below hb4 (Nat.le_refl _))
  have B_4 := Lib.hid (hv4)
  clear hb4 hv4
  go_wp2_with fail
  refine (HSm.out v3 v4 w4 A_4.out B_4.out HB4.out).mono ?_
  rintro e w5 ⟨rfl, hb5⟩
  have HB5 := Lib.hid (HB4.out.trans (hb5.mono HB4.out.size))
  have A_5 := Lib.hid (A_4.out.below hb5 (Nat.le_refl _))
  have B_5 := Lib.hid (B_4.out.below hb5 (Nat.le_refl _))
  clear hb5
  clear A_5
  clear B_5
  go_wp2_with fail
  refine (HM.out w5 HB5.out).mono ?_
  rintro e w6 ⟨rfl, hb6⟩
  have HB6 := Lib.hid (HB5.out.trans (hb6.mono HB5.out.size))
  clear hb6
  go_wp2_with fail
  refine (HM2.out w6 HB6.out).mono ?_
  rintro e w7 ⟨rfl, hb7⟩
  have HB7 := Lib.hid (HB6.out.trans (hb7.mono HB6.out.size))
  clear hb7
  have HBS := HB7
  go_wp2_with fail
  go_loopw [16, 107] (fun ff ii wr => ∃ i : Nat, i ≤ n ∧ ii = .int .i64 i ∧ ff = .bool (fI bs cs i) ∧ Below w.heap.size w wr) (fun _ ii _ => n - (intOf ii).toNat)
  case atStart => exact ⟨0, Nat.zero_le _, rfl, rfl, HBS.out⟩
  case round =>
    clear HBS
    obtain ⟨i, hi, rfl, rfl, hbi⟩ := hrel
    have HBI := Lib.hid hbi
    clear hbi
    by_cases hit : i < n
    · have HI1 : Hid (fI bs cs (i + 1) = fJ bs cs (fI bs cs i) i i) := rfl
      have h0 : Hid (fI bs cs i = fJ bs cs (fI bs cs i) i 0) := rfl
      go_wp2_with fail
      go_loopw [16, 111] (fun ff jj wj => ∃ j : Nat, j ≤ i ∧ jj = .int .i64 j ∧ ff = .bool (fJ bs cs (fI bs cs i) i j) ∧ Below w.heap.size w wj) (fun _ jj _ => i - (intOf jj).toNat)
      case atStart => exact ⟨0, Nat.zero_le _, rfl, rfl, HBI.out⟩
      case round =>
        clear HBI
        obtain ⟨j, hj, rfl, rfl, hbj⟩ := hrel
        have HBJ := Lib.hid hbj
        clear hbj
        by_cases hjt : j < i
        · have HJ1 : Hid (fJ bs cs (fI bs cs i) i (j + 1) = fK bs cs (fJ bs cs (fI bs cs i) i j) i j j) := rfl
          go_wp2_with fail
          go_loopw [16, 115] (fun ff kk wk => ∃ k : Nat, k ≤ j ∧ kk = .int .i64 k ∧ ff = .bool (fK bs cs (fJ bs cs (fI bs cs i) i j) i j k) ∧ Below w.heap.size w wk) (fun _ kk _ => j - (intOf kk).toNat)
          case atStart => exact ⟨0, Nat.zero_le _, rfl, rfl, HBJ.out⟩
          case round =>
            clear HBJ
            obtain ⟨k, hk, rfl, rfl, hbk⟩ := hrel
            have HBK := Lib.hid hbk
            by_cases hkt : k < j
            · have HO1 := Lib.hid (HODG.out i j k _ hbk hit (by omega) (by omega))
              have HO2 := Lib.hid (fun w' hb' => HODH.out i j k w' hb' hit (by omega) (by omega))
              have HK1 : Hid (fK bs cs (fJ bs cs (fI bs cs i) i j) i j (k + 1) = (fK bs cs (fJ bs cs (fI bs cs i) i j) i j k && (odd3 bs i j k == odd3 cs i j k))) := rfl
              clear hbk
              cases hf : fK bs cs (fJ bs cs (fI bs cs i) i j) i j k with
              | true =>
                rw [hf] at HK1
                have HV : Hid (fK bs cs (fJ bs cs (fI bs cs i) i j) i j (k + 1) = (odd3 bs i j k == odd3 cs i j k)) := HK1.out
                clear HK1 hf
                generalize odd3 bs i j k = o1 at *
                generalize odd3 cs i j k = o2 at *
                go_wp2_with fail
                refine HO1.out.mono ?_
                rintro e w2 ⟨rfl, hb2⟩
                have HB2 := Lib.hid (HBK.out.trans (hb2.mono HBK.out.size))
                clear hb2
                go_wp2_with fail
                refine (HO2.out _ HB2.out).mono ?_
                rintro e w3 ⟨rfl, hb3⟩
                have HB3 := Lib.hid (HB2.out.trans (hb3.mono HB2.out.size))
                clear hb3
                go_wp2_with fail
                go_roundw
                case rel => exact ⟨k + 1, by omega, by go_num, by rw [HV.out], HB3.out⟩
                case measure => simp [intOf]; omega
              | false =>
                rw [hf] at HK1
                have HV : Hid (fK bs cs (fJ bs cs (fI bs cs i) i j) i j (k + 1) = false) := HK1.out
                clear HK1 hf HO1 HO2
                go_wp2_with fail
                go_roundw
                case rel => exact ⟨k + 1, by omega, by go_num, by rw [HV.out], HBK.out⟩
                case measure => simp [intOf]; omega
            · obtain rfl : k = j := by omega
              clear hbk
              go_wp2_with fail
              go_roundw
              case rel => exact ⟨k + 1, by omega, by go_num, by rw [HJ1.out], HBK.out⟩
              case measure => simp [intOf]; omega
        · obtain rfl : j = i := by omega
          go_wp2_with fail
          go_roundw
          case rel => exact ⟨j + 1, by omega, by go_num, by rw [HI1.out], HBJ.out⟩
          case measure => simp [intOf]; omega
    · obtain rfl : i = n := by omega
      rename World => w50
      have HB50 := HBI
      rw [HF.out]
      go_wp2_with fail
      refine (HAw.out w50 HB50.out).mono ?_
      rintro e w51 ⟨rfl, hb51⟩
      have HB51 := Lib.hid (HB50.out.trans (hb51.mono HB50.out.size))
      clear hb51
      go_wp2
      go_ret
      exact ⟨rfl, HB51.out⟩
end Go.Proofs.YtdnhfnegnjdeoaaDoor
