/- rulers: mayMark, the reference's Ruler -/
import Derived.Test.YtlalfjkenkmojaaBb
namespace Go.Proofs.Ytlalfjkenkmojaa
open Go.RowKit

theorem bb61 (w : World) : BB 88 (w.alloc (.cells #[.bool false, .bool false, .bool false, .bool false, .bool false, .bool false, .bool false, .bool false, .bool false, .bool false, .bool false, .bool false, .bool false, .bool false, .bool false, .bool false, .bool false, .bool false, .bool false, .bool false, .bool false, .bool false, .bool false, .bool false, .bool false, .bool false, .bool false, .bool false, .bool false, .bool false, .bool false, .bool false, .bool false, .bool false, .bool false, .bool false, .bool false, .bool false, .bool false, .bool false, .bool false, .bool false, .bool false, .bool false, .bool false, .bool false, .bool false, .bool false, .bool false, .bool false, .bool false, .bool false, .bool false, .bool false, .bool false, .bool false, .bool false, .bool false, .bool false, .bool false, .bool false] 88)) w.heap.size (List.replicate 61 false) := heap_alloc_new w _
theorem bb100 (w : World) : BB 78 (w.alloc (.cells #[.bool false, .bool false, .bool false, .bool false, .bool false, .bool false, .bool false, .bool false, .bool false, .bool false, .bool false, .bool false, .bool false, .bool false, .bool false, .bool false, .bool false, .bool false, .bool false, .bool false, .bool false, .bool false, .bool false, .bool false, .bool false, .bool false, .bool false, .bool false, .bool false, .bool false, .bool false, .bool false, .bool false, .bool false, .bool false, .bool false, .bool false, .bool false, .bool false, .bool false, .bool false, .bool false, .bool false, .bool false, .bool false, .bool false, .bool false, .bool false, .bool false, .bool false, .bool false, .bool false, .bool false, .bool false, .bool false, .bool false, .bool false, .bool false, .bool false, .bool false, .bool false, .bool false, .bool false, .bool false, .bool false, .bool false, .bool false, .bool false, .bool false, .bool false, .bool false, .bool false, .bool false, .bool false, .bool false, .bool false, .bool false, .bool false, .bool false, .bool false, .bool false, .bool false, .bool false, .bool false, .bool false, .bool false, .bool false, .bool false, .bool false, .bool false, .bool false, .bool false, .bool false, .bool false, .bool false, .bool false, .bool false, .bool false, .bool false, .bool false] 78)) w.heap.size (List.replicate 100 false) := heap_alloc_new w _
theorem diff_nodup_snoc {l : List Nat} {x : Nat} (h : l.Nodup) (hx : x ∉ l) : (l ++ [x]).Nodup := nodup_snoc h hx

set_option maxHeartbeats 4000000 in
set_option maxRecDepth 100000 in
theorem mayMark_any (x : Nat) (v : Value) (l : List Nat) (w : World) (hr : rulB l = true) (hl : ∀ y ∈ l, y ≤ 60) (hx : x ≤ 60) (hlen : l.length ≤ 100) (h : Nats w v l) :
    Calls Try.prog 84 #[v, .int .i64 x] w fun e w' => e = .returned (.bool (ruleOf rulB l x)) ∧ Below w.heap.size w w' := by
  by_cases h0 : l = []
  · subst h0
    have HI : Hid (ruleOf rulB [] x = decide (x = 0)) := Lib.hid (rul_nil x)
    obtain ⟨ao, cap, rfl, _, _, _⟩ := h.open
    clear h hl hr
    go_enter Try.func84, Try.ntmps84
    go_wp2
    go_ret
    exact ⟨ret_bool (by rw [HI.out]; rw [Bool.eq_iff_iff]; simp), Below.refl _ _⟩
  have hp : 0 < l.length := List.length_pos_iff.2 h0
  have HRu := Lib.hid (rul_snoc (x := x) hr h0)
  have HCl := Lib.hid (clone1_any v (nats l) w h)
  rw [nats_length] at HCl
  have hup := ((rulB_iff l).1 hr).2.1
  have HUp := Lib.hid (fun (hx' : l.getD (l.length - 1) 0 < x) => up_snoc hup h0 hx')
  obtain ⟨ao0, cap0, rfl, hc1, hc2, hcx⟩ := h.open
  obtain ⟨b0, o0, rfl, hcl⟩ := hcx (l.length - 1) (by omega)
  have he : ((l.length : Int) == 0) = false := beq_eq_false_iff_ne.2 (by omega)
  have hm1 : ((l.length : Int) - 1).toNat = l.length - 1 := by omega
  have hzb : l.getD (l.length - 1) 0 ≤ 60 := hl _ (natD_mem (by omega))
  have hn0 : ¬ l.length = 0 := by omega
  by_cases hle : x ≤ l.getD (l.length - 1) 0
  · have HI : Hid (ruleOf rulB l x = false) := Lib.hid (by rw [HRu.out, decide_eq_false (by omega)]; rfl)
    clear h hl hr hup hcx HCl
    generalize l.getD (l.length - 1) 0 = z at *
    go_enter Try.func84, Try.ntmps84
    go_wp2
    go_ret
    exact ⟨ret_bool HI.out.symm, Below.refl _ _⟩
  have HI : Hid (ruleOf rulB l x = diffB (l ++ [x])) := Lib.hid (by rw [HRu.out, decide_eq_true (by omega), Bool.true_and])
  rw [HI.out]
  have hupm := HUp.out (by omega)
  obtain ⟨i0, hi, hz0, hz1, hz2⟩ := info_parts Try.info3
  obtain ⟨m, hm⟩ : ∃ m, m = l ++ [x] := ⟨_, rfl⟩
  rw [← hm] at hupm
  have HUm := Lib.hid hupm
  have HBd : Hid (∀ y ∈ m, y ≤ 60) := Lib.hid (by
    intro y hy
    rw [hm] at hy
    simp at hy
    rcases hy with hy | rfl
    · exact hl y hy
    · exact hx)
  have hml : m.length ≤ 101 := by rw [hm]; simp; omega
  have HMl : Hid (m.length = l.length + 1) := Lib.hid (by rw [hm]; simp)
  rw [← hm]
  have HMm := Lib.hid hm
  clear h hl hm hr hup hcx HUp HRu HI hupm
  generalize l.getD (l.length - 1) 0 = z at *
  go_enter Try.func84, Try.ntmps84
  go_wp2_with fail
  refine HCl.out.mono ?_
  rintro e w1 ⟨ao, c, rfl, hown, hb1⟩
  have HO := Lib.hid hown
  have HB1 := Lib.hid hb1
  clear hown hb1 HCl hcl
  go_wp2_with (at_builtin; refine wpList_append_own _ rfl _ _ 22 rfl w.heap.size 3 i0 (.int .i64 0) 1 8 Try.underlying22 hi hz0 hz1 hz2 rfl (by decide) _ _ _ rfl (HO.out.alloc _) ⟨w1.heap.size, 0, none⟩ 1 1 [.int .i64 x] rfl rfl (newOne _ _ _) (oneInt _) (by unfold maxLen; omega) (by omega) (by have := HB1.out.size; simp; omega) ?_)
  intro v' w2 hown' hgrow _
  have HR := Lib.hid (nat_step HO.out HB1.out HB1.out.size hown' hgrow)
  have hnm : Nats w2 v' m := by
    rw [HMm.out]
    exact Nats.of_owns HR.out.1 (by simp; omega) (fun y hy => by have := HBd.out y (by rw [HMm.out]; exact hy); omega)
  have HBase := Lib.hid HR.out.2
  clear hown' hgrow HR HO HB1 hi hz0 hz1 hz2 HMm
  obtain ⟨ao', cap', rfl, h1, h2, hxx⟩ := hnm.open
  have HX := Lib.hid hxx
  clear hxx hnm
  go_wp2_with fail
  go_loopw [31] (fun i wr => ∃ (k : Nat) (bs : List Bool), k ≤ m.length ∧ i = .int .i64 k ∧ BB 88 wr w2.heap.size bs ∧ Met 61 bs (diffP m k) ∧ (diffP m k).Nodup ∧ Below w2.heap.size w2 wr) (fun i _ => m.length - (intOf i).toNat)
  case atStart => exact ⟨0, List.replicate 61 false, Nat.zero_le _, rfl, bb61 w2, Met.start 61, List.nodup_nil, (Below.refl _ _).alloc (Nat.le_refl _) _⟩
  case round =>
    obtain ⟨k, bs, hk, rfl, hB, hM, hN, hb⟩ := hrel
    have HBB := Lib.hid hB
    have HM := Lib.hid hM
    have HNd := Lib.hid hN
    have HB := Lib.hid hb
    clear hB hM hN hb
    by_cases hlt : k < m.length
    · obtain ⟨b, o, rfl, hck⟩ := HX.out k hlt
      have hck' := ck hck HB.out
      have hz := HBd.out _ (natD_mem hlt)
      have HBad := Lib.hid (fun j (hj : j < k) => diffB_bad hlt hj)
      have HSu := Lib.hid (fun j => diffQ_succ m k j)
      have HQ0 : Hid (diffQ m k 0 = diffP m k) := Lib.hid (diffQ_zero m k)
      have HLt := Lib.hid (fun j (hj : j < k) => up_lt HUm.out hj hlt)
      clear hck
      generalize m.getD k 0 = z at *
      go_wp2_with fail
      go_loopw [40] (fun i wr => ∃ (j : Nat) (bs : List Bool), j ≤ k ∧ i = .int .i64 j ∧ BB 88 wr w2.heap.size bs ∧ Met 61 bs (diffQ m k j) ∧ (diffQ m k j).Nodup ∧ Below w2.heap.size w2 wr) (fun i _ => k - (intOf i).toNat)
      case atStart => exact ⟨0, bs, Nat.zero_le _, rfl, HBB.out, by rw [HQ0.out]; exact HM.out, by rw [HQ0.out]; exact HNd.out, HB.out⟩
      case round =>
        clear HBB HM HNd HB hck'
        obtain ⟨j, bs, hj, rfl, hB, hM, hN, hb⟩ := hrel
        have HBB := Lib.hid hB
        have HM := Lib.hid hM
        have HNd := Lib.hid hN
        have HB := Lib.hid hb
        clear hB hM hN hb
        by_cases hjk : j < k
        · obtain ⟨b', o', he', hcj⟩ := HX.out j (by omega)
          simp only [Option.some.injEq, Addr.mk.injEq] at he'
          obtain ⟨rfl, rfl, _⟩ := he'
          have hcj' := ck hcj HB.out
          have hyz := HLt.out j hjk
          have HBad1 := Lib.hid (HBad.out j hjk)
          have HSu1 := Lib.hid (HSu.out j)
          clear hcj
          generalize m.getD j 0 = y at *
          have hs61 : z - y < 61 := by omega
          have d4 : ((z:Int) - y) = ((z - y : Nat) : Int) := by omega
          have hst := HM.out.step _ hs61
          have HM2 := Lib.hid hst
          have hmem := HM.out.2 _ hs61
          have HMem := Lib.hid hmem
          obtain ⟨hcb, hfb⟩ := HBB.out.cell (k := z - y) (by rw [HM.out.1]; exact hs61)
          have HSet := Lib.hid (fun s => HBB.out.set s true)
          clear hst hmem
          generalize z - y = s at *
          cases hh : bs.getD s false with
          | true =>
            have HF := Lib.hid (HBad1.out (of_decide_eq_true (by rw [← HMem.out, hh])))
            rw [hh] at hcb
            clear hh
            go_wp2
            go_ret
            exact ⟨ret_bool HF.out.symm, HBase.out.trans (HB.out.mono HBase.out.size)⟩
          | false =>
            have HND2 : Hid ((diffQ m k (j + 1)).Nodup) := Lib.hid (by
              rw [HSu1.out]
              exact nodup_snoc HNd.out (of_decide_eq_false (by rw [← HMem.out, hh])))
            rw [hh] at hcb
            clear hh
            go_wp2
            go_roundw
            case rel => exact ⟨j + 1, bs.set s true, by omega, by go_num, HSet.out s, by rw [HSu1.out]; exact HM2.out, HND2.out, HB.out.setCell (p := ⟨w2.heap.size, s, none⟩) (Nat.le_refl _) _⟩
            case measure => simp [intOf]; omega
        · obtain rfl : j = k := by omega
          have HE : Hid (diffQ m j j = diffP m (j + 1)) := Lib.hid (diffQ_end m j)
          rw [HE.out] at HM HNd
          go_wp2
          go_roundw
          case rel => exact ⟨j + 1, bs, by omega, by go_num, HBB.out, HM.out, HNd.out, HB.out⟩
          case measure => simp [intOf]; omega
    · obtain rfl : k = m.length := by omega
      have HF : Hid (diffB m = true) := Lib.hid (decide_eq_true HNd.out)
      go_wp2
      go_ret
      exact ⟨ret_bool HF.out.symm, HBase.out.trans (HB.out.mono HBase.out.size)⟩

theorem rulB_low {m : List Nat} {i j : Nat} (hi : i < m.length) (hj : j < i) (h : m.getD i 0 ≤ m.getD j 0) : rulB m = false := by
  cases hr : rulB m with
  | false => rfl
  | true => have := up_lt ((rulB_iff m).1 hr).2.1 hj hi; omega
theorem rulB_met {m : List Nat} {i j : Nat} (hi : i < m.length) (hj : j < i) (h : m.getD i 0 - m.getD j 0 ∈ diffQ m i j) : rulB m = false := by
  unfold rulB; rw [diffB_bad hi hj h]; simp
theorem rulB_all {m : List Nat} (h0 : m.getD 0 0 = 0) (hu : ∀ i j, i < m.length → j < i → m.getD j 0 < m.getD i 0) (hn : (diffP m m.length).Nodup) : rulB m = true := by
  rw [rulB_iff]
  refine ⟨h0, ?_, decide_eq_true hn⟩
  unfold Up
  rw [List.pairwise_iff_getElem]
  intro i j hi hj hij
  have := hu j i hj hij
  simpa [hi, hj] using this

set_option maxHeartbeats 4000000 in
set_option maxRecDepth 100000 in
theorem rRuler_any (v : Value) (m : List Nat) (w : World) (hl : ∀ y ∈ m, y ≤ 60) (hp : 0 < m.length) (hml : m.length ≤ 100) (h : Nats w v m) :
    Calls Try.prog 51 #[v] w fun e w' => e = .returned (.bool (rulB m)) ∧ Below w.heap.size w w' := by
  have HBd := Lib.hid hl
  obtain ⟨ao', cap', rfl, h1, h2, hxx⟩ := h.open
  have HX := Lib.hid hxx
  obtain ⟨b, o, rfl, hc0⟩ := HX.out 0 hp
  rw [Nat.add_zero] at hc0
  have hpi : (0:Int) < (m.length : Int) := by omega
  clear hxx h hl
  by_cases e0 : m.getD 0 0 = 0
  · have HE0 := Lib.hid e0
    rw [e0] at hc0
    clear e0
    go_enter Try.func51, Try.ntmps51
    go_wp2_with fail
    go_loopw [15] (fun i wr => ∃ (k : Nat) (bs : List Bool), k ≤ m.length ∧ i = .int .i64 k ∧ BB 78 wr w.heap.size bs ∧ Met 100 bs (diffP m k) ∧ (diffP m k).Nodup ∧ (∀ i j, i < k → j < i → m.getD j 0 < m.getD i 0) ∧ Below w.heap.size w wr) (fun i _ => m.length - (intOf i).toNat)
    case atStart => exact ⟨0, List.replicate 100 false, Nat.zero_le _, rfl, bb100 w, Met.start 100, List.nodup_nil, fun i j hi => absurd hi (by omega), (Below.refl _ _).alloc (Nat.le_refl _) _⟩
    case round =>
      clear hc0
      obtain ⟨k, bs, hk, rfl, hB, hM, hN, hU, hb⟩ := hrel
      have HBB := Lib.hid hB
      have HM := Lib.hid hM
      have HNd := Lib.hid hN
      have HB := Lib.hid hb
      have HU := Lib.hid hU
      clear hB hM hN hb hU
      by_cases hlt : k < m.length
      · obtain ⟨b', o', he', hck⟩ := HX.out k hlt
        simp only [Option.some.injEq, Addr.mk.injEq] at he'
        obtain ⟨rfl, rfl, _⟩ := he'
        have hck' := ck hck HB.out
        have hz := HBd.out _ (natD_mem hlt)
        have HBad := Lib.hid (fun j (hj : j < k) => rulB_met hlt hj)
        have HLow := Lib.hid (fun j (hj : j < k) => rulB_low hlt hj)
        have HSu := Lib.hid (fun j => diffQ_succ m k j)
        have HQ0 : Hid (diffQ m k 0 = diffP m k) := Lib.hid (diffQ_zero m k)
        have HU2 := Lib.hid (fun (hh : ∀ j, j < k → m.getD j 0 < m.getD k 0) (i j : Nat) (hi : i < k + 1) (hj : j < i) => (show m.getD j 0 < m.getD i 0 from if e : i = k then (by subst e; exact hh j hj) else HU.out i j (by omega) hj))
        clear hck
        generalize m.getD k 0 = z at *
        go_wp2_with fail
        go_loopw [24] (fun i wr => ∃ (j : Nat) (bs : List Bool), j ≤ k ∧ i = .int .i64 j ∧ BB 78 wr w.heap.size bs ∧ Met 100 bs (diffQ m k j) ∧ (diffQ m k j).Nodup ∧ (∀ i, i < j → m.getD i 0 < z) ∧ Below w.heap.size w wr) (fun i _ => k - (intOf i).toNat)
        case atStart => exact ⟨0, bs, Nat.zero_le _, rfl, HBB.out, by rw [HQ0.out]; exact HM.out, by rw [HQ0.out]; exact HNd.out, fun i hi => absurd hi (by omega), HB.out⟩
        case round =>
          clear HBB HM HNd HB hck'
          obtain ⟨j, bs, hj, rfl, hB, hM, hN, hV, hb⟩ := hrel
          have HBB := Lib.hid hB
          have HM := Lib.hid hM
          have HNd := Lib.hid hN
          have HB := Lib.hid hb
          have HV := Lib.hid hV
          clear hB hM hN hb hV
          by_cases hjk : j < k
          · obtain ⟨b', o', he', hcj⟩ := HX.out j (by omega)
            simp only [Option.some.injEq, Addr.mk.injEq] at he'
            obtain ⟨rfl, rfl, _⟩ := he'
            have hcj' := ck hcj HB.out
            have hyb := HBd.out _ (natD_mem (show j < m.length by omega))
            have HBad1 := Lib.hid (HBad.out j hjk)
            have HLow1 := Lib.hid (HLow.out j hjk)
            have HSu1 := Lib.hid (HSu.out j)
            have HV2 := Lib.hid (fun (hh : m.getD j 0 < z) (i : Nat) (hi : i < j + 1) => if e : i = j then (by subst e; exact hh : m.getD i 0 < z) else HV.out i (by omega))
            clear hcj
            generalize m.getD j 0 = y at *
            by_cases hyz : z ≤ y
            · have HF := Lib.hid (HLow1.out hyz)
              have c1 : (z:Int) - y < 1 := by omega
              go_wp2
              go_ret
              exact ⟨ret_bool HF.out.symm, HB.out⟩
            have HV3 := Lib.hid (HV2.out (by omega))
            have hs100 : z - y < 100 := by omega
            have hs1 : ¬ z - y < 1 := by omega
            have d4 : ((z:Int) - y) = ((z - y : Nat) : Int) := by omega
            have hst := HM.out.step _ hs100
            have HM2 := Lib.hid hst
            have hmem := HM.out.2 _ hs100
            have HMem := Lib.hid hmem
            obtain ⟨hcb, hfb⟩ := HBB.out.cell (k := z - y) (by rw [HM.out.1]; exact hs100)
            have HSet := Lib.hid (fun s => HBB.out.set s true)
            clear hst hmem
            generalize z - y = s at *
            have hs2 : ¬ (s:Int) < 1 := by omega
            cases hh : bs.getD s false with
            | true =>
              have HF := Lib.hid (HBad1.out (of_decide_eq_true (by rw [← HMem.out, hh])))
              rw [hh] at hcb
              clear hh
              go_wp2
              go_ret
              exact ⟨ret_bool HF.out.symm, HB.out⟩
            | false =>
              have HND2 : Hid ((diffQ m k (j + 1)).Nodup) := Lib.hid (by
                rw [HSu1.out]
                exact nodup_snoc HNd.out (of_decide_eq_false (by rw [← HMem.out, hh])))
              rw [hh] at hcb
              clear hh
              go_wp2
              go_roundw
              case rel => exact ⟨j + 1, bs.set s true, by omega, by go_num, HSet.out s, by rw [HSu1.out]; exact HM2.out, HND2.out, HV3.out, HB.out.setCell (p := ⟨w.heap.size, s, none⟩) (Nat.le_refl _) _⟩
              case measure => simp [intOf]; omega
          · obtain rfl : j = k := by omega
            have HE : Hid (diffQ m j j = diffP m (j + 1)) := Lib.hid (diffQ_end m j)
            rw [HE.out] at HM HNd
            have HU3 := Lib.hid (HU2.out HV.out)
            go_wp2
            go_roundw
            case rel => exact ⟨j + 1, bs, by omega, by go_num, HBB.out, HM.out, HNd.out, HU3.out, HB.out⟩
            case measure => simp [intOf]; omega
      · obtain rfl : k = m.length := by omega
        have HF : Hid (rulB m = true) := Lib.hid (rulB_all HE0.out HU.out HNd.out)
        go_wp2
        go_ret
        exact ⟨ret_bool HF.out.symm, HB.out⟩
  · have HF : Hid (rulB m = false) := Lib.hid (by unfold rulB; rw [decide_eq_false e0]; rfl)
    have d0 : (((m.getD 0 0 : Nat) : Int) != 0) = true := by simp only [bne_iff_ne, ne_eq]; omega
    clear e0
    generalize m.getD 0 0 = z at *
    go_enter Try.func51, Try.ntmps51
    go_wp2
    go_ret
    exact ⟨ret_bool HF.out.symm, Below.refl _ _⟩
end Go.Proofs.Ytlalfjkenkmojaa
