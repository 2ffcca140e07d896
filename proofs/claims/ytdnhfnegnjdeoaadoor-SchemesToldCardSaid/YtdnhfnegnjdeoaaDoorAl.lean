/- Alone: the program's and the reference's -/
import Derived.Test.YtdnhfnegnjdeoaaDoorDl
import Derived.Test.YtdnhfnegnjdeoaaDoorRs
namespace Go.Proofs.YtdnhfnegnjdeoaaDoor
open Go.RowKit

set_option maxRecDepth 100000 in
set_option maxHeartbeats 4000000 in
theorem Alone_any (u : Value) (bs : List Nat) (n v : Nat) (w : World) (hb : Gr n bs) (h : Nats w u bs) (hT : Tab w) (hn2 : 2 ≤ n) (hv : v < n) :
    Calls Tryd.prog 44 #[u, .int .i64 v] w fun e w' => ∃ v', e = .returned (.tuple #[v', .int .i64 0]) ∧ Nats w' v' (aloneL n bs v) ∧ Below w.heap.size w w' := by
  have HI := Lib.hid (isGraph_any u _ w h hT)
  rw [graphB_mk hb] at HI
  have HS := Lib.hid (fun w' (hb' : Below w.heap.size w w') => switched_any u bs n (bs.getD v 0) w' hb (h.below hb' (Nat.le_refl _)) (hb.get v))
  have hsg := swL_gr hb (hb.get v)
  have HD := Lib.hid (fun g c B w (hO : w.ownsRow B 3 1 (.slice (some ⟨g, 0, none⟩) n c) n (ints (nats (swL n bs (bs.getD v 0))))) => delete_any g c n v B _ w hO hsg.len hv)
  have HAL := Lib.hid (alone_gr_lt hb hv)
  have HI64 := Lib.hid (alone_I64 hb hv)
  have hle := hb.le
  have HR16 : Hid (∀ k, ((swL n bs (bs.getD v 0)).take v ++ (swL n bs (bs.getD v 0)).drop (v + 1)).getD k 0 < 65536) := Lib.hid fun k => by
    by_cases hk : k < ((swL n bs (bs.getD v 0)).take v ++ (swL n bs (bs.getD v 0)).drop (v + 1)).length
    · have hm := natD_mem hk
      refine Nat.lt_of_lt_of_le (hsg.lt _ ?_) (pw_nat n hle).2
      rcases List.mem_append.1 hm with hm | hm
      · exact List.mem_of_mem_take hm
      · exact List.mem_of_mem_drop hm
    · rw [getD_over (by omega)]; decide
  have HLR : Hid (((swL n bs (bs.getD v 0)).take v ++ (swL n bs (bs.getD v 0)).drop (v + 1)).length = n - 1) := Lib.hid (by
    rw [List.length_append, List.length_take, List.length_drop, hsg.len]; omega)
  have HAE : Hid (((swL n bs (bs.getD v 0)).take v ++ (swL n bs (bs.getD v 0)).drop (v + 1)).map (woN v) = aloneL n bs v) := rfl
  obtain ⟨ao, cap, rfl, _, hx⟩ := hb.open h
  obtain ⟨b, o, rfl, c1⟩ := hx v hv
  have q0 : (0:Int) ≤ (v:Int) := by omega
  have q1 : (v:Int) < (n:Int) := by omega
  have q2 : ¬ ((n:Int) < 2) := by omega
  have hv16 : v ≤ 16 := by omega
  clear h hb hT hx hsg
  generalize swL n bs (bs.getD v 0) = sw at *
  generalize aloneL n bs v = al at *
  generalize bs.getD v 0 = s at *
  go_enter Tryd.func44, Tryd.ntmps44
  go_wp2_with fail
  refine HI.out.mono ?_
  rintro e w1 ⟨rfl, hb1⟩
  have HB1 := Lib.hid hb1
  have d1 := ck c1 hb1
  clear hb1 c1 HI
  go_wp2_with fail
  refine (HS.out w1 HB1.out).mono ?_
  rintro e w2 ⟨a2, c2, rfl, hO, hb2⟩
  obtain ⟨g, rfl, hge⟩ := owns_some hO (by omega)
  have HO2 := Lib.hid hO
  have HB2 := Lib.hid (HB1.out.trans (hb2.mono HB1.out.size))
  have hge2 : w.heap.size ≤ g := Nat.le_trans HB1.out.size hge
  clear hb2 d1 HS hO
  go_wp2_with fail
  refine (HD.out g c2 w1.heap.size w2 HO2.out).mono ?_
  rintro e w3 ⟨rfl, hO3, hb3⟩
  have HO3 := Lib.hid hO3
  have HB3 := Lib.hid (HB2.out.trans (hb3.mono HB1.out.size))
  clear hO3 hb3 HD HO2
  generalize hrs : sw.take v ++ sw.drop (v + 1) = rs at *
  clear hrs
  obtain ⟨m, hm⟩ : ∃ m, m = n - 1 := ⟨_, rfl⟩
  rw [← hm] at HO3 HLR HAL ⊢
  have hm16 : m ≤ 16 := by omega
  clear hm
  go_wp2_with fail
  go_loopw [41] (fun ii wr => ∃ k : Nat, k ≤ m ∧ ii = .int .i64 k ∧ wr.ownsRow w1.heap.size 3 1 (.slice (some ⟨g, 0, none⟩) m c2) m (ints (nats (woPart rs v k))) ∧ Below w.heap.size w wr) (fun ii _ => m - (intOf ii).toNat)
  case atStart => exact ⟨0, Nat.zero_le _, rfl, by rw [woPart_zero]; exact HO3.out, HB3.out⟩
  case round =>
    clear HO3 HB3
    obtain ⟨k, hk, rfl, hO, hB⟩ := hrel
    have HO := Lib.hid hO
    have HB := Lib.hid hB
    clear hO hB
    by_cases hlt : k < m
    · obtain ⟨hc, hf⟩ := owns_cell HO.out (k := k) (by rw [nats_length, woPart_length, HLR.out]; exact hlt)
      rw [nats_getD, woPart_get _ _ _ (by rw [HLR.out]; exact hlt)] at hc
      have hr : rs.getD k 0 < 65536 := HR16.out k
      have HC := Lib.hid (fun w' => below_any v w' (by omega))
      have HS2 : Hid ((wr.drew.setCell ⟨g, k, none⟩ (.int .i64 (woN v (rs.getD k 0) : Nat))).ownsRow w1.heap.size 3 1 (.slice (some ⟨g, 0, none⟩) m c2) m (ints (nats (woPart rs v (k + 1))))) := Lib.hid (by
        rw [← woPart_set _ _ _ (by rw [HLR.out]; exact hlt), nats_set]; exact owns_set (w := wr.drew) HO.out _)
      have HB2' : Hid (Below w.heap.size w (wr.drew.setCell ⟨g, k, none⟩ (.int .i64 (woN v (rs.getD k 0) : Nat)))) := Lib.hid (HB.out.drew.setCell (p := ⟨g, k, none⟩) hge2 _)
      have HWV := Lib.hid (wo_val v (rs.getD k 0) hv16 hr)
      generalize rs.getD k 0 = r at *
      go_wp2_with fail
      have hj2 : IntKind.i64.wrap ((v:Int) + 1) = ((v + 1 : Nat) : Int) := i64_of (by omega) (by omega)
      have hk0 : (0:Int) ≤ (k:Int) := by omega
      have hk1 : (k:Int) < (m:Int) := by omega
      go_region_with (go_at_call 82; refine (HC.out _).mono ?_; rintro e w' ⟨rfl, rfl⟩)
      rw [HWV.out]
      clear HC HO HB
      go_wp2
      go_roundw
      case rel => exact ⟨k + 1, by omega, by go_num, HS2.out, HB2'.out⟩
      case measure => simp [intOf]; omega
    · have hke : k = m := by omega
      have HV : Hid (Nats wr (.slice (some ⟨g, 0, none⟩) m c2) al) := Lib.hid (by
        have h := HO.out
        have e : woPart rs v k = al := by rw [show k = rs.length by rw [HLR.out]; exact hke, woPart_end, HAE.out]
        rw [e] at h
        exact Ints.of_owns h (by omega) HI64.out)
      have hgk : ¬ (k:Int) < (m:Int) := by omega
      clear HO hke
      go_wp2
      go_ret2
      exact ⟨_, rfl, HV.out, HB.out⟩

def badA (xs : List Int) (v : Int) : Bool := !(graphB xs && decide (2 ≤ xs.length) && decide (0 ≤ v) && decide (v < xs.length))
set_option maxHeartbeats 1000000 in
theorem Alone_bad (u : Value) (xs : List Int) (v : Int) (w : World) (h : Ints w u xs) (hT : Tab w) (hg : badA xs v = true) :
    Calls Tryd.prog 44 #[u, .int .i64 v] w fun e w' => e = .returned (.tuple #[.slice none 0 0, .int .i64 2]) ∧ Below w.heap.size w w' := by
  have HI := Lib.hid (isGraph_any u _ w h hT)
  obtain ⟨ao, cap, rfl, _, _⟩ := h.open
  clear h hT
  unfold badA at hg
  cases hgg : graphB xs with
  | false =>
    rw [hgg] at HI
    clear hg hgg
    go_enter Tryd.func44, Tryd.ntmps44
    go_wp2_with fail
    refine HI.out.mono ?_
    rintro e w1 ⟨rfl, hb1⟩
    have HB := Lib.hid hb1
    clear hb1
    go_wp2_with fail
    go_ret2
    exact ⟨rfl, HB.out⟩
  | true =>
    rw [hgg] at HI hg
    by_cases h2 : xs.length < 2
    · have q : (xs.length : Int) < 2 := by omega
      clear hg hgg
      go_enter Tryd.func44, Tryd.ntmps44
      go_wp2_with fail
      refine HI.out.mono ?_
      rintro e w1 ⟨rfl, hb1⟩
      have HB := Lib.hid hb1
      clear hb1
      go_wp2_with fail
      go_ret2
      exact ⟨rfl, HB.out⟩
    · have q : ¬ (xs.length : Int) < 2 := by omega
      by_cases h3 : v < 0
      · clear hg hgg
        go_enter Tryd.func44, Tryd.ntmps44
        go_wp2_with fail
        refine HI.out.mono ?_
        rintro e w1 ⟨rfl, hb1⟩
        have HB := Lib.hid hb1
        clear hb1
        go_wp2_with fail
        go_ret2
        exact ⟨rfl, HB.out⟩
      · have q3 : (xs.length : Int) ≤ v := by
          rw [decide_eq_true (by omega : 2 ≤ xs.length), decide_eq_true (by omega : 0 ≤ v)] at hg
          have : ¬ v < xs.length := by simpa using hg
          omega
        clear hg hgg
        go_enter Tryd.func44, Tryd.ntmps44
        go_wp2_with fail
        refine HI.out.mono ?_
        rintro e w1 ⟨rfl, hb1⟩
        have HB := Lib.hid hb1
        clear hb1
        go_wp2_with fail
        go_ret2
        exact ⟨rfl, HB.out⟩

set_option maxRecDepth 100000 in
set_option maxHeartbeats 4000000 in
theorem rAlone_any (u : Value) (bs : List Nat) (n v : Nat) (w : World) (hb : Gr n bs) (h : Nats w u bs) (hv : v < n) :
    Calls Tryd.prog 45 #[u, .int .i64 v] w fun e w' => ∃ v', e = .returned v' ∧ Nats w' v' (aloneL n bs v) ∧ Below w.heap.size w w' := by
  have HS := Lib.hid (rSwitch_any u bs n (bs.getD v 0) w hb h (hb.get v))
  have hsg := swL_gr hb (hb.get v)
  have HSG := Lib.hid hsg
  have HI64 := Lib.hid (alone_I64 hb hv)
  have HAL := Lib.hid (alone_gr_lt hb hv)
  have HEnd : Hid (rwF (swL n bs (bs.getD v 0)) v v n = aloneL n bs v) := Lib.hid (by have := rwF_end (swL n bs (bs.getD v 0)) v v (by rw [hsg.len]; exact hv); rwa [hsg.len] at this)
  have hle := hb.le
  obtain ⟨i0, hi0, hz0, hz1, hz2⟩ := info_parts Tryd.info3
  obtain ⟨ao, cap, rfl, _, hx⟩ := hb.open h
  obtain ⟨b, o, rfl, c1⟩ := hx v hv
  have q0 : (0:Int) ≤ (v:Int) := by omega
  have q1 : (v:Int) < (n:Int) := by omega
  have hv16 : v ≤ 16 := by omega
  have hj2 : IntKind.i64.wrap ((v:Int) + 1) = ((v + 1 : Nat) : Int) := i64_of (by omega) (by omega)
  have hpw := pw_bd v (by omega)
  have hw1 : IntKind.i64.wrap ((2:Int) ^ v) = (2:Int) ^ v := i64_of (by omega) (by omega)
  have hw2 : IntKind.i64.wrap ((2:Int) ^ v - 1) = (2:Int) ^ v - 1 := i64_of (by omega) (by omega)
  clear h hb hx hsg hpw
  generalize hsw : swL n bs (bs.getD v 0) = sw at *
  clear hsw
  generalize aloneL n bs v = al at *
  generalize bs.getD v 0 = s at *
  go_enter Tryd.func45, Tryd.ntmps45
  go_wp2_with fail
  refine HS.out.mono ?_
  rintro e w1 ⟨a1, c1', rfl, hN, hb1⟩
  have HB1 := Lib.hid hb1
  obtain ⟨a1', c1'', hvv, _, hx1⟩ := HSG.out.open hN
  simp only [Value.slice.injEq, true_and] at hvv
  obtain ⟨rfl, rfl⟩ := hvv
  have HX := Lib.hid hx1
  clear hN hb1 hx1 HS c1
  go_wp2_with fail
  go_loopw [5, 15] (fun ss ii wr => ∃ k : Nat, k ≤ n ∧ ii = .int .i64 k ∧ wr.ownsRow w1.heap.size 3 1 ss (nats (rwF sw v v k)).length (ints (nats (rwF sw v v k))) ∧ Below w1.heap.size w1 wr) (fun _ ii _ => n - (intOf ii).toNat)
  case atStart => exact ⟨0, Nat.zero_le _, rfl, World.ownsRow_nil _ _ _ _, Below.refl _ _⟩
  case round =>
    obtain ⟨k, hk, rfl, hB, hb⟩ := hrel
    have HO := Lib.hid hB
    have HB := Lib.hid hb
    obtain ⟨ao', c', rfl⟩ := owns_form hB
    clear hB hb
    by_cases hlt : k < n
    · obtain ⟨b1, o1, rfl, hck⟩ := HX.out k hlt
      have hck' := ck hck HB.out
      clear hck
      by_cases hki : k = v
      · have HS := Lib.hid (rwF_yes (bs := sw) (j := v) hki)
        have hne : ((k:Int) != (v:Int)) = false := by simp; omega
        generalize sw.getD k 0 = r at *
        clear hki
        go_wp2_with fail
        go_roundw
        case rel => exact ⟨k + 1, by omega, by go_num, by rw [HS.out]; exact HO.out, HB.out⟩
        case measure => simp [intOf]; omega
      · have HS := Lib.hid (rwF_no (bs := sw) (j := v) hki)
        have hne : ((k:Int) != (v:Int)) = true := by simp; omega
        have hll : (nats (rwF sw v v k)).length ≤ 16 := by rw [nats_length]; have := rwF_length sw v v k; omega
        have hr : sw.getD k 0 < 65536 := HSG.out.get16 k
        have HV := Lib.hid (wo_val v (sw.getD k 0) hv16 hr)
        generalize sw.getD k 0 = r at *
        generalize nats (rwF sw v v k) = tp at *
        clear hki
        go_wp2_with fail
        go_region_held3 (fun _ => True) (trivial) ((rw [if_pos (by rfl)]; refine wp_append_own _ _ _ 22 rfl w1.heap.size 3 i0 (.int .i64 0) 1 8 Tryd.underlying22 hi0 hz0 hz1 hz2 rfl (by decide) _ _ _ rfl (HO.out.alloc _) ⟨wr.heap.size, 0, none⟩ 1 1 [.int .i64 (woN v r : Nat)] rfl rfl (by rw [← HV.out]; exact newOne _ _ _) (oneInt _) (by unfold maxLen; omega) (by omega) (by have := HB.out.size; simp; omega) ?_; intro v' w2 hown' hgrow _))
        have HR := Lib.hid (int_step HO.out HB.out HB.out.size hown' (v := .slice ao' tp.length c') (grownBy_undrew hgrow))
        clear hown' hgrow
        go_wp2
        go_roundw
        case rel => exact ⟨k + 1, by omega, by go_num, by rw [HS.out]; exact HR.out.1, HR.out.2⟩
        case measure => simp [intOf]; omega
    · obtain rfl : k = n := by omega
      have HV : Hid (Nats wr (.slice ao' (nats (rwF sw v v k)).length c') al) := Lib.hid (by
        have h := HO.out
        rw [HEnd.out] at h ⊢
        exact Ints.of_owns h (by rw [nats_length, HAL.out.1]; omega) HI64.out)
      have HB2 := Lib.hid (HB1.out.trans (HB.out.mono HB1.out.size))
      go_wp2
      go_ret
      exact ⟨_, rfl, HV.out, HB2.out⟩
end Go.Proofs.YtdnhfnegnjdeoaaDoor
