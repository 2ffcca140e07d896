/- Same: the program's and the reference's -/
import Derived.Test.YtdnhfnegnjdeoaaDoorLs
namespace Go.Proofs.YtdnhfnegnjdeoaaDoor
open Go.RowKit

/-- What Same returns. -/
def sameV (n : Nat) (bs cs : List Nat) : Value := if swL n bs (setOf n bs cs) = cs then .tuple #[.int .i64 (setOf n bs cs : Nat), .int .i64 0] else .tuple #[.int .i64 0, .int .i64 4]
theorem sameV_yes {n : Nat} {bs cs : List Nat} (h : swL n bs (setOf n bs cs) = cs) : sameV n bs cs = .tuple #[.int .i64 (setOf n bs cs : Nat), .int .i64 0] := if_pos h
theorem sameV_no {n : Nat} {bs cs : List Nat} (h : swL n bs (setOf n bs cs) ≠ cs) : sameV n bs cs = .tuple #[.int .i64 0, .int .i64 4] := if_neg h
theorem nats_inj {a b : List Nat} (h : nats a = nats b) : a = b := by
  have hl : a.length = b.length := by have := congrArg List.length h; rwa [nats_length, nats_length] at this
  refine list_ext rfl hl.symm fun i _ => ?_
  have := congrArg (fun l => l.getD i 0) h
  simp only [nats_getD] at this
  exact_mod_cast this
theorem eqB_nats (a b : List Nat) : eqB (nats a) (nats b) = decide (a = b) := by
  by_cases h : a = b
  · subst h; rw [eqB_refl]; simp
  · rw [decide_eq_false h]; exact decide_eq_false fun e => h (nats_inj e)

set_option maxRecDepth 100000 in
set_option maxHeartbeats 2000000 in
theorem Same_any (v u : Value) (bs cs : List Nat) (n : Nat) (w : World) (hb : Gr n bs) (h : Nats w v bs) (hc : Gr n cs) (h' : Nats w u cs) (hT : Tab w) :
    Calls Tryd.prog 42 #[v, u] w fun e w' => e = .returned (sameV n bs cs) ∧ Below w.heap.size w w' := by
  have HI := Lib.hid (isGraph_any v _ w h hT)
  rw [graphB_mk hb] at HI
  have HI2 := Lib.hid (fun w' (hb' : Below w.heap.size w w') => isGraph_any u _ w' (h'.below hb' (Nat.le_refl _)) (tab_below hT hb'))
  rw [graphB_mk hc] at HI2
  have HS := Lib.hid (fun w' (hb' : Below w.heap.size w w') => switched_any v bs n (setOf n bs cs) w' hb (h.below hb' (Nat.le_refl _)) (setOf_lt hb hc))
  have HGr := Lib.hid (swL_gr hb (setOf_lt hb hc))
  have HEq := Lib.hid (fun y w0 w' (h1 : Nats w' y (swL n bs (setOf n bs cs))) (hb0 : Below w.heap.size w w0) (hb1 : Below w0.heap.size w0 w') => equal_any y u _ _ w' h1 ((h'.below hb0 (Nat.le_refl _)).below hb1 (Nat.le_refl _)))
  rw [eqB_nats] at HEq
  have HY := Lib.hid (sameV_yes (n := n) (bs := bs) (cs := cs))
  have HN := Lib.hid (sameV_no (n := n) (bs := bs) (cs := cs))
  have hpos := hb.pos
  have hle := hb.le
  obtain ⟨l, hl⟩ : ∃ l, l = n - 1 := ⟨_, rfl⟩
  have hln : l < n := by omega
  have hlc : (n:Int) - 1 = (l:Int) := by omega
  obtain ⟨ao, cap, rfl, _, hx⟩ := hb.open h
  obtain ⟨ao', cap', rfl, _, hx'⟩ := hc.open h'
  obtain ⟨b, o, rfl, c1⟩ := hx l hln
  obtain ⟨b', o', rfl, c2⟩ := hx' l hln
  have hxor := i64_xor (bs.getD l 0) (cs.getD l 0) (by have := hb.get16 l; omega) (by have := hc.get16 l; omega)
  have hset : bs.getD l 0 ^^^ cs.getD l 0 = setOf n bs cs := by unfold setOf; rw [hl]
  rw [hset] at hxor
  have hi0 : (0:Int) ≤ (l:Int) := by omega
  have hi1 : (l:Int) < (n:Int) := by omega
  clear h h' hb hc hT hx hx' hl hset
  generalize setOf n bs cs = t at *
  generalize bs.getD l 0 = x at *
  generalize cs.getD l 0 = y at *
  go_enter Tryd.func42, Tryd.ntmps42
  go_wp2_with fail
  refine HI.out.mono ?_
  rintro e w1 ⟨rfl, hb1⟩
  have HB1 := Lib.hid hb1
  clear hb1
  go_wp2_with fail
  refine (HI2.out w1 HB1.out).mono ?_
  rintro e w2 ⟨rfl, hb2⟩
  have HB2 := Lib.hid (HB1.out.trans (hb2.mono HB1.out.size))
  have d1 := ck c1 HB2.out
  have d2 := ck c2 HB2.out
  clear hb2 c1 c2 HI HI2 HB1
  go_wp2_with fail
  go_quiet (fail)
  have HB3 := Lib.hid (below_drewN HB2.out nq)
  generalize w2.drewN nq = w3 at *
  clear HB2 d1 d2
  go_wp2_with fail
  refine (HS.out w3 HB3.out).mono ?_
  rintro e w4 ⟨a4, c4, rfl, hO, hb4⟩
  have HN4 := Lib.hid (HGr.out.of_owns hO)
  have HB4 := Lib.hid (HB3.out.trans (hb4.mono HB3.out.size))
  clear hb4 hO
  go_wp2_with fail
  refine (HEq.out _ w4 w4 HN4.out HB4.out (Below.refl _ _)).mono ?_
  rintro e w5 ⟨rfl, hb5⟩
  have HB5 := Lib.hid (HB4.out.trans (hb5.mono HB4.out.size))
  clear hb5 HEq HS
  by_cases hs : swL n bs t = cs
  · have HV := Lib.hid (HY.out hs)
    rw [decide_eq_true hs]
    go_wp2_with fail
    go_ret2
    exact ⟨by rw [HV.out]; rfl, HB5.out⟩
  · have HV := Lib.hid (HN.out hs)
    rw [decide_eq_false hs]
    go_wp2_with fail
    go_ret2
    exact ⟨by rw [HV.out]; rfl, HB5.out⟩

set_option maxHeartbeats 1000000 in
theorem Same_bad (v u : Value) (xs ys : List Int) (w : World) (h : Ints w v xs) (h' : Ints w u ys) (hg : graphB xs = false ∨ graphB ys = false ∨ xs.length ≠ ys.length) (hT : Tab w) :
    Calls Tryd.prog 42 #[v, u] w fun e w' => e = .returned (.tuple #[.int .i64 0, .int .i64 2]) ∧ Below w.heap.size w w' := by
  have HI := Lib.hid (isGraph_any v _ w h hT)
  have HI2 := Lib.hid (fun w' (hb' : Below w.heap.size w w') => isGraph_any u _ w' (h'.below hb' (Nat.le_refl _)) (tab_below hT hb'))
  obtain ⟨ao, cap, rfl, _, _⟩ := h.open
  obtain ⟨ao', cap', rfl, _, _⟩ := h'.open
  clear h h' hT
  cases h1 : graphB xs with
  | false =>
    rw [h1] at HI
    clear hg h1 HI2
    go_enter Tryd.func42, Tryd.ntmps42
    go_wp2_with fail
    refine HI.out.mono ?_
    rintro e w1 ⟨rfl, hb1⟩
    have HB := Lib.hid hb1
    clear hb1
    go_wp2_with fail
    go_ret2
    exact ⟨rfl, HB.out⟩
  | true =>
    rw [h1] at HI
    cases h2 : graphB ys with
    | false =>
      rw [h2] at HI2
      clear hg h1 h2
      go_enter Tryd.func42, Tryd.ntmps42
      go_wp2_with fail
      refine HI.out.mono ?_
      rintro e w1 ⟨rfl, hb1⟩
      have HB := Lib.hid hb1
      clear hb1
      go_wp2_with fail
      refine (HI2.out w1 HB.out).mono ?_
      rintro e w2 ⟨rfl, hb2⟩
      have HB2 := Lib.hid (HB.out.trans (hb2.mono HB.out.size))
      clear hb2
      go_wp2_with fail
      go_ret2
      exact ⟨rfl, HB2.out⟩
    | true =>
      rw [h2] at HI2
      have hne : ((xs.length : Int) != (ys.length : Int)) = true := by
        have : xs.length ≠ ys.length := by simpa [h1, h2] using hg
        simp; omega
      clear hg h1 h2
      go_enter Tryd.func42, Tryd.ntmps42
      go_wp2_with fail
      refine HI.out.mono ?_
      rintro e w1 ⟨rfl, hb1⟩
      have HB := Lib.hid hb1
      clear hb1
      go_wp2_with fail
      refine (HI2.out w1 HB.out).mono ?_
      rintro e w2 ⟨rfl, hb2⟩
      have HB2 := Lib.hid (HB.out.trans (hb2.mono HB.out.size))
      clear hb2
      go_wp2_with fail
      go_ret2
      exact ⟨rfl, HB2.out⟩

def okB (es cs : List Nat) (j : Nat) : Bool := decide (∀ i, i < j → es.getD i 0 = cs.getD i 0)
theorem okB_step (es cs : List Nat) (j : Nat) : okB es cs (j + 1) = (okB es cs j && (es.getD j 0 == cs.getD j 0)) := by
  unfold okB
  by_cases h : ∀ i, i < j → es.getD i 0 = cs.getD i 0
  · rw [decide_eq_true h, Bool.true_and]
    by_cases e : es.getD j 0 = cs.getD j 0
    · rw [decide_eq_true, e, beq_self_eq_true]
      intro i hi
      by_cases e' : i = j
      · subst e'; exact e
      · exact h i (by omega)
    · rw [decide_eq_false (fun c => e (c j (by omega))), beq_eq_false_iff_ne.2 e]
  · rw [decide_eq_false h, Bool.false_and, decide_eq_false (fun c => h fun i hi => c i (by omega))]
theorem okB_end {n : Nat} {es cs : List Nat} (h : es.length = n) (h' : cs.length = n) : (okB es cs n = true) ↔ es = cs := by
  unfold okB
  rw [decide_eq_true_iff]
  constructor
  · exact fun c => list_ext h h' c
  · rintro rfl i _; rfl

set_option maxRecDepth 100000 in
set_option maxHeartbeats 2000000 in
theorem rSame_any (v u : Value) (bs cs : List Nat) (n : Nat) (w : World) (hb : Gr n bs) (h : Nats w v bs) (hc : Gr n cs) (h' : Nats w u cs) :
    Calls Tryd.prog 43 #[v, u] w fun e w' => e = .returned (sameV n bs cs) ∧ Below w.heap.size w w' := by
  have HS := Lib.hid (fun t w' (hb' : Below w.heap.size w w') (ht : t < 2 ^ n) => rSwitch_any v bs n t w' hb (h.below hb' (Nat.le_refl _)) ht)
  have HLE := Lib.hid (fun t (ht : t < 2 ^ n) (he : swL n bs t = cs) => set_least hb hc ht he)
  have HSL := Lib.hid (setOf_lt hb hc)
  have HSG := Lib.hid (fun t (ht : t < 2 ^ n) => swL_gr hb ht)
  have HOK := Lib.hid (fun t => okB_end (swL_length n bs t) hc.len)
  obtain ⟨ao, cap, rfl, _, _⟩ := hb.open h
  obtain ⟨ao', cap', rfl, _, hx'⟩ := hc.open h'
  have HX := Lib.hid hx'
  have hle := hb.le
  have hwp := wrap_pw n hle
  have hpn := pw_nat n hle
  have hpc : ((2 ^ n : Nat) : Int) = (2:Int) ^ n := pw_cast n
  clear h h' hb hc hx'
  go_enter Tryd.func43, Tryd.ntmps43
  go_wp2_with fail
  go_loopw [13] (fun ii wr => ∃ t : Nat, t ≤ 2 ^ n ∧ ii = .int .i64 t ∧ Hid (∀ t', t' < t → swL n bs t' ≠ cs) ∧ Below w.heap.size w wr) (fun ii _ => 2 ^ n - (intOf ii).toNat)
  case atStart => exact ⟨0, Nat.zero_le _, rfl, Lib.hid (fun t h => absurd h (by omega)), Below.refl _ _⟩
  case round =>
    obtain ⟨t, ht, rfl, HNO, hb⟩ := hrel
    have HB := Lib.hid hb
    clear hb
    by_cases hlt : t < 2 ^ n
    · have hti : (t:Int) < (2:Int) ^ n := by rw [← hpc]; exact Int.ofNat_lt.2 hlt
      have HC := Lib.hid (HS.out t wr HB.out hlt)
      have HSGt := Lib.hid (HSG.out t hlt)
      have HOKt := Lib.hid (HOK.out t)
      have HFOUND : Hid (swL n bs t = cs → sameV n bs cs = .tuple #[.int .i64 t, .int .i64 0]) := Lib.hid fun he => by
        obtain ⟨h1, h2⟩ := HLE.out t hlt he
        have : setOf n bs cs = t := by
          by_cases e : setOf n bs cs = t
          · exact e
          · exact absurd h2 (HNO.out _ (by omega))
        rw [sameV_yes h2, this]
      have HNEXT : Hid (swL n bs t ≠ cs → ∀ t', t' < t + 1 → swL n bs t' ≠ cs) := Lib.hid fun he t' ht' => by
        by_cases e : t' = t
        · subst e; exact he
        · exact HNO.out t' (by omega)
      clear HNO HLE HSL HSG HOK
      generalize swL n bs t = es at *
      go_wp2_with fail
      refine HC.out.mono ?_
      rintro e w1 ⟨a1, c1, rfl, hN, hb1⟩
      have HB1 := Lib.hid (HB.out.trans (hb1.mono HB.out.size))
      obtain ⟨a1', c1', hv, _, hx1⟩ := HSGt.out.open hN
      simp only [Value.slice.injEq, true_and] at hv
      obtain ⟨rfl, rfl⟩ := hv
      have HX1 := Lib.hid hx1
      clear hN hb1 hx1 HC
      go_wp2_with fail
      go_loop [7, 20] (fun kk jj => ∃ j : Nat, j ≤ n ∧ jj = .int .i64 j ∧ kk = .bool (okB es cs j)) (fun _ jj => n - (intOf jj).toNat)
      case atStart => exact ⟨0, Nat.zero_le _, rfl, rfl⟩
      case round =>
        obtain ⟨j, hj, rfl, rfl⟩ := hrel
        by_cases hjt : j < n
        · obtain ⟨b, o, rfl, k1⟩ := HX1.out j hjt
          obtain ⟨b', o', rfl, k2⟩ := HX.out j hjt
          have k2' := ck k2 HB1.out
          have HST := Lib.hid (okB_step es cs j)
          clear k2
          generalize es.getD j 0 = x at *
          generalize cs.getD j 0 = y at *
          cases hok : okB es cs j with
          | true =>
            rw [hok] at HST
            have HV : Hid (okB es cs (j + 1) = ((x:Int) == (y:Int))) := Lib.hid (by
              rw [HST.out, Bool.true_and]
              by_cases e : x = y
              · subst e; rw [beq_self_eq_true, beq_self_eq_true]
              · rw [beq_eq_false_iff_ne.2 e, beq_eq_false_iff_ne.2 (fun h => e (Int.ofNat_inj.1 h))])
            clear HST hok
            go_wp2_with fail
            go_round
            case rel => exact ⟨j + 1, by omega, by go_num, by rw [HV.out]⟩
            case measure => simp [intOf]; omega
          | false =>
            rw [hok] at HST
            have HV : Hid (okB es cs (j + 1) = false) := HST.out
            clear HST hok
            go_wp2_with fail
            go_round
            case rel => exact ⟨j + 1, by omega, by go_num, by rw [HV.out]⟩
            case measure => simp [intOf]; omega
        · obtain rfl : j = n := by omega
          cases hok : okB es cs j with
          | true =>
            have HV := Lib.hid (HFOUND.out (HOKt.out.1 hok))
            clear HOKt HFOUND HNEXT hok
            go_wp2_with fail
            go_ret2
            exact ⟨by rw [HV.out]; rfl, HB1.out⟩
          | false =>
            have HYtdnhfnegnjdeoaaDoor := Lib.hid (HNEXT.out (fun e => by rw [HOKt.out.2 e] at hok; cases hok))
            clear HOKt HFOUND HNEXT hok
            go_wp2_with fail
            go_roundw
            case rel => exact ⟨t + 1, by omega, by go_num, HYtdnhfnegnjdeoaaDoor, HB1.out⟩
            case measure => simp [intOf]; omega
    · obtain rfl : t = 2 ^ n := by omega
      have HV := Lib.hid (sameV_no (HNO.out _ HSL.out))
      have hnt : ¬ (((2 ^ n : Nat) : Int) < (2:Int) ^ n) := by rw [hpc]; exact Int.lt_irrefl _
      clear HNO HLE HSL HSG HOK
      go_wp2_with fail
      go_ret2
      exact ⟨by rw [HV.out]; rfl, HB.out⟩
end Go.Proofs.YtdnhfnegnjdeoaaDoor
