/- TopRegular: the walk -/
import Derived.Test.YtdnhfnegnjdeoaaDoorTi5
namespace Go.Proofs.YtdnhfnegnjdeoaaDoor
open Go.RowKit

def PX (X : List Nat) (i j : Nat) : Prop := (X.getD i 0).testBit j = (X.getD j 0).testBit i ∧ (X.getD i 0).testBit i = (X.getD 0 0).testBit 0

set_option maxRecDepth 100000 in
set_option maxHeartbeats 2000000 in
theorem top_bad (v u : Value) (xs ys : List Int) (w : World) (hT : Tab w) (h : Ints w v xs) (h' : Ints w u ys) (hx : (regB xs && regB ys) = false) :
    Calls Tryd.prog 16 #[v, u] w fun e w' => e = .returned (.bool true) ∧ Below w.heap.size w w' := by
  have HTi := Lib.hid (fun w' (hb : Below w.heap.size w w') => ties_any w' (tab_below hT hb))
  have HR1 := Lib.hid (regular_any v xs w h)
  have HR2 := Lib.hid (fun w' (hb : Below w.heap.size w w') => regular_any u ys w' (h'.below hb (Nat.le_refl _)))
  obtain ⟨ao, cap, rfl, _, _⟩ := h.open
  obtain ⟨bo, cap2, rfl, _, _⟩ := h'.open
  unfold RegPost at HR1 HR2
  clear h h' hT
  generalize regB xs = p at *
  generalize regB ys = q at *
  cases p <;> cases q <;> (first | (exact absurd hx (by decide)) | skip)
  all_goals (
    clear hx
    go_enter Tryd.func16, Tryd.ntmps16
    go_wp2_with fail
    refine HR1.out.mono ?_
    rintro e w1 ⟨u1, rfl, hn1, hb1⟩
    have HB1 := Lib.hid hb1
    clear hn1 hb1
    go_wp2_with fail
    refine (HR2.out _ HB1.out).mono ?_
    rintro e w2 ⟨u2, rfl, hn2, hb2⟩
    have HB2 := Lib.hid (HB1.out.trans (hb2.mono HB1.out.size))
    clear hn2 hb2
    go_wp2_with fail
    refine (HTi.out _ HB2.out).mono ?_
    rintro e w3 ⟨rfl, hb3⟩
    have HB3 := Lib.hid (HB2.out.trans (hb3.mono HB2.out.size))
    clear hb3
    go_wp2
    go_ret
    exact ⟨rfl, HB3.out⟩)

set_option maxRecDepth 100000 in
set_option maxHeartbeats 4000000 in
theorem top_good (v u : Value) (xs ys : List Int) (w : World) (hT : Tab w) (h : Ints w v xs) (h' : Ints w u ys) (hx : regB xs = true) (hy : regB ys = true) :
    Calls Tryd.prog 16 #[v, u] w fun e w' => e = .returned (.bool true) ∧ Below w.heap.size w w' := by
  have HTi := Lib.hid (fun w' (hb : Below w.heap.size w w') => ties_any w' (tab_below hT hb))
  have HR1 := Lib.hid (regular_any v xs w h)
  have HR2 := Lib.hid (fun w' (hb : Below w.heap.size w w') => regular_any u ys w' (h'.below hb (Nat.le_refl _)))
  obtain ⟨aa, ca, rfl, _, _⟩ := h.open
  obtain ⟨ba, cb, rfl, _, _⟩ := h'.open
  have HTm := Lib.hid (fun va vb w' (ha : Nats w' va (pwL xs)) (hb : Nats w' vb (pwL ys)) => times_good va vb _ _ 4 4 w' (mat_p24 (reg_p24 hx)) (mat_p24 (reg_p24 hy)) (by decide) ha hb)
  have HGood := Lib.hid (prX_good (reg_p24 hx) (reg_p24 hy))
  have HX16 := Lib.hid (prX_lt (pwL xs) (pwL ys))
  have HXL := Lib.hid (prX_length (pwL xs) (pwL ys))
  rw [show plantL (4 * 4) (timesF (pwL xs) (pwL ys) 4) = prX (pwL xs) (pwL ys) from rfl] at HTm
  unfold RegPost at HR1 HR2
  rw [hx] at HR1
  rw [hy] at HR2
  generalize prX (pwL xs) (pwL ys) = X at *
  have HRd := Lib.hid (fun g w' (hb : Below w.heap.size w w') (hG : Gr 16 (gI X 16)) (hN : Nats w' g (gI X 16)) => Read_any g _ 16 w' hG hN (tab_below hT hb))
  have hmk : ∀ W : World, (Instr.makeSlice 22 (.int .i64 16) (.int .i64 16)).run Tryd.prog W = .ok (.slice (some ⟨W.heap.size, 0, none⟩) 16 16) (W.alloc (.cells (ints (List.replicate 16 0)).toArray 3)) := run_make22 16 16 (Nat.le_refl _) (by decide)
  clear h h' hT hx hy
  go_enter Tryd.func16, Tryd.ntmps16
  go_wp2_with fail
  refine HR1.out.mono ?_
  rintro e w1 ⟨u1, rfl, hn1, hb1⟩
  have HN1 := Lib.hid (hn1 trivial)
  have HB1 := Lib.hid hb1
  obtain ⟨a1, c1, rfl, _⟩ := HN1.out.open
  clear hn1 hb1
  go_wp2_with fail
  refine (HR2.out _ HB1.out).mono ?_
  rintro e w2 ⟨u2, rfl, hn2, hb2⟩
  have HN2 := Lib.hid (hn2 trivial)
  have HN1' := Lib.hid (HN1.out.below hb2 (Nat.le_refl _))
  have HB2 := Lib.hid (HB1.out.trans (hb2.mono HB1.out.size))
  obtain ⟨a2, c2, rfl, _⟩ := HN2.out.open
  clear hn2 hb2 HN1
  go_wp2_with fail
  refine (HTm.out _ _ _ HN1'.out HN2.out).mono ?_
  rintro e w3 ⟨v3, rfl, hX, hb3⟩
  have HB3 := Lib.hid (HB2.out.trans (hb3.mono HB2.out.size))
  obtain ⟨ao, cap, hv, hcap, _, hxc⟩ := hX.open
  rw [HXL.out] at hv hcap hxc
  subst hv
  obtain ⟨b, o, rfl, _⟩ := hxc 0 (by decide)
  have HXc : Hid (∀ k, k < 16 → w3.cell? ⟨b, o + k, none⟩ = some (.int .i64 (X.getD k 0 : Nat))) := Lib.hid fun k hk => by
    obtain ⟨b', o', e, hc⟩ := hxc k hk
    cases e
    exact hc
  clear hX hb3 hxc HR1 HR2 HTm HN2 HN1' HB1 HB2
  go_wp2_with fail
  go_loopw [52] (fun ii wr => ∃ k : Nat, k ≤ 16 ∧ ii = .int .i64 k ∧ NatBlk wr w3.heap.size (gI X k) ∧ Below w3.heap.size w3 wr) (fun ii _ => 16 - (intOf ii).toNat)
  case atStart => exact ⟨0, Nat.zero_le _, rfl, NatBlk.start w3 (gI X 0), (Below.refl _ _).alloc (Nat.le_refl _) _⟩
  case round =>
    obtain ⟨k, hk, rfl, hB, hb⟩ := hrel
    have HNB := Lib.hid hB
    have HB := Lib.hid hb
    clear hB hb
    by_cases hlt : k < 16
    · have hkI : (k:Int) < 16 := by omega
      have hck := ck (HXc.out k hlt) HB.out
      have hx16 := HX16.out k
      have HGI : Hid (gI X (k + 1) = gJ X k (gI X k) 16) := Lib.hid rfl
      have HG0 := Lib.hid (gI_lt X (i := k) hk)
      have HGL := Lib.hid (gI_length X k)
      have HXB : Hid (∀ g d, (X.getD k 0).testBit d = false ∨ k = d → stepG X g k d = g) := Lib.hid fun g d h => stepG_no h
      have HXY : Hid (∀ g d, (X.getD k 0).testBit d = true → k ≠ d → stepG X g k d = (g.set k (g.getD k 0 ||| 2 ^ d)).set d (g.getD d 0 ||| 2 ^ k)) := Lib.hid fun g d h e => stepG_yes h e
      generalize gI X k = g0 at *
      have HJ0 : Hid (g0 = gJ X k g0 0) := Lib.hid rfl
      generalize X.getD k 0 = xk at *
      go_wp2_with fail
      go_loopw [57] (fun jj wo => ∃ l : Nat, l ≤ 16 ∧ jj = .int .i64 l ∧ NatBlk wo w3.heap.size (gJ X k g0 l) ∧ Below w3.heap.size w3 wo) (fun jj _ => 16 - (intOf jj).toNat)
      case atStart => exact ⟨0, Nat.zero_le _, rfl, by rw [← HJ0.out]; exact HNB.out, HB.out⟩
      case round =>
        clear HNB HB hck
        obtain ⟨l, hl, rfl, hB, hb⟩ := hrel
        have HNB := Lib.hid hB
        have HB := Lib.hid hb
        clear hB hb
        by_cases hltl : l < 16
        · have hlI : (l:Int) < 16 := by omega
          have HS : Hid (gJ X k g0 (l + 1) = stepG X (gJ X k g0 l) k l) := Lib.hid rfl
          have HGl := Lib.hid (gJ_lt (X := X) (i := k) hlt HG0.out hl)
          have HLl : Hid ((gJ X k g0 l).length = 16) := Lib.hid (by rw [gJ_length]; exact HGL.out)
          have HXB' := Lib.hid (HXB.out (gJ X k g0 l) l)
          have HXY' := Lib.hid (HXY.out (gJ X k g0 l) l)
          rw [← HS.out] at HXB' HXY'
          generalize gJ X k g0 l = g1 at *
          have HV := Lib.hid (bit_and1' xk l hx16)
          clear HS
          cases ht : xk.testBit l with
          | false =>
            have hv : (bits .and .i64 ((xk:Int) / 2 ^ l) 1 == 1) = false := by rw [HV.out, ht]
            have HE := Lib.hid (HXB'.out (.inl ht))
            clear ht HV
            go_wp2_with fail
            go_roundw
            case rel => exact ⟨l + 1, by omega, by go_num, by rw [HE.out]; exact HNB.out, HB.out⟩
            case measure => simp [intOf]; omega
          | true =>
            have hv : (bits .and .i64 ((xk:Int) / 2 ^ l) 1 == 1) = true := by rw [HV.out, ht]
            by_cases hkl : k = l
            · have hne : ((k:Int) != (l:Int)) = false := by simp; omega
              have HE := Lib.hid (HXB'.out (.inr hkl))
              clear ht HV hkl
              go_wp2_with fail
              go_roundw
              case rel => exact ⟨l + 1, by omega, by go_num, by rw [HE.out]; exact HNB.out, HB.out⟩
              case measure => simp [intOf]; omega
            · have hne : ((k:Int) != (l:Int)) = true := by simp; omega
              have HE := Lib.hid (HXY'.out ht hkl)
              obtain ⟨hc1, hf1⟩ := HNB.out.cell (k := k) (by rw [HLl.out]; exact hlt)
              have ha16 := all_get (by decide) HGl.out k
              have hb16 := all_get (by decide) HGl.out l
              have hor1 := or_pw (g1.getD k 0) l ha16 hltl
              have hor2 := or_pw (g1.getD l 0) k hb16 hlt
              have hpw1 := wrap_pw l hl
              have hpw2 := wrap_pw k hk
              have HN2 := Lib.hid (HNB.out.set k (g1.getD k 0 ||| 2 ^ l))
              have hgl : (g1.set k (g1.getD k 0 ||| 2 ^ l)).getD l 0 = g1.getD l 0 := by
                simp [List.getElem?_set_ne hkl]
              obtain ⟨hc2, hf2⟩ := HN2.out.cell (k := l) (by rw [List.length_set, HLl.out]; exact hltl)
              rw [hgl] at hc2
              have HN3 := Lib.hid (HN2.out.set l (g1.getD l 0 ||| 2 ^ k))
              rw [← HE.out] at HN3
              have HB4 := Lib.hid ((HB.out.setCell (p := ⟨w3.heap.size, k, none⟩) (Nat.le_refl _) (.int .i64 (g1.getD k 0 ||| 2 ^ l : Nat))).setCell (p := ⟨w3.heap.size, l, none⟩) (Nat.le_refl _) (.int .i64 (g1.getD l 0 ||| 2 ^ k : Nat)))
              clear ht HV hkl hgl HN2 HE
              generalize g1.getD k 0 = x1 at *
              generalize g1.getD l 0 = x2 at *
              have hc2' : ((wr.setCell ⟨w3.heap.size, k, none⟩ (.int .i64 (x1 ||| 2 ^ l : Nat))).drew).cell? ⟨w3.heap.size, l, none⟩ = some (.int .i64 (x2 : Nat)) := hc2
              have hf2' : ((wr.setCell ⟨w3.heap.size, k, none⟩ (.int .i64 (x1 ||| 2 ^ l : Nat))).drew).frozen? ⟨w3.heap.size, l, none⟩ = false := hf2
              go_wp2_with fail
              go_region
              go_wp2_with fail
              go_region
              go_wp2
              go_roundw
              case rel => exact ⟨l + 1, by omega, by go_num, HN3.out, HB4.out.drew.drew⟩
              case measure => simp [intOf]; omega
        · obtain rfl : l = 16 := by omega
          rw [← HGI.out] at HNB
          go_wp2
          go_roundw
          case rel => exact ⟨k + 1, by omega, by go_num, HNB.out, HB.out⟩
          case measure => simp [intOf]; omega
    · obtain rfl : k = 16 := by omega
      go_wp2_with fail
      go_loopw [90] (fun ii wo => ∃ k : Nat, k ≤ 16 ∧ ii = .int .i64 k ∧ (∀ i, i < k → ∀ j, j < 16 → PX X i j) ∧ NatBlk wo w3.heap.size (gI X 16) ∧ Below w3.heap.size w3 wo) (fun ii _ => 16 - (intOf ii).toNat)
      case atStart => exact ⟨0, Nat.zero_le _, rfl, fun i hi => absurd hi (by omega), HNB.out, HB.out⟩
      case round =>
        clear HNB HB
        obtain ⟨k, hk, rfl, hP, hB, hb⟩ := hrel
        have HP := Lib.hid hP
        have HNB := Lib.hid hB
        have HB := Lib.hid hb
        clear hB hb hP
        by_cases hlt : k < 16
        · have hkI : (k:Int) < 16 := by omega
          have hck := ck (HXc.out k hlt) HB.out
          obtain ⟨xk, hxk⟩ : ∃ x, x = X.getD k 0 := ⟨_, rfl⟩
          rw [← hxk] at hck
          have HXK := Lib.hid hxk
          have hxk16 : xk < 65536 := by rw [hxk]; exact HX16.out k
          clear hxk
          go_wp2_with fail
          go_loopw [95] (fun jj wi => ∃ l : Nat, l ≤ 16 ∧ jj = .int .i64 l ∧ (∀ j, j < l → PX X k j) ∧ NatBlk wi w3.heap.size (gI X 16) ∧ Below w3.heap.size w3 wi) (fun jj _ => 16 - (intOf jj).toNat)
          case atStart => exact ⟨0, Nat.zero_le _, rfl, fun i hi => absurd hi (by omega), HNB.out, HB.out⟩
          case round =>
            clear HNB HB hck
            obtain ⟨l, hl, rfl, hQ, hB, hb⟩ := hrel
            have HQ := Lib.hid hQ
            have HNB := Lib.hid hB
            have HB := Lib.hid hb
            clear hB hb hQ
            by_cases hltl : l < 16
            · have hlI : (l:Int) < 16 := by omega
              have hk0 : (0:Int) ≤ (k:Int) := by omega
              have hl0 : (0:Int) ≤ (l:Int) := by omega
              have hcl := ck (HXc.out l hltl) HB.out
              have hc0 := ck (HXc.out 0 (by decide)) HB.out
              rw [Nat.add_zero] at hc0
              have HV1 := Lib.hid (bit_and1 xk l hxk16)
              have HV2 := Lib.hid (bit_and1 (X.getD l 0) k (HX16.out l))
              have HV3 := Lib.hid (bit_and1 xk k hxk16)
              have HV4 := Lib.hid (low_and (X.getD 0 0) (HX16.out 0))
              have HPX : Hid (xk.testBit l = (X.getD l 0).testBit k → xk.testBit k = (X.getD 0 0).testBit 0 → ∀ j, j < l + 1 → PX X k j) := Lib.hid fun a c j hj => by
                rw [HXK.out] at a c
                by_cases e : j = l
                · subst e; exact ⟨a, c⟩
                · exact HQ.out j (by omega)
              have HB5 := Lib.hid (HB3.out.trans (HB.out.mono HB3.out.size))
              generalize X.getD l 0 = xl at *
              generalize X.getD 0 0 = x0 at *
              by_cases h1 : xk.testBit l = xl.testBit k
              · have hv1 : (bits .and .i64 ((xk:Int) / 2 ^ l) 1 != bits .and .i64 ((xl:Int) / 2 ^ k) 1) = false := by rw [HV1.out, HV2.out, h1]; simp
                by_cases h2 : xk.testBit k = x0.testBit 0
                · have hv2 : (bits .and .i64 ((xk:Int) / 2 ^ k) 1 != bits .and .i64 (x0:Int) 1) = false := by rw [HV3.out, HV4.out, h2]; simp
                  have HQ' := Lib.hid (HPX.out h1 h2)
                  clear h1 h2 HV1 HV2 HV3 HV4 HPX
                  go_wp2_with fail
                  go_quiet (fail)
                  go_wp2
                  go_roundw
                  case rel => exact ⟨l + 1, by omega, by go_num, HQ'.out, HNB.out.below (below_drewN (Below.refl _ _) _), below_drewN HB.out _⟩
                  case measure => simp [intOf]; omega
                · have hv2 : (bits .and .i64 ((xk:Int) / 2 ^ k) 1 != bits .and .i64 (x0:Int) 1) = true := by
                    rw [HV3.out, HV4.out]; revert h2; cases xk.testBit k <;> cases x0.testBit 0 <;> simp
                  clear h1 h2 HV1 HV2 HV3 HV4 HPX
                  go_wp2_with fail
                  go_quiet (fail)
                  go_wp2_with fail
                  refine (HTi.out _ (below_drewN HB5.out _)).mono ?_
                  rintro e w6 ⟨rfl, hb6⟩
                  have HB6 := Lib.hid ((below_drewN HB5.out _).trans (hb6.mono (below_drewN HB5.out _).size))
                  clear hb6
                  go_wp2
                  go_ret
                  exact ⟨rfl, HB6.out⟩
              · have hv1 : (bits .and .i64 ((xk:Int) / 2 ^ l) 1 != bits .and .i64 ((xl:Int) / 2 ^ k) 1) = true := by
                  rw [HV1.out, HV2.out]; revert h1; cases xk.testBit l <;> cases xl.testBit k <;> simp
                clear h1 HV1 HV2 HV3 HV4 HPX
                go_wp2_with fail
                go_quiet (fail)
                go_wp2_with fail
                refine (HTi.out _ (below_drewN HB5.out _)).mono ?_
                rintro e w6 ⟨rfl, hb6⟩
                have HB6 := Lib.hid ((below_drewN HB5.out _).trans (hb6.mono (below_drewN HB5.out _).size))
                clear hb6
                go_wp2
                go_ret
                exact ⟨rfl, HB6.out⟩
            · obtain rfl : l = 16 := by omega
              have HP' : Hid (∀ i, i < k + 1 → ∀ j, j < 16 → PX X i j) := Lib.hid fun i hi j hj => by
                by_cases e : i = k
                · subst e; exact HQ.out j hj
                · exact HP.out i (by omega) j hj
              go_wp2
              go_roundw
              case rel => exact ⟨k + 1, by omega, by go_num, HP'.out, HNB.out, HB.out⟩
              case measure => simp [intOf]; omega
        · obtain rfl : k = 16 := by omega
          obtain ⟨hG, hr⟩ := HGood.out (symB_of fun i hi j hj => HP.out i hi j hj)
          have HB5 := Lib.hid (HB3.out.trans (HB.out.mono HB3.out.size))
          have HRd' := Lib.hid (HRd.out _ _ HB5.out hG (HNB.out.gr hG))
          have hc0 := ck (HXc.out 0 (by decide)) HB.out
          rw [Nat.add_zero] at hc0
          have HV4 := Lib.hid (low_and (X.getD 0 0) (HX16.out 0))
          clear HRd HNB HP HGood hG
          cases hd : (X.getD 0 0).testBit 0 with
          | false =>
            rw [hr hd] at HRd'
            unfold readV num4 at HRd'
            have hv : (bits .and .i64 ((X.getD 0 0 : Nat) : Int) 1 == 1) = false := by rw [HV4.out, hd]; rfl
            clear hr hd HV4 HX16 HXL HXc HB HB3
            generalize X.getD 0 0 = x0 at *
            go_wp2_with fail
            refine HRd'.out.mono ?_
            rintro e w5 ⟨rfl, hb5⟩
            have HB6 := Lib.hid (HB5.out.trans (hb5.mono HB5.out.size))
            have hc5 := ck (ck hc0 hb5) ((Below.refl w5.heap.size w5).alloc (Nat.le_refl _) (.cells #[.int .i64 16, .int .i64 6, .int .i64 2, .int .i64 2] 24))
            have HB7 := Lib.hid (HB6.out.alloc HB6.out.size (.cells #[.int .i64 16, .int .i64 6, .int .i64 2, .int .i64 2] 24))
            have hQ := Q4.new w5 24 16 6 2 2
            have y0 := hQ.c0
            have y1 := hQ.c1
            have y2 := hQ.c2
            have y3 := hQ.c3
            clear hQ hb5 hc0 HRd' HB5
            go_wp2_with fail
            refine (HTi.out _ HB7.out).mono ?_
            rintro e w6 ⟨rfl, hb6⟩
            have HB8 := Lib.hid (HB7.out.trans (hb6.mono HB7.out.size))
            clear hb6 y0 y1 y2 y3 hc5
            go_wp2
            go_ret
            exact ⟨rfl, HB8.out⟩
          | true =>
            obtain ⟨ka, kb, kc, kd, ke, hf⟩ := readV_form 16 (readP 16 (gI X 16))
            rw [hf] at HRd'
            try unfold num4 at HRd'
            have hv : (bits .and .i64 ((X.getD 0 0 : Nat) : Int) 1 == 1) = true := by rw [HV4.out, hd]; rfl
            clear hr hd HV4 HX16 HXL HXc HB HB3 hf
            generalize X.getD 0 0 = x0 at *
            go_wp2_with fail
            refine HRd'.out.mono ?_
            rintro e w5 ⟨rfl, hb5⟩
            have HB6 := Lib.hid (HB5.out.trans (hb5.mono HB5.out.size))
            have hc5 := ck (ck hc0 hb5) ((Below.refl w5.heap.size w5).alloc (Nat.le_refl _) (.cells #[.int .i64 ka, .int .i64 kb, .int .i64 kc, .int .i64 kd] 24))
            have HB7 := Lib.hid (HB6.out.alloc HB6.out.size (.cells #[.int .i64 ka, .int .i64 kb, .int .i64 kc, .int .i64 kd] 24))
            clear hb5 hc0 HRd' HB5
            go_wp2_with fail
            refine (HTi.out _ HB7.out).mono ?_
            rintro e w6 ⟨rfl, hb6⟩
            have HB8 := Lib.hid (HB7.out.trans (hb6.mono HB7.out.size))
            clear hb6 hc5
            go_wp2
            go_ret
            exact ⟨rfl, HB8.out⟩
theorem topRegular_law (v u : Value) (xs ys : List Int) (w : World) (hT : Tab w) (h : Ints w v xs) (h' : Ints w u ys) :
    Calls Tryd.prog 16 #[v, u] w fun e w' => e = .returned (.bool true) ∧ Below w.heap.size w w' := by
  cases hx : regB xs <;> cases hy : regB ys
  · exact top_bad v u xs ys w hT h h' (by rw [hx, hy]; rfl)
  · exact top_bad v u xs ys w hT h h' (by rw [hx, hy]; rfl)
  · exact top_bad v u xs ys w hT h h' (by rw [hx, hy]; rfl)
  · exact top_good v u xs ys w hT h h' hx hy
end Go.Proofs.YtdnhfnegnjdeoaaDoor
