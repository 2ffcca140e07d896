/- TopRobinson -/
import Derived.Test.YtlnbodpdgebflaaRb
import Derived.Test.YtlnbodpdgebflaaTk
namespace Go.Proofs.Ytlnbodpdgebflaa
open Go.RowKit

set_option maxRecDepth 100000 in
set_option maxHeartbeats 2000000 in
theorem robinson (g : Nat) (hg : g < 4) (n : Int) (hm : (IntKind.u64.wrap n).tmod 4 = (g : Int)) (w : World) : Calls Try.prog 17 #[.int .i64 n] w fun e w' => e = .returned (.bool true) ∧ Below w.heap.size w w' := by
  have hg17 : g < 17 := by omega
  have hE := tE hg17
  obtain ⟨hsh, hrows, hRl, hpre, hsq, hsm⟩ := rb_facts hg
  have hgV : gV (kd g) (nm g) = .agg #[.int .u8 65, .int .i64 (1 + (g : Int))] := by
    rcases (show g = 0 ∨ g = 1 ∨ g = 2 ∨ g = 3 by omega) with rfl | rfl | rfl | rfl <;> rfl
  have HAl := Lib.hid (fun W => All_ok g hg17 W)
  have HSh := Lib.hid (fun W => Shapes_any (g + 2) (by omega) (by omega) hrows W)
  have HSt := Lib.hid (fun w vl l h => standard_any w vl l h)
  have HCl := Lib.hid (fun v zs W h => clone1_any v zs W h)
  have HBk := Lib.hid (fun x v W (hx : x < nE g) h => Back_ok g hg17 v (nats (wd g x)) W h (word_wd hg17 hx))
  have HEq := Lib.hid (fun v v' xs ys W h h' => equal_any v v' xs ys W h h')
  have HLo := Lib.hid (fun W => Longest_ok g hg17 W)
  have HWs := Lib.hid (fun v W h => Words_ok g hg17 v (nats (wd g (nE g - 1))) W h (word_wd hg17 (by omega)))
  have HTu := Lib.hid (fun W => turns_any W)
  rw [folI_wd hg17 (by omega)] at HWs
  have hbk : ∀ x, x < nE g → folI g (nats (wd g x)).reverse = bk g x := fun x hx => by rw [folI_rev hg17 (word_wd hg17 hx), folI_wd hg17 hx]
  have HBK := Lib.hid hbk
  have HBL := Lib.hid (fun x (hx : x < nE g) => (tx hg17 (bk_lt hg17 hx)).2.1)
  have HTX := Lib.hid (fun x (hx : x < nE g) => (tx hg17 hx).2.1)
  rw [hgV] at HAl HBk HLo HWs
  have HSH := Lib.hid hsh
  have HPR := Lib.hid hpre
  have HSQ := Lib.hid hsq
  have HSM := Lib.hid hsm
  change Hid (∀ W, Calls Try.prog 65 #[.int .i64 (g + 2 : Nat)] W fun e w' => ∃ a c, e = .returned (.slice a (shR g).length c) ∧ NatRows w' (.slice a (shR g).length c) (shR g) ∧ Below W.heap.size W w') at HSh
  rw [show ((g + 2 : Nat) : Int) = 1 + (g : Int) + 1 by omega] at HSh
  have h120 := hE.2
  clear hsh hrows hpre hsq hsm hbk hgV hE
  obtain ⟨rl, hrl⟩ : ∃ rl, rl = (shR g).length := ⟨_, rfl⟩
  rw [← hrl] at hRl HPR HSQ HSM HSh
  have HRL := Lib.hid hrl
  clear hrl
  go_enter Try.func17, Try.ntmps17
  go_wp2_with fail
  refine (HAl.out _).mono ?_
  rintro e w1 ⟨ab, ac, rfl, hpt, hcap, hb⟩
  have HG : Hid (Blk 28 w1 w.heap.size #[.int .u8 65, .int .i64 (1 + (g : Int))]) := Lib.hid ((Blk.new _ _ _).below hb)
  have HB : Hid (Below w.heap.size w w1) := Lib.hid (bl1 hb)
  have HPT := Lib.hid hpt
  clear hb hpt HAl
  go_wp2_with fail
  refine (HSh.out _).mono ?_
  rintro e w2 ⟨ra, rc, rfl, hr, hb⟩
  have HG2 := Lib.hid (HG.out.below hb)
  have HPT2 : Hid (Pts w2 ab (nE g) (wd g)) := Lib.hid (HPT.out.below hb (Nat.le_refl _))
  have HB2 := Lib.hid (HB.out.trans (hb.mono HB.out.size))
  obtain ⟨_, _, e, hrcap, _, hrx⟩ := SlOf.open hr
  rw [← HRL.out] at e hrcap
  simp only [Value.slice.injEq] at e
  obtain ⟨rfl, -, rfl⟩ := e
  have HRX := Lib.hid hrx
  clear hr hb hrx HG HPT HB HSh
  go_wp2_with fail
  go_loopw [42, 6, 7] (fun i a b wr => ∃ k : Nat, k ≤ rl ∧ i = .int .i64 k ∧ a = .int .i64 (sqK (shR g) k : Nat) ∧ b = .int .i64 (smK (shR g) k : Nat) ∧ Below w2.heap.size w2 wr) (fun i _ _ _ => rl - (intOf i).toNat)
  case atStart => exact ⟨0, Nat.zero_le _, rfl, rfl, rfl, Below.refl _ _⟩
  case round =>
    obtain ⟨k, hk, rfl, rfl, rfl, hb⟩ := hrel
    have HBr := Lib.hid hb
    have hpk := HPR.out k hk
    by_cases hkl : k < rl
    · obtain ⟨l, hl⟩ : ∃ l, (shR g)[k]? = some l := ⟨(shR g)[k]'(by rw [← HRL.out]; exact hkl), by simp⟩
      obtain ⟨lb, lo, lu, rfl, hck, hlu⟩ := HRX.out k l hl
      have c1 := ck hck hb
      have hs9 := HSH.out l (List.mem_of_getElem? hl)
      have hpk1 := HPR.out (k + 1) hkl
      rw [sqK_succ hl, smK_succ hl] at hpk1
      have HQ1 : Hid (sqK (shR g) (k + 1) = sqK (shR g) k + stN l * stN l) := Lib.hid (sqK_succ hl)
      have HQ2 : Hid (smK (shR g) (k + 1) = smK (shR g) k + stN l) := Lib.hid (smK_succ hl)
      obtain ⟨la, lc, rfl, _, _, _⟩ := Nats.open hlu
      have HC1 := Lib.hid (HCl.out _ (nats l) wr (Ints.below hlu hb (Nat.le_refl _)))
      rw [nats_length] at HC1
      have HLU := Lib.hid hlu.2
      clear hb hl hck hlu
      obtain ⟨sv, hsv⟩ : ∃ sv, sv = stN l := ⟨_, rfl⟩
      rw [← hsv] at hpk1 HQ1 HQ2 hs9
      have HSV := Lib.hid hsv
      clear hsv
      generalize sqK (shR g) k = s6 at *
      generalize smK (shR g) k = s7 at *
      go_wp2_with fail
      refine HC1.out.mono ?_
      clear HC1
      rintro e w3 ⟨ca, cc, rfl, hown, hb3⟩
      have HB3 : Hid (Below w2.heap.size w2 w3) := Lib.hid (HBr.out.trans (hb3.mono HBr.out.size))
      have hS := HSt.out w3 _ (nats l) (Ints.of_owns hown (by have := HRL.out; omega) HLU.out)
      unfold StdPost at hS
      rw [hs9.1, if_pos rfl, if_pos rfl, stdS_nats, ← HSV.out] at hS
      have HS := Lib.hid hS
      clear hown hb3 hS
      go_wp2_with fail
      refine HS.out.mono ?_
      clear HS
      rintro e w4 ⟨rfl, hb4⟩
      have HB4 : Hid (Below w2.heap.size w2 w4) := Lib.hid (HB3.out.trans (hb4.mono HB3.out.size))
      clear hb4 HB3 HBr
      have hmul : ((sv : Int) * (sv : Int)) = ((sv * sv : Nat) : Int) := by simp
      have hsv9 := hs9.2
      have hm9 : sv * sv ≤ 1000 := by omega
      generalize sv * sv = s2 at *
      clear hs9
      go_wp2_with fail
      go_roundw
      case rel => exact ⟨k + 1, by omega, by go_num, by rw [HQ1.out]; go_num, by rw [HQ2.out]; go_num, HB4.out⟩
      case measure => simp [intOf]; omega
    · have hkk : k = rl := by omega
      rw [hkk, HSQ.out, HSM.out] at hpk
      rw [show sqK (shR g) k = nE g by rw [hkk]; exact HSQ.out, show smK (shR g) k = ownK g (nE g) by rw [hkk]; exact HSM.out]
      have hnl9 : ¬ (k : Int) < (rl : Int) := by omega
      have HGr := Lib.hid (HG2.out.below hb)
      have HPTr : Hid (Pts wr ab (nE g) (wd g)) := Lib.hid (HPT2.out.below hb (Nat.le_refl _))
      have HBr2 := Lib.hid (HB2.out.trans (hb.mono HB2.out.size))
      clear hb hkk HG2 HPT2 HB2 HBr
      obtain ⟨own, hown⟩ : ∃ own, own = ownK g (nE g) := ⟨_, rfl⟩
      rw [← hown] at hpk
      rw [← hown]
      have HOWN := Lib.hid hown
      clear hown
      obtain ⟨ne, hne⟩ : ∃ ne, ne = nE g := ⟨_, rfl⟩
      rw [← hne] at h120 hpk hcap HPTr HOWN HBK HBL HTX HBk
      rw [← hne]
      have HNE := Lib.hid hne
      clear hne
      go_wp2_with fail
      go_loopw [65, 12] (fun i a wq => ∃ k : Nat, k ≤ ne ∧ i = .int .i64 k ∧ a = .int .i64 (ownK g k : Nat) ∧ Below wr.heap.size wr wq) (fun i _ _ => ne - (intOf i).toNat)
      case atStart => exact ⟨0, Nat.zero_le _, rfl, rfl, Below.refl _ _⟩
      case round =>
        rename World => wq
        obtain ⟨j, hj, rfl, rfl, hb⟩ := hrel
        have hoj := ownK_le g j
        by_cases hjl : j < ne
        · obtain ⟨wa, wc, hwc, hwn⟩ := HPTr.out j hjl
          have hc1 := ck hwc hb
          have hwn2 : Nats wq (.slice wa (wd g j).length wc) (wd g j) := Ints.below hwn hb (Nat.le_refl _)
          have HWN := Lib.hid hwn2
          have hll := HTX.out j hjl
          have HOS := Lib.hid (ownK_succ g j)
          have HCj := Lib.hid (fun W h => HCl.out (.slice wa (wd g j).length wc) (nats (wd g j)) W h)
          rw [nats_length] at HCj
          have HBj := Lib.hid (fun v W h => HBk.out j v W hjl h)
          rw [HBK.out j hjl] at HBj
          have hlb := HBL.out j hjl
          have HGq := Lib.hid (HGr.out.below hb)
          have HBq := Lib.hid hb
          have HIj : Hid (∀ x ∈ nats (wd g j), I64 x) := Lib.hid hwn.2
          have g0 := HGq.out.at0.1
          have g1 := HGq.out.at0.2
          have HKS : Hid (∀ W, Below wq.heap.size wq W → (W.cell? ⟨w.heap.size, 0, none⟩ = some (.int .u8 65) ∧ W.cell? ⟨w.heap.size, 1, none⟩ = some (.int .i64 (1 + (g : Int))))) := Lib.hid (fun W hb => ⟨ck g0 hb, ck g1 hb⟩)
          obtain ⟨eb, heb⟩ : ∃ eb, eb = eqB (nats (wd g (bk g j))) (nats (wd g j)) := ⟨_, rfl⟩
          rw [← heb] at HOS
          have HEB := Lib.hid heb
          clear hwn hwc hwn2 hb heb g0 g1
          have hlj : (wd g j).length = ln g j := rfl
          rw [hlj] at hc1 HWN HCj
          clear hlj
          generalize ln g j = lj at *
          generalize ln g (bk g j) = lbj at *
          go_wp2_with fail
          refine wp_region_held_drew (S := fun W => W.cell? ⟨w.heap.size, 0, none⟩ = some (.int .u8 65) ∧ W.cell? ⟨w.heap.size, 1, none⟩ = some (.int .i64 (1 + (g : Int)))) (by kernel_rfl) (HKS.out _ (below_drew (Below.refl _ _))) (fun hS0 => ?_)
          have hBd : Below wq.heap.size wq wq.drew := below_drew (Below.refl _ _)
          refine tk0 (v := (.agg #[.int .u8 65, .int .i64 (1 + (g : Int))])) (by kernel_rfl) (by kernel_rfl) (by kernel_rfl) (fun _ _ _ h => h) (Or.inl ⟨by kernel_rfl, fun w' hSw => by have h0 := hSw.1; have h1 := hSw.2; go_simp⟩) hS0 ?_
          try simp only [Act.put, List.setIfInBounds_toArray, List.set_cons_zero, List.set_cons_succ]
          refine tk1 (v := (.slice wa lj wc)) (by kernel_rfl) (by kernel_rfl) (by kernel_rfl) (fun _ _ _ h => h) (Or.inl ⟨by kernel_rfl, fun w' hSw => by go_simp⟩) hS0 ?_
          try simp only [Act.put, List.setIfInBounds_toArray, List.set_cons_zero, List.set_cons_succ]
          refine wpAnyH_ready (rs := [2]) (by kernel_rfl) (by simp) (AllReadyH.cons rfl (fun KK hKK => ?_) AllReadyH.nil)
          go_simp
          refine (HCj.out _ (Ints.below HWN.out hBd (Nat.le_refl _))).mono ?_
          rintro e wc1 ⟨ca, cc, rfl, hown, hb1⟩
          have hB1 : Below wq.heap.size wq wc1 := hBd.trans (hb1.mono hBd.size)
          refine hKK.out _ _ (HKS.out _ hB1) fun _ => ?_
          clear hKK
          have hIc : Ints wc1 (.slice ca lj cc) (nats (wd g j)) := Ints.of_owns hown (by omega) HIj.out
          refine wpAnyH_ready (rs := [3]) (by kernel_rfl) (by simp) (AllReadyH.cons rfl (fun KK hKK => ?_) AllReadyH.nil)
          go_simp
          refine (HBj.out _ _ hIc).mono ?_
          rintro e wc2 ⟨ba, bc, rfl, hbn, hb2⟩
          have hB2 : Below wq.heap.size wq wc2 := hB1.trans (hb2.mono hB1.size)
          have hS2 := HKS.out _ hB2
          refine hKK.out _ _ hS2 fun _ => ?_
          clear hKK
          refine tk4 (v := (.tuple #[.slice ba lbj bc, .int .i64 0])) (by kernel_rfl) (by kernel_rfl) (by kernel_rfl) (fun _ _ _ h => h) (Or.inl ⟨by kernel_rfl, fun w' hSw => by go_simp⟩) hS2 ?_
          try simp only [Act.put, List.setIfInBounds_toArray, List.set_cons_zero, List.set_cons_succ]
          refine tk5 (v := (.slice ba lbj bc)) (by kernel_rfl) (by kernel_rfl) (by kernel_rfl) (fun _ _ _ h => h) (Or.inl ⟨by kernel_rfl, fun w' hSw => by go_simp⟩) hS2 ?_
          try simp only [Act.put, List.setIfInBounds_toArray, List.set_cons_zero, List.set_cons_succ]
          refine tk6 (v := (.int .i64 0)) (by kernel_rfl) (by kernel_rfl) (by kernel_rfl) (fun _ _ _ h => h) (Or.inl ⟨by kernel_rfl, fun w' hSw => by go_simp⟩) hS2 ?_
          try simp only [Act.put, List.setIfInBounds_toArray, List.set_cons_zero, List.set_cons_succ]
          refine tk7 (v := (.slice ba lbj bc)) (by kernel_rfl) (by kernel_rfl) (by kernel_rfl) (fun _ _ _ h => h) (Or.inl ⟨by kernel_rfl, fun w' hSw => by go_simp⟩) hS2 ?_
          try simp only [Act.put, List.setIfInBounds_toArray, List.set_cons_zero, List.set_cons_succ]
          refine tk8 (v := (.int .i64 0)) (by kernel_rfl) (by kernel_rfl) (by kernel_rfl) (fun _ _ _ h => h) (Or.inl ⟨by kernel_rfl, fun w' hSw => by go_simp⟩) hS2 ?_
          try simp only [Act.put, List.setIfInBounds_toArray, List.set_cons_zero, List.set_cons_succ]
          refine wpAnyH_done (by kernel_rfl) ?_ _
          have HB2q := Lib.hid (HBq.out.trans (hB2.mono HBq.out.size))
          have HEj := Lib.hid (HEq.out _ _ _ _ wc2 hbn (Ints.below HWN.out hB2 (Nat.le_refl _)))
          rw [← HEB.out] at HEj
          clear hS0 hBd hown hb1 hB1 hIc hbn hb2 hB2 hS2 HBj HCj HKS HEB
          go_wp2_with fail
          refine HEj.out.mono ?_
          clear HEj
          rintro e wc3 ⟨rfl, hb3⟩
          have HB3q := Lib.hid (HB2q.out.trans (hb3.mono HB2q.out.size))
          clear hb3 HB2q
          cases eb with
          | true =>
            rw [if_pos rfl] at HOS
            go_wp2_with fail
            go_roundw
            case rel => exact ⟨j + 1, by omega, by go_num, by rw [HOS.out]; go_num, HB3q.out⟩
            case measure => simp [intOf]; omega
          | false =>
            rw [if_neg (by simp)] at HOS
            go_wp2_with fail
            go_roundw
            case rel => exact ⟨j + 1, by omega, by go_num, by rw [HOS.out], HB3q.out⟩
            case measure => simp [intOf]; omega
        · have hjj : j = ne := by omega
          rw [show ownK g j = own by rw [hjj, HOWN.out]]
          have hnl8 : ¬ (j : Int) < (ne : Int) := by omega
          have HGq := Lib.hid (HGr.out.below hb)
          have HBq := Lib.hid (HBr2.out.trans (hb.mono HBr2.out.size))
          clear hb hjj HGr HPTr HBr2
          by_cases hg3 : g = 3
          · have hgi : (3 : Int) < 1 + (g : Int) := by omega
            go_wp2_with fail
            refine (HTu.out _).mono ?_
            rintro e w9 ⟨rfl, hb⟩
            have HB9 := Lib.hid (HBq.out.trans (hb.mono HBq.out.size))
            clear hb
            go_wp2_with fail
            go_ret
            exact ⟨rfl, HB9.out⟩
          · have hgi : ¬ (3 : Int) < 1 + (g : Int) := by omega
            have hst := st_all (show g < 3 by omega)
            unfold stChk at hst
            simp only [Bool.and_eq_true, beq_iff_eq, decide_eq_true_eq] at hst
            obtain ⟨⟨hs1, hs2⟩, hs3⟩ := hst
            have HWs2 := Lib.hid (fun v W h => HWs.out v W h)
            have HLo2 := Lib.hid (fun W => HLo.out W)
            have HSt2 : Hid (∀ w vl, Ints w vl (nats (stL (g + 1) (g + 1))) → Calls Try.prog 66 #[vl] w fun e w' => e = .returned (.tuple #[.int .i64 (stN (stL (g + 1) (g + 1)) : Nat), .int .i64 0]) ∧ Below w.heap.size w w') := Lib.hid (fun w vl h => by
              have h9 := HSt.out w vl _ h
              unfold StdPost at h9
              rwa [hs1, if_pos rfl, if_pos rfl, stdS_nats] at h9)
            rw [← hs2] at HWs2
            generalize stN (stL (g + 1) (g + 1)) = sn at *
            generalize ln g (nE g - 1) = lo9 at *
            have HI9 : Hid (∀ y ∈ stL (g + 1) (g + 1), y < 65536) := Lib.hid (fun y hy => by
              obtain ⟨j9, _, rfl⟩ := List.mem_map.1 hy
              omega)
            obtain ⟨i0, hi0, hz0, hz1, hz2⟩ := info_parts Try.info3
            clear hs1 hs2 HWs HLo HSt
            go_wp2_with fail
            go_loopw [17, 18] (fun v i wt => ∃ k : Nat, k ≤ g + 1 ∧ i = .int .i64 ((g + 1 - k : Nat) : Int) ∧ wt.ownsRow wq.heap.size 3 1 v k (ints (nats (stL (g + 1) k))) ∧ Below wq.heap.size wq wt) (fun _ i _ => (intOf i).toNat)
            case atStart => exact ⟨0, Nat.zero_le _, congrArg (Value.int .i64) (by omega), ⟨rfl, .inl ⟨rfl, rfl⟩⟩, Below.refl _ _⟩
            case round =>
              rename World => wt
              obtain ⟨k, hk, rfl, ho, hb⟩ := hrel
              obtain ⟨oa, oc, rfl⟩ := owns_form ho
              obtain ⟨d, hd⟩ : ∃ d, d = g + 1 - k := ⟨_, rfl⟩
              rw [← hd]
              have HO := Lib.hid ho
              have HBt := Lib.hid hb
              clear ho hb
              by_cases hkl : k < g + 1
              · have hd0 : (0 : Int) < (d : Int) := by omega
                have hd1 : ((d : Int) - 1) = ((g + 1 - (k + 1) : Nat) : Int) := by omega
                have HD := Lib.hid hd
                have HSZ := Lib.hid HBt.out.size
                clear hd
                go_wp2_with (first | (at_builtin; refine wpList_append_own _ rfl _ _ 24 rfl wq.heap.size 3 i0 (.int .i64 0) 1 8 Try.underlying24 hi0 hz0 hz1 hz2 rfl (by decide) (.slice oa k oc) k (ints (nats (stL (g + 1) k))) rfl (HO.out.alloc _) ⟨wt.heap.size, 0, none⟩ 1 1 [.int .i64 (d : Nat)] rfl rfl (newOne _ _ _) (oneInt _) (by unfold maxLen; omega) (by omega) (by have := HSZ.out; simp only [World.size_alloc]; omega) ?_; intro v9 w9 hown9 hg9 _) | fail)
                have HO9 : Hid (w9.ownsRow wq.heap.size 3 1 v9 (k + 1) (ints (nats (stL (g + 1) (k + 1))))) := Lib.hid (by
                  rw [stL_succ, ← HD.out]
                  simpa [ints, nats] using hown9)
                have HB9 : Hid (Below wq.heap.size wq w9) := Lib.hid ((HBt.out.alloc HSZ.out _).grown hg9 (by have := HSZ.out; simp only [World.size_alloc]; omega) fun q e => (HO.out.lt q e).1)
                obtain ⟨a9, c9, rfl⟩ := owns_form hown9
                clear hown9 hg9
                go_roundw
                case rel => exact ⟨k + 1, by omega, congrArg (Value.int .i64) (by omega), HO9.out, HB9.out⟩
                case measure => simp [intOf]; omega
              · have hkk : k = g + 1 := by omega
                have hd0 : ¬ (0 : Int) < (d : Int) := by omega
                have HIt : Hid (Ints wt (.slice oa (g + 1) oc) (nats (stL (g + 1) (g + 1)))) := Lib.hid (by
                  have h9 := HO.out
                  rw [hkk] at h9
                  exact Ints.of_owns h9 (by omega) (nats_I64 HI9.out))
                rw [show Value.slice oa k oc = Value.slice oa (g + 1) oc by rw [hkk]]
                have HGt := Lib.hid (HGq.out.below HBt.out)
                have HB := Lib.hid (HBq.out.trans (HBt.out.mono HBq.out.size))
                have HG := HGt
                clear HGt hkk hd HGq HBq HBt HO HI9
                have g0 := HG.out.at0.1
                have g1 := HG.out.at0.2
                go_wp2_with fail
                refine (HLo2.out _).mono ?_
                rintro e w10 ⟨la, lc, rfl, hlw, hb⟩
                have HG10 := Lib.hid (HG.out.below hb)
                have HI10 := Lib.hid (HIt.out.below hb (Nat.le_refl _))
                have HB10 := Lib.hid (HB.out.trans (hb.mono HB.out.size))
                have HLW := Lib.hid hlw
                clear hlw hb HG HIt HB g0 g1
                have g0 := HG10.out.at0.1
                have g1 := HG10.out.at0.2
                go_wp2_with fail
                refine (HWs2.out _ _ HLW.out).mono ?_
                rintro e w11 ⟨wa, wc, rfl, -, hb⟩
                have HI11 := Lib.hid (HI10.out.below hb (Nat.le_refl _))
                have HB11 := Lib.hid (HB10.out.trans (hb.mono HB10.out.size))
                clear hb HI10 HB10 HLW HG10 g0 g1
                go_wp2_with fail
                refine (HSt2.out _ _ HI11.out).mono ?_
                rintro e w12 ⟨rfl, hb⟩
                have HB12 := Lib.hid (HB11.out.trans (hb.mono HB11.out.size))
                clear hb HI11 HB11
                go_wp2_with fail
                refine (HTu.out _).mono ?_
                rintro e w13 ⟨rfl, hb⟩
                have HB13 := Lib.hid (HB12.out.trans (hb.mono HB12.out.size))
                clear hb
                go_wp2_with fail
                go_ret
                exact ⟨rfl, HB13.out⟩

/-- THE LAW TopRobinson. -/
theorem topRobinson_law (n : Int) (w : World) : Calls Try.prog 17 #[.int .i64 n] w fun e w' => e = .returned (.bool true) ∧ Below w.heap.size w w' := by
  have h := IntKind.wrap_u64 n
  have h0 : 0 ≤ IntKind.u64.wrap n := by rw [h]; omega
  have h1 : (IntKind.u64.wrap n).tmod 4 = (IntKind.u64.wrap n) % 4 := Int.tmod_eq_emod_of_nonneg h0
  obtain ⟨g, hg⟩ : ∃ g : Nat, (g : Int) = (IntKind.u64.wrap n) % 4 := ⟨((IntKind.u64.wrap n) % 4).toNat, by omega⟩
  exact robinson g (by omega) n (by rw [h1, hg]) w
end Go.Proofs.Ytlnbodpdgebflaa
