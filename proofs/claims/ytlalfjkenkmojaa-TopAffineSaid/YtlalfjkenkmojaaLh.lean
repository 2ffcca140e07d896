/- longest's closure -/
import Derived.Test.YtlalfjkenkmojaaLg
namespace Go.Proofs.Ytlalfjkenkmojaa
open Go.RowKit

theorem lpost_below {Bl Bb base : Nat} {l T : List Nat} {vl : Value} {w w5 w6 : World} (hb : Below w.drew.heap.size w.drew w5) (h : ∃ vl' vb', LSt w6 Bl Bb base vl' vb' l T ∧ Moved vl vl' w5.heap.size ∧ Mod (LS Bl Bb vl) w5 w6) :
    LPost Bl Bb base l T vl w (.returned (.tuple #[])) w6 := by
  obtain ⟨vl', vb', h1, h2, h3⟩ := h
  have hsz : w.heap.size ≤ w5.heap.size := hb.size
  have hm : Mod (LS Bl Bb vl) w w5 := ⟨hb.os, hb.tape, hb.output, hb.size, fun i hi _ => hb.block i hi⟩
  refine ⟨rfl, vl', vb', h1, ?_, hm.trans h3 fun _ h => .inl h⟩
  rcases h2 with h2 | ⟨g, hg, h2⟩
  · exact .inl h2
  · exact .inr ⟨g, by omega, h2⟩
theorem mod_of_below {S : Nat → Prop} {a w : World} (h : Below a.heap.size a w) : Mod S a w := Mod.of_below h
theorem seek_step {f : List Nat → Nat → Bool} (hm : Mono f) {rest l best : List Nat} {i : Nat} (hi : i < rest.length) (hf : f l (rest.getD i 0) = true) :
    seek f (rest.drop i) l best = seek f (rest.drop (i + 1)) l (seek f ((rest.drop (i + 1)).filter (f (l ++ [rest.getD i 0]))) (l ++ [rest.getD i 0]) (upd best (l ++ [rest.getD i 0]))) := by
  have e : rest.drop i = rest.getD i 0 :: rest.drop (i + 1) := by rw [List.drop_eq_getElem_cons hi]; simp [hi]
  rw [e, seek, if_pos hf, seek_filter hm _ (l ++ [rest.getD i 0]) _ _ (fun _ h => h)]
theorem seek_stop {f : List Nat → Nat → Bool} {rest l best : List Nat} {i : Nat} (h : l.length + (rest.length - i) ≤ best.length) : seek f (rest.drop i) l best = best :=
  seek_few f _ l best (by rw [List.length_drop]; omega)

set_option maxHeartbeats 4000000 in
set_option maxRecDepth 100000 in
theorem grow_step {N : Nat} {pre : Array Value} {f : List Nat → Nat → Bool} {D : List Nat → Nat → Prop} {U : Nat → Prop} {M : Nat} (hR : Rule N pre f D) (hm : Mono f) (hU : ∀ z, U z → z < 65536) (hM : M ≤ 1000)
    (hD : ∀ l y, l.length < M → (∀ z ∈ l, U z) → U y → D l y) (Bl Bb Bg Bm base : Nat) (hd : Bl ≠ Bb ∧ Bl ≠ Bg ∧ Bl ≠ Bm ∧ Bb ≠ Bg ∧ Bb ≠ Bm) (hlt : Bl < base ∧ Bb < base ∧ Bg < base ∧ Bm < base) (n : Nat)
    (IH : ∀ (rest l best : List Nat) (vr vl vb : Value) (w : World), rest.length + 1 ≤ n → l.length + rest.length ≤ M → (∀ z ∈ rest, U z ∧ f l z = true) → (∀ z ∈ l, U z) → base ≤ w.heap.size → LEnv w N pre Bl Bb Bg Bm → LSt w Bl Bb base vl vb l best → Nats w vr rest → OffB vr (LS Bl Bb vl) →
      Calls Try.prog 95 #[vr, .pointer (some ⟨Bl, 0, none⟩), .pointer (some ⟨Bb, 0, none⟩), .pointer (some ⟨Bg, 0, none⟩), .pointer (some ⟨Bm, 0, none⟩)] w (LPost Bl Bb base l (seek f rest l (upd best l)) vl w))
    (rest l best : List Nat) (vr vl vb : Value) (w : World) (hn : rest.length ≤ n) (hlen : l.length + rest.length ≤ M) (hr : ∀ z ∈ rest, U z ∧ f l z = true) (hl : ∀ z ∈ l, U z) (hbase : base ≤ w.heap.size) (hE : LEnv w N pre Bl Bb Bg Bm) (hS : LSt w Bl Bb base vl vb l best) (hN : Nats w vr rest) (hO : OffB vr (LS Bl Bb vl)) :
    Calls Try.prog 95 #[vr, .pointer (some ⟨Bl, 0, none⟩), .pointer (some ⟨Bb, 0, none⟩), .pointer (some ⟨Bg, 0, none⟩), .pointer (some ⟨Bm, 0, none⟩)] w (LPost Bl Bb base l (seek f rest l (upd best l)) vl w) := by
  obtain ⟨T, hT⟩ : ∃ T, T = seek f rest l (upd best l) := ⟨_, rfl⟩
  rw [← hT]
  have HT := Lib.hid hT
  have HE := Lib.hid hE
  have HS := Lib.hid hS
  have HN := Lib.hid hN
  have HOf := Lib.hid hO
  have HR := Lib.hid hR
  have HIH := Lib.hid IH
  have HD := Lib.hid hD
  have HU := Lib.hid hU
  have HRe := Lib.hid hr
  have HLU := Lib.hid hl
  have hcl := hS.cl.cell
  have hcb := hS.cb.cell
  have hfb := hS.cb.fr
  obtain ⟨al, cl, rfl⟩ := owns_form hS.ol
  obtain ⟨ab, cb, rfl⟩ := owns_form hS.ob
  obtain ⟨ar, cr, rfl, hr1, hr2, hrx⟩ := hN.open
  have HX := Lib.hid hrx
  have HMo := Lib.hid hm
  have HCl := Lib.hid (clone1_any (.slice al l.length cl) (nats l) w)
  rw [nats_length] at HCl
  have hlM : l.length ≤ 1000 := by omega
  obtain ⟨i0, hi, hz0, hz1, hz2⟩ := info_parts Try.info3
  have HM0 : Hid (Mod (LS Bl Bb (.slice al l.length cl)) w w) := Lib.hid (Mod.refl _ w)
  clear hT hE hS hN hO hR IH hD hU hr hl hm hrx
  have hcap : l.length ≤ 17592186044416 := by omega
  go_enter Try.func95, Try.ntmps95
  go_upto_if 12 with (fail)
  go_cut [13] (fun _ wx => ∃ vbS bestS, T = seek f (rest.drop 0) l bestS ∧ LSt wx Bl Bb base (.slice al l.length cl) vbS l bestS ∧ Mod (LS Bl Bb (.slice al l.length cl)) w wx)
  case first =>
    by_cases hbl : best.length < l.length
    · have HUp : Hid (T = seek f (rest.drop 0) l l) := Lib.hid (by rw [HT.out, List.drop_zero, upd, if_pos hbl])
      have hcl' := HCl.out (by
        have h := HS.out.ol
        exact Ints.of_owns (own_len h rfl rfl) (by omega) (nats_I64 fun y hy => HU.out y (HLU.out y hy)))
      have HC2 := Lib.hid hcl'
      clear hcl' HX
      go_wp2_with fail
      refine HC2.out.mono ?_
      rintro e w1 ⟨ao1, c1, rfl, ho1, hb1⟩
      have hcb1 := (HS.out.cb.below hb1).cell
      have hfb1 := (HS.out.cb.below hb1).fr
      have HL1 : Hid (LSt (w1.setCell ⟨Bb, 0, none⟩ (.slice ao1 l.length c1)) Bl Bb base (.slice al l.length cl) (.slice ao1 l.length c1) l l) := Lib.hid
        ⟨(HS.out.cl.below hb1).other hd.1 0 _, (HS.out.cb.below hb1).set _, ownsRow_setCell_below (owns_below HS.out.ol hb1 (Nat.le_refl _)) hlt.2.1 _, ownsRow_setCell_below (owns_mono ho1 hbase) hlt.2.1 _, fun b hb e => by
          have h1 := (HS.out.ol.lt b hb).2
          have h2 := (ho1.lt b e).1
          omega⟩
      have HM1 : Hid (Mod (LS Bl Bb (.slice al l.length cl)) w (w1.setCell ⟨Bb, 0, none⟩ (.slice ao1 l.length c1))) := Lib.hid ((mod_of_below hb1).setCell (.inl (.inr (.inl rfl))) _)
      clear ho1 hb1 hcb hfb
      go_wp2_with fail
      go_meet
      exact ⟨_, _, HUp.out, HL1.out, HM1.out⟩
    · have HUp : Hid (T = seek f (rest.drop 0) l best) := Lib.hid (by rw [HT.out, List.drop_zero, upd, if_neg hbl])
      go_wp2_with fail
      go_meet
      exact ⟨_, _, HUp.out, HS.out, HM0.out⟩
  case rest =>
    obtain ⟨vbS, bestS, hup, hsS, hmS⟩ := hcut
    have HUp := Lib.hid hup
    have HSS := Lib.hid hsS
    have HMS := Lib.hid hmS
    clear hup hsS hmS hcl hcb hfb
    go_wp2_with fail
    go_loopw [17] (fun i wr => ∃ (k : Nat) (vli vbi : Value) (bi : List Nat), k ≤ rest.length ∧ i = .int .i64 k ∧ LSt wr Bl Bb base vli vbi l bi ∧ T = seek f (rest.drop k) l bi ∧ Moved (.slice al l.length cl) vli w.heap.size ∧ Mod (LS Bl Bb (.slice al l.length cl)) w wr) (fun i _ => rest.length - (intOf i).toNat)
    case atStart => exact ⟨0, .slice al l.length cl, vbS, bestS, Nat.zero_le _, rfl, HSS.out, HUp.out, Moved.refl _ _, HMS.out⟩
    case round =>
      obtain ⟨k, vli, vbi, bi, hk, rfl, hSt, hTk, hMv, hMd⟩ := hrel
      have HSt := Lib.hid hSt
      have HTk := Lib.hid hTk
      have HMv := Lib.hid hMv
      have HMd := Lib.hid hMd
      have HEr := Lib.hid (HE.out.mod hMd (by
        rintro (e | e | e)
        · exact hd.2.1 e.symm
        · exact hd.2.2.2.1 e.symm
        · have := (HS.out.ol.lt _ e).1; omega) (by
        rintro (e | e | e)
        · exact hd.2.2.1 e.symm
        · exact hd.2.2.2.2 e.symm
        · have := (HS.out.ol.lt _ e).1; omega))
      have HNr := Lib.hid (HN.out.mod hMd HOf.out)
      have hsz := hMd.size
      have hcl1 := hSt.cl.cell
      have hfl1 := hSt.cl.fr
      have hcb1 := hSt.cb.cell
      have hcm1 := HEr.out.cm.cell
      have hcg1 := HEr.out.cg.cell
      obtain ⟨al1, cl1, rfl⟩ := owns_form hSt.ol
      obtain ⟨ab1, cb1, rfl⟩ := owns_form hSt.ob
      obtain ⟨ar', cr', he, _, _, hrx⟩ := HNr.out.open
      simp only [Value.slice.injEq] at he
      obtain ⟨rfl, _, rfl⟩ := he
      have HX1 := Lib.hid hrx
      clear hSt hTk hMv hMd hrx HX
      by_cases hlt2 : k < rest.length
      · obtain ⟨b, o, rfl, hck⟩ := HX1.out k hlt2
        by_cases hfew : l.length + (rest.length - k) ≤ bi.length
        · have HTe : Hid (T = bi) := Lib.hid (by rw [HTk.out]; exact seek_stop hfew)
          have d1 : decide (((l.length : Int) + rest.length) - k ≤ (bi.length : Int)) = true := decide_eq_true (by omega)
          go_wp2
          refine bodyPost_ret (results_none rfl _ _ _) rfl ?_
          exact ⟨rfl, _, _, by rw [HTe.out]; exact HSt.out, HMv.out, HMd.out⟩
        · have d1 : decide (((l.length : Int) + rest.length) - k ≤ (bi.length : Int)) = false := decide_eq_false (by omega)
          have HRk := Lib.hid (HRe.out _ (natD_mem hlt2))
          have HTn := Lib.hid (seek_step (best := bi) HMo.out hlt2 HRk.out.2)
          have hzb := HU.out _ HRk.out.1
          generalize rest.getD k 0 = z at *
          go_wp2_with (at_builtin; refine wpList_append_own_at _ rfl _ _ 22 rfl base 3 i0 (.int .i64 0) 1 8 Try.underlying22 hi hz0 hz1 hz2 rfl (by decide) _ _ _ rfl (HSt.out.ol.alloc _) ⟨wr.heap.size, 0, none⟩ 1 1 [.int .i64 z] rfl rfl (newOne _ _ _) (oneInt _) (by unfold maxLen; omega) (by omega) (by simp; omega) ?_)
          intro v3 w3 hown3 hgrow3 _ hat3
          obtain ⟨g3, c3, rfl, hg3, hc3⟩ := owns_some hown3
          obtain ⟨p1, p2, p3, p4⟩ := lst_push HSt.out hlt.1 hlt.2.1 hd.1 hown3 hgrow3 (by simpa using hat3)
          have HE4 := Lib.hid (HEr.out.mod p2 (by
            rintro (e | e | e)
            · exact hd.2.1 e.symm
            · exact hd.2.2.2.1 e.symm
            · have := (HSt.out.ol.lt _ e).1; omega) (by
            rintro (e | e | e)
            · exact hd.2.2.1 e.symm
            · exact hd.2.2.2.2 e.symm
            · have := (HSt.out.ol.lt _ e).1; omega))
          have hcl3 := p4.cell
          have hfl3 := p4.fr
          have HS4 := Lib.hid p1
          have HM4 := Lib.hid p2
          have HV4 := Lib.hid p3
          have hc4l := p1.cl.cell
          have hc4m := HE4.out.cm.cell
          have hc4g := HE4.out.cg.cell
          clear p1 p2 p3 p4 hown3 hgrow3 hat3 hcl1 hfl1 hcb1 hcm1 hcg1 hck hi hz0 hz1 hz2
          go_wp2_with fail
          have HSz4 : Hid (w3.heap.size ≤ (w3.setCell ⟨Bl, 0, none⟩ (.slice (some ⟨g3, 0, none⟩) (l.length + 1) c3)).heap.size) := Lib.hid (by simp [World.setCell])
          generalize (w3.setCell ⟨Bl, 0, none⟩ (.slice (some ⟨g3, 0, none⟩) (l.length + 1) c3)) = w4 at *
          obtain ⟨A, hA⟩ : ∃ A, A = if cr = k + 1 then some ⟨b, o, none⟩ else some (⟨b, o + (k + 1), none⟩ : Addr) := ⟨_, rfl⟩
          have HA := Lib.hid hA
          have HNd : Hid (Nats w4 (.slice A (rest.length - (k + 1)) (cr - (k + 1))) (rest.drop (k + 1))) := Lib.hid (by
            have h := (HNr.out.mod HM4.out (offB_moved HN.out HOf.out HMv.out)).drop (k := k + 1) (by omega)
            simp only [Option.map_some, Addr.add_lit] at h
            rw [HA.out]; exact h)
          clear hA
          obtain ⟨fl, hfl⟩ : ∃ fl, fl = (rest.drop (k + 1)).filter (f (l ++ [z])) := ⟨_, rfl⟩
          have HFl := Lib.hid hfl
          have hdl : (rest.drop (k + 1)).length = rest.length - (k + 1) := List.length_drop
          have hfll : fl.length ≤ (rest.drop (k + 1)).length := by rw [hfl]; exact List.length_filter_le _ _
          have hflm : ∀ y ∈ fl, y ∈ rest ∧ f (l ++ [z]) y = true := fun y hy => by
            rw [hfl] at hy
            have := List.mem_filter.1 hy
            exact ⟨List.mem_of_mem_drop this.1, this.2⟩
          have HLz : Hid (∀ y ∈ l ++ [z], U y) := Lib.hid (by
            intro y hy
            simp at hy
            rcases hy with hy | rfl
            · exact HLU.out y hy
            · exact HRk.out.1)
          have hc65 := addable_any HR.out (.slice (some ⟨g3, 0, none⟩) (l.length + 1) c3) (.slice A (rest.length - (k + 1)) (cr - (k + 1))) (l ++ [z]) (rest.drop (k + 1)) w4.drew
            (show Nats w4 _ _ from by have := Nats.of_owns HS4.out.ol (by simp; omega) (fun y hy => HU.out y (HLz.out y hy)); simpa using this) HNd.out (by omega) (fun y hy => HU.out y (HRe.out y (List.mem_of_mem_drop hy)).1)
            (fun y hy => HD.out _ _ (by have := List.length_pos_of_mem hy; rw [hdl] at this; simp; omega) HLz.out (HRe.out y (List.mem_of_mem_drop hy)).1)
          rw [← hfl] at hc65
          have HC65 := Lib.hid hc65
          have HC95 : Hid (∀ v5 w5, w5.ownsRow w4.drew.heap.size 3 1 v5 fl.length (ints (nats fl)) → Below w4.drew.heap.size w4.drew w5 →
              Calls Try.prog 95 #[v5, .pointer (some ⟨Bl, 0, none⟩), .pointer (some ⟨Bb, 0, none⟩), .pointer (some ⟨Bg, 0, none⟩), .pointer (some ⟨Bm, 0, none⟩)] w5 (LPost Bl Bb base (l ++ [z]) (seek f fl (l ++ [z]) (upd bi (l ++ [z]))) (.slice (some ⟨g3, 0, none⟩) (l.length + 1) c3) w5)) := Lib.hid (by
            intro v5 w5 ho5 hb5
            have hsz5 : w4.heap.size ≤ w5.heap.size := hb5.size
            have hs4 : wr.heap.size ≤ w4.heap.size := HM4.out.size
            have hm5 : Mod (fun _ => False) w4 w5 := ⟨hb5.os, hb5.tape, hb5.output, hb5.size, fun i hi _ => hb5.block i hi⟩
            refine HIH.out fl (l ++ [z]) bi v5 _ _ w5 (by omega) (by simp; omega) (fun y hy => ⟨(HRe.out y (hflm y hy).1).1, (hflm y hy).2⟩) HLz.out (by omega) (HE4.out.mod hm5 id id)
              ⟨HS4.out.cl.mod hm5 id, HS4.out.cb.mod hm5 id, owns_mod HS4.out.ol hm5 fun _ _ => id, owns_mod HS4.out.ob hm5 fun _ _ => id, HS4.out.apart⟩
              (Nats.of_owns ho5 (by omega) fun y hy => HU.out y (HRe.out y (hflm y hy).1).1) (offB_own ho5 fun g hg hk => ?_)
            have hge : w4.heap.size ≤ g := (ho5.lt g hg).1
            have h4l := HS4.out.cl.lt
            have h4b := HS4.out.cb.lt
            rcases hk with e | e | e
            · omega
            · omega
            · have := (HS4.out.ol.lt g e).2; omega)
          clear hfl hdl hfll hflm hc65 HIH HT HCl HX1 HNd HNr HEr HE4
          go_cut [44] (fun _ wx => LPost Bl Bb base (l ++ [z]) (seek f fl (l ++ [z]) (upd bi (l ++ [z]))) (.slice (some ⟨g3, 0, none⟩) (l.length + 1) c3) w4 (.returned (.tuple #[])) wx)
          case first =>
            clear HSt HTk HMv HMd HTn HS4 HM4 HV4 HMo HFl HM0 HUp HLz HR HD HU HRe HLU HN HOf HE HS HRk HSS HMS
            have hk1 : ((k:Int) + 1).toNat = k + 1 := by omega
            have hwk : IntKind.i64.wrap ((k:Int) + 1) = (k:Int) + 1 := IntWalk.i64_in _ (by omega)
            have hk2 : (0:Int) ≤ (k:Int) + 1 := by omega
            refine wp_region_any (by kernel_rfl) ?_
            change wpAny _ _ _ _ _ _ _ (World.drew _)
            refine wpAny_take (i := 3) (v := .slice (some ⟨b, o, none⟩) rest.length cr) rfl (by kernel_rfl) (by kernel_rfl) (by kernel_rfl) (fun _ _ _ h => h) (Or.inl ⟨by rfl, ?_⟩) ?_
            · intro w'
              go_simp
            simp only [Act.put]
            refine wpAny_take (i := 4) (v := .int .i64 k) rfl (by kernel_rfl) (by kernel_rfl) (by kernel_rfl) (fun _ _ _ h => h) (Or.inl ⟨by rfl, ?_⟩) ?_
            · intro w'
              go_simp
            simp only [Act.put]
            refine wpAny_take (i := 5) (v := .int .i64 ((k:Int) + 1)) rfl (by kernel_rfl) (by kernel_rfl) (by kernel_rfl) (fun _ _ _ h => h) (Or.inl ⟨by rfl, ?_⟩) ?_
            · intro w'
              go_simp
            simp only [Act.put]
            refine wpAny_take (i := 6) (v := .slice A (rest.length - (k + 1)) (cr - (k + 1))) rfl (by kernel_rfl) (by kernel_rfl) (by kernel_rfl) (fun _ _ _ h => h) (Or.inl ⟨by rfl, ?_⟩) ?_
            · intro w'
              rw [HA.out]
              go_simp
              intro h
              exfalso; omega
            simp only [Act.put]
            refine wpAny_ready (rs := [0, 1, 2]) (by kernel_rfl) (by simp) (AllReady.cons rfl (fun K hK => ?_) (AllReady.cons rfl (fun K hK => ?_) (AllReady.cons rfl (fun K hK => ?_) AllReady.nil)))
            · go_simp
              refine hK _ _ ?_
              clear hK K
              refine wpAny_ready (rs := [1, 2]) (by kernel_rfl) (by simp) (AllReady.cons rfl (fun K hK => ?_) (AllReady.cons rfl (fun K hK => ?_) AllReady.nil))
              · go_simp
                refine hK _ _ ?_
                clear hK K
                refine wpAny_ready (rs := [2]) (by kernel_rfl) (by simp) (AllReady.cons rfl (fun K hK => ?_) AllReady.nil)
                go_simp
                refine hK _ _ ?_
                clear hK K
                refine wpAny_ready (rs := [7]) (by kernel_rfl) (by simp) (AllReady.cons rfl (fun K hK => ?_) AllReady.nil)
                rw [if_pos (by rfl)]
                go_simp
                refine HC65.out.mono ?_
                rintro e w5 ⟨v5, rfl, ho5, hb5⟩
                have HC9 := Lib.hid (HC95.out v5 w5 ho5 hb5)
                have HB5 := Lib.hid hb5
                have hg5 := ck (show w4.drew.cell? ⟨Bg, 0, none⟩ = _ from hc4g) hb5
                clear ho5 hb5
                refine hK _ _ ?_
                clear hK K
                refine wpAny_ready (rs := [8]) (by kernel_rfl) (by simp) (AllReady.cons rfl (fun K hK => ?_) AllReady.nil)
                rw [if_pos (by rfl)]
                go_simp
                refine HC9.out.mono ?_
                rintro e w6 ⟨rfl, hp6⟩
                have HP6 := Lib.hid hp6
                clear hp6
                refine hK _ _ ?_
                clear hK K
                refine wpAny_done (by kernel_rfl) ?_ _
                go_wp2_with fail
                go_meet
                exact lpost_below HB5.out HP6.out
              · go_simp
                refine hK _ _ ?_
                clear hK K
                refine wpAny_ready (rs := [1]) (by kernel_rfl) (by simp) (AllReady.cons rfl (fun K hK => ?_) AllReady.nil)
                go_simp
                refine hK _ _ ?_
                clear hK K
                refine wpAny_ready (rs := [7]) (by kernel_rfl) (by simp) (AllReady.cons rfl (fun K hK => ?_) AllReady.nil)
                rw [if_pos (by rfl)]
                go_simp
                refine HC65.out.mono ?_
                rintro e w5 ⟨v5, rfl, ho5, hb5⟩
                have HC9 := Lib.hid (HC95.out v5 w5 ho5 hb5)
                have HB5 := Lib.hid hb5
                have hg5 := ck (show w4.drew.cell? ⟨Bg, 0, none⟩ = _ from hc4g) hb5
                clear ho5 hb5
                refine hK _ _ ?_
                clear hK K
                refine wpAny_ready (rs := [8]) (by kernel_rfl) (by simp) (AllReady.cons rfl (fun K hK => ?_) AllReady.nil)
                rw [if_pos (by rfl)]
                go_simp
                refine HC9.out.mono ?_
                rintro e w6 ⟨rfl, hp6⟩
                have HP6 := Lib.hid hp6
                clear hp6
                refine hK _ _ ?_
                clear hK K
                refine wpAny_done (by kernel_rfl) ?_ _
                go_wp2_with fail
                go_meet
                exact lpost_below HB5.out HP6.out
            · go_simp
              refine hK _ _ ?_
              clear hK K
              refine wpAny_ready (rs := [0, 2]) (by kernel_rfl) (by simp) (AllReady.cons rfl (fun K hK => ?_) (AllReady.cons rfl (fun K hK => ?_) AllReady.nil))
              · go_simp
                refine hK _ _ ?_
                clear hK K
                refine wpAny_ready (rs := [2]) (by kernel_rfl) (by simp) (AllReady.cons rfl (fun K hK => ?_) AllReady.nil)
                go_simp
                refine hK _ _ ?_
                clear hK K
                refine wpAny_ready (rs := [7]) (by kernel_rfl) (by simp) (AllReady.cons rfl (fun K hK => ?_) AllReady.nil)
                rw [if_pos (by rfl)]
                go_simp
                refine HC65.out.mono ?_
                rintro e w5 ⟨v5, rfl, ho5, hb5⟩
                have HC9 := Lib.hid (HC95.out v5 w5 ho5 hb5)
                have HB5 := Lib.hid hb5
                have hg5 := ck (show w4.drew.cell? ⟨Bg, 0, none⟩ = _ from hc4g) hb5
                clear ho5 hb5
                refine hK _ _ ?_
                clear hK K
                refine wpAny_ready (rs := [8]) (by kernel_rfl) (by simp) (AllReady.cons rfl (fun K hK => ?_) AllReady.nil)
                rw [if_pos (by rfl)]
                go_simp
                refine HC9.out.mono ?_
                rintro e w6 ⟨rfl, hp6⟩
                have HP6 := Lib.hid hp6
                clear hp6
                refine hK _ _ ?_
                clear hK K
                refine wpAny_done (by kernel_rfl) ?_ _
                go_wp2_with fail
                go_meet
                exact lpost_below HB5.out HP6.out
              · go_simp
                refine hK _ _ ?_
                clear hK K
                refine wpAny_ready (rs := [0, 7]) (by kernel_rfl) (by simp) (AllReady.cons rfl (fun K hK => ?_) (AllReady.cons rfl (fun K hK => ?_) AllReady.nil))
                · go_simp
                  refine hK _ _ ?_
                  clear hK K
                  refine wpAny_ready (rs := [7]) (by kernel_rfl) (by simp) (AllReady.cons rfl (fun K hK => ?_) AllReady.nil)
                  rw [if_pos (by rfl)]
                  go_simp
                  refine HC65.out.mono ?_
                  rintro e w5 ⟨v5, rfl, ho5, hb5⟩
                  have HC9 := Lib.hid (HC95.out v5 w5 ho5 hb5)
                  have HB5 := Lib.hid hb5
                  have hg5 := ck (show w4.drew.cell? ⟨Bg, 0, none⟩ = _ from hc4g) hb5
                  clear ho5 hb5
                  refine hK _ _ ?_
                  clear hK K
                  refine wpAny_ready (rs := [8]) (by kernel_rfl) (by simp) (AllReady.cons rfl (fun K hK => ?_) AllReady.nil)
                  rw [if_pos (by rfl)]
                  go_simp
                  refine HC9.out.mono ?_
                  rintro e w6 ⟨rfl, hp6⟩
                  have HP6 := Lib.hid hp6
                  clear hp6
                  refine hK _ _ ?_
                  clear hK K
                  refine wpAny_done (by kernel_rfl) ?_ _
                  go_wp2_with fail
                  go_meet
                  exact lpost_below HB5.out HP6.out
                · rw [if_pos (by rfl)]
                  go_simp
                  refine HC65.out.mono ?_
                  rintro e w5 ⟨v5, rfl, ho5, hb5⟩
                  have HC9 := Lib.hid (HC95.out v5 w5 ho5 hb5)
                  have HB5 := Lib.hid hb5
                  have hg5 := ck (show w4.drew.cell? ⟨Bg, 0, none⟩ = _ from hc4g) hb5
                  clear ho5 hb5
                  refine hK _ _ ?_
                  clear hK K
                  refine wpAny_ready (rs := [0]) (by kernel_rfl) (by simp) (AllReady.cons rfl (fun K hK => ?_) AllReady.nil)
                  go_simp
                  refine hK _ _ ?_
                  clear hK K
                  refine wpAny_ready (rs := [8]) (by kernel_rfl) (by simp) (AllReady.cons rfl (fun K hK => ?_) AllReady.nil)
                  rw [if_pos (by rfl)]
                  go_simp
                  refine HC9.out.mono ?_
                  rintro e w6 ⟨rfl, hp6⟩
                  have HP6 := Lib.hid hp6
                  clear hp6
                  refine hK _ _ ?_
                  clear hK K
                  refine wpAny_done (by kernel_rfl) ?_ _
                  go_wp2_with fail
                  go_meet
                  exact lpost_below HB5.out HP6.out
            · go_simp
              refine hK _ _ ?_
              clear hK K
              refine wpAny_ready (rs := [0, 1]) (by kernel_rfl) (by simp) (AllReady.cons rfl (fun K hK => ?_) (AllReady.cons rfl (fun K hK => ?_) AllReady.nil))
              · go_simp
                refine hK _ _ ?_
                clear hK K
                refine wpAny_ready (rs := [1]) (by kernel_rfl) (by simp) (AllReady.cons rfl (fun K hK => ?_) AllReady.nil)
                go_simp
                refine hK _ _ ?_
                clear hK K
                refine wpAny_ready (rs := [7]) (by kernel_rfl) (by simp) (AllReady.cons rfl (fun K hK => ?_) AllReady.nil)
                rw [if_pos (by rfl)]
                go_simp
                refine HC65.out.mono ?_
                rintro e w5 ⟨v5, rfl, ho5, hb5⟩
                have HC9 := Lib.hid (HC95.out v5 w5 ho5 hb5)
                have HB5 := Lib.hid hb5
                have hg5 := ck (show w4.drew.cell? ⟨Bg, 0, none⟩ = _ from hc4g) hb5
                clear ho5 hb5
                refine hK _ _ ?_
                clear hK K
                refine wpAny_ready (rs := [8]) (by kernel_rfl) (by simp) (AllReady.cons rfl (fun K hK => ?_) AllReady.nil)
                rw [if_pos (by rfl)]
                go_simp
                refine HC9.out.mono ?_
                rintro e w6 ⟨rfl, hp6⟩
                have HP6 := Lib.hid hp6
                clear hp6
                refine hK _ _ ?_
                clear hK K
                refine wpAny_done (by kernel_rfl) ?_ _
                go_wp2_with fail
                go_meet
                exact lpost_below HB5.out HP6.out
              · go_simp
                refine hK _ _ ?_
                clear hK K
                refine wpAny_ready (rs := [0, 7]) (by kernel_rfl) (by simp) (AllReady.cons rfl (fun K hK => ?_) (AllReady.cons rfl (fun K hK => ?_) AllReady.nil))
                · go_simp
                  refine hK _ _ ?_
                  clear hK K
                  refine wpAny_ready (rs := [7]) (by kernel_rfl) (by simp) (AllReady.cons rfl (fun K hK => ?_) AllReady.nil)
                  rw [if_pos (by rfl)]
                  go_simp
                  refine HC65.out.mono ?_
                  rintro e w5 ⟨v5, rfl, ho5, hb5⟩
                  have HC9 := Lib.hid (HC95.out v5 w5 ho5 hb5)
                  have HB5 := Lib.hid hb5
                  have hg5 := ck (show w4.drew.cell? ⟨Bg, 0, none⟩ = _ from hc4g) hb5
                  clear ho5 hb5
                  refine hK _ _ ?_
                  clear hK K
                  refine wpAny_ready (rs := [8]) (by kernel_rfl) (by simp) (AllReady.cons rfl (fun K hK => ?_) AllReady.nil)
                  rw [if_pos (by rfl)]
                  go_simp
                  refine HC9.out.mono ?_
                  rintro e w6 ⟨rfl, hp6⟩
                  have HP6 := Lib.hid hp6
                  clear hp6
                  refine hK _ _ ?_
                  clear hK K
                  refine wpAny_done (by kernel_rfl) ?_ _
                  go_wp2_with fail
                  go_meet
                  exact lpost_below HB5.out HP6.out
                · rw [if_pos (by rfl)]
                  go_simp
                  refine HC65.out.mono ?_
                  rintro e w5 ⟨v5, rfl, ho5, hb5⟩
                  have HC9 := Lib.hid (HC95.out v5 w5 ho5 hb5)
                  have HB5 := Lib.hid hb5
                  have hg5 := ck (show w4.drew.cell? ⟨Bg, 0, none⟩ = _ from hc4g) hb5
                  clear ho5 hb5
                  refine hK _ _ ?_
                  clear hK K
                  refine wpAny_ready (rs := [0]) (by kernel_rfl) (by simp) (AllReady.cons rfl (fun K hK => ?_) AllReady.nil)
                  go_simp
                  refine hK _ _ ?_
                  clear hK K
                  refine wpAny_ready (rs := [8]) (by kernel_rfl) (by simp) (AllReady.cons rfl (fun K hK => ?_) AllReady.nil)
                  rw [if_pos (by rfl)]
                  go_simp
                  refine HC9.out.mono ?_
                  rintro e w6 ⟨rfl, hp6⟩
                  have HP6 := Lib.hid hp6
                  clear hp6
                  refine hK _ _ ?_
                  clear hK K
                  refine wpAny_done (by kernel_rfl) ?_ _
                  go_wp2_with fail
                  go_meet
                  exact lpost_below HB5.out HP6.out
          case rest =>
            obtain ⟨_, vl6, vb6, hs6, hv6, hm6⟩ := hcut
            obtain ⟨g6, c6, rfl, hg6, hc6⟩ := owns_some (own_len (m := l.length + 1) hs6.ol (by simp) rfl)
            have HPop := Lib.hid (lst_pop hs6 rfl hlt.1 hd.1)
            have HMvA := Lib.hid (HMv.out.trans HV4.out HMd.out.size)
            have HMvB : Hid (Moved (.slice al l.length cl) (.slice (some ⟨g6, 0, none⟩) l.length c6) w.heap.size) := Lib.hid (HMvA.out.trans hv6 (Nat.le_trans HMd.out.size HM4.out.size))
            have HMdB := Lib.hid ((((HMd.out.trans HM4.out fun x hx => LS.moved HMv.out hx).trans hm6 fun x hx => LS.moved HMvA.out hx)).setCell (p := ⟨Bl, 0, none⟩) (.inl (.inl rfl)) (.slice (some ⟨g6, 0, none⟩) l.length c6))
            have HT6 : Hid (T = seek f (rest.drop (k + 1)) l (seek f fl (l ++ [z]) (upd bi (l ++ [z])))) := Lib.hid (by rw [HTk.out, HTn.out, HFl.out])
            have hcl6 := hs6.cl.cell
            have hfl6 := hs6.cl.fr
            clear hs6 hv6 hm6 HMv HV4 HMvA HMd HM4 HTk HTn HFl
            go_wp2
            go_roundw
            case rel => exact ⟨k + 1, _, _, _, by omega, by go_num, HPop.out, HT6.out, HMvB.out, HMdB.out⟩
            case measure => simp [intOf]; omega
      · obtain rfl : k = rest.length := by omega
        have HTe : Hid (T = bi) := Lib.hid (by rw [HTk.out, List.drop_length]; rfl)
        go_wp2
        go_end0
        exact ⟨rfl, _, _, by rw [HTe.out]; exact HSt.out, HMv.out, HMd.out⟩
end Go.Proofs.Ytlalfjkenkmojaa
