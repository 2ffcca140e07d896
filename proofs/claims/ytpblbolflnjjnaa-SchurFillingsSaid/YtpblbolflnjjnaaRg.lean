/- the reference's fillings: the loop -/
import Derived.Test.YtpblbolflnjjnaaRf
namespace Go.Proofs.Ytpblbolflnjjnaa
open Go.RowKit

def rStep (caps : List Nat) (fuel i : Nat) (rs : List (List Int)) (left : List Int) (x : Nat) : List (List (List Int)) :=
  if badB rs left i (rs.getD i []).length x then [] else rsrch caps fuel i (rs.set i (rs.getD i [] ++ [(x : Int)])) (left.set (x - 1) (left.getD (x - 1) 0 - 1))

theorem ints_owned {w : World} {B : Nat} {v : Value} {n : Nat} {xs : List Int} (h : w.ownsRow B 3 1 v n (ints xs)) (hn : n ≤ 17592186044416) (hb : ∀ x ∈ xs, I64 x) : Ints w v xs := ⟨Sl.of_owns h hn, hb⟩

theorem rs_at {rs : List (List Int)} {k : Nat} (h : k < rs.length) : rs[k]? = some (rs.getD k []) := by simp [List.getD, h]

theorem range1_step {c : Nat} (h : 1 ≤ c) : List.range' 1 (c + 1 - 1) = List.range' 1 (c - 1) ++ [c] := by
  rw [show c + 1 - 1 = (c - 1) + 1 by omega, List.range'_1_concat, show 1 + (c - 1) = c by omega]

theorem rStep_len {caps : List Nat} {fuel i : Nat} {rs : List (List Int)} {left : List Int} (h : RIn caps rs left) (hi : i < caps.length) (hlt : (rs.getD i []).length < caps.getD i 0) {x : Nat} (hx : 1 ≤ x ∧ x ≤ left.length) :
    (rStep caps fuel i rs left x).length ≤ 16777216 := by
  unfold rStep
  split
  · exact Nat.zero_le _
  · rename_i hb
    exact rsrch_max (h.push hi hlt hx fun e => hb (by simp only [badB, decide_eq_true_eq]; exact .inl e)) (by omega)

theorem rAll_len {caps : List Nat} {fuel i : Nat} {rs : List (List Int)} {left : List Int} (h : RIn caps rs left) (hi : i < caps.length) (hlt : (rs.getD i []).length < caps.getD i 0) {c : Nat} (hc : c ≤ left.length) :
    ((List.range' 1 c).flatMap (rStep caps fuel i rs left)).length ≤ 134217728 := by
  refine Nat.le_trans (flatMap_len _ _ 16777216 fun x hx => ?_) ?_
  · have := List.mem_range'_1.1 hx
    exact rStep_len h hi hlt (by omega)
  · have := h.ll
    rw [List.length_range']
    omega

set_option maxRecDepth 100000 in
set_option maxHeartbeats 4000000 in
theorem rf_main (caps : List Nat) (fuel : Nat) (rs : List (List Int)) (left : List Int) (w : World) (vl vleft vrows : Value) (hl : Ints w vl (caps.map (fun (c : Nat) => (c : Int)))) (hlf : Ints w vleft left) (hr : MadeRows w vrows rs) (hin : RIn caps rs left)
    (i : Nat) (hi : i < caps.length) (hlt : (rs.getD i []).length < caps.getD i 0) (hup : 0 < i → (rs.getD i []).length < (rs.getD (i - 1) []).length)
    (ih : ∀ (x : Nat) (w' : World) (vleft' vrows' : Value), 1 ≤ x → x ≤ left.length → badB rs left i (rs.getD i []).length x = false → Ints w' vl (caps.map (fun (c : Nat) => (c : Int))) → Ints w' vleft' (left.set (x - 1) (left.getD (x - 1) 0 - 1)) → MadeRows w' vrows' (rs.set i (rs.getD i [] ++ [(x : Int)])) →
      RIn caps (rs.set i (rs.getD i [] ++ [(x : Int)])) (left.set (x - 1) (left.getD (x - 1) 0 - 1)) →
      Calls Try.prog 70 #[vl, vleft', vrows', .int .i64 i] w' (RPost (rsrch caps fuel i (rs.set i (rs.getD i [] ++ [(x : Int)])) (left.set (x - 1) (left.getD (x - 1) 0 - 1))) w')) :
    Calls Try.prog 70 #[vl, vleft, vrows, .int .i64 i] w (RPost (rsrch caps (fuel + 1) i rs left) w) := by
  obtain ⟨ao, cap, he, _, h2, hc⟩ := hl.open
  rw [List.length_map] at he h2
  obtain ⟨b, o, rfl, hck⟩ := hc i (by simpa using hi)
  rw [caps_getD caps i hi] at hck
  obtain ⟨ar, capr, her, _, _, hcr⟩ := hr.open
  have hir : i < rs.length := by rw [hin.rl]; exact hi
  obtain ⟨br, or, u, rfl, hcku, hu, hnil⟩ := hcr i rs[i] (by simp [hir])
  obtain ⟨au, cu, hue, _, _, huc⟩ := hu.open
  have HUC : Hid (∀ k, k < (rs.getD i []).length → ∃ b o, au = some ⟨b, o, none⟩ ∧ w.cell? ⟨b, o + k, none⟩ = some (.int .i64 ((rs.getD i []).getD k 0))) := by
    have eg : rs.getD i [] = rs[i] := by simp [List.getD, hir]
    rw [eg]; exact huc
  clear huc
  have eg : rs.getD i [] = rs[i] := by simp [List.getD, hir]
  have esr : rsrch caps (fuel + 1) i rs left = (List.range' 1 (left.length + 1 - 1)).flatMap (rStep caps fuel i rs left) := by
    simp only [rsrch]
    rw [if_neg (by omega), if_neg (by omega)]
    rfl
  rw [esr]
  obtain ⟨al, capl, hel, _, _, hcl⟩ := hlf.open
  have hn := hin.n
  have hll := hin.ll
  have hrl := hin.rl
  obtain ⟨len, hlen⟩ : ∃ len, len = (rs.getD i []).length := ⟨_, rfl⟩
  have HLen := hidIt hlen
  have hl8 : len ≤ 8 := by rw [hlen, eg]; exact hin.len _ (List.getElem_mem hir)
  rw [← hlen] at hlt hup
  rw [← eg, ← hlen] at hue
  have HL := hidIt hl
  have HLF := hidIt hlf
  have HR := hidIt hr
  have HIN := hidIt hin
  have HCL := hidIt hcl
  have HCR := hidIt hcr
  have IH := hidIt ih
  have HUP := hidIt hup
  have HRL := hidIt hrl
  clear hl hr hin hc hcr hu hnil eg hrl hlf hcl ih hlen esr hup
  obtain ⟨ci, hci⟩ : ∃ ci, ci = caps.getD i 0 := ⟨_, rfl⟩
  rw [← hci] at hck hlt
  have HCI := hidIt hci
  clear hci
  obtain ⟨n, hnn⟩ : ∃ n, n = caps.length := ⟨_, rfl⟩
  rw [← hnn] at he hn hi h2 HRL
  have HN := hidIt hnn
  clear hnn
  have hrn : rs.length = n := HRL.out
  rw [hrn] at her hir
  have hne : ((i : Int) == (n : Int)) = false := by simp; omega
  have hne2 : ((len : Int) == (ci : Int)) = false := by simp; omega
  subst hue
  have HE := hidIt he
  have HER := hidIt her
  have HEL := hidIt hel
  rw [he, her, hel]
  have hcku0 := hcku
  clear hrn he her hel
  go_enter Try.func70, Try.ntmps70
  go_wp2_with fail
  go_loopw [9, 11] (fun s9 s11 wr => ∃ c : Nat, 1 ≤ c ∧ c ≤ left.length + 1 ∧ s11 = .int .i64 c ∧ OutI w s9 ((List.range' 1 (c - 1)).flatMap (rStep caps fuel i rs left)) wr) (fun _ s11 _ => 10 - (intOf s11).toNat)
  case atStart => exact ⟨1, Nat.le_refl _, by omega, rfl, OutI.nil w⟩
  case round =>
    clear hck hcku
    obtain ⟨c, hc1, hc2, rfl, hinv⟩ := hrel
    have hbw : Below w.heap.size w wr := by obtain ⟨_, _, _, _, _, _, _, h, _⟩ := hinv; exact h
    obtain ⟨A, hA⟩ : ∃ A, A = (List.range' 1 (c - 1)).flatMap (rStep caps fuel i rs left) := ⟨_, rfl⟩
    rw [← hA] at hinv
    have hAl : A.length ≤ 134217728 := by
      rw [hA]; exact rAll_len HIN.out (by rw [← HN.out]; exact hi) (by rw [← HLen.out, ← HCI.out]; exact hlt) (by omega)
    have HA := hidIt hA
    obtain ⟨fpe0, us0, p1, p2, p3, p4, p5, p6, p7⟩ := hinv
    obtain ⟨av, cv, rfl⟩ := owns_form p2
    have HO : Hid (OutI w (.slice av A.length cv) A wr) := ⟨fpe0, us0, p1, p2, p3, p4, p5, p6, p7⟩
    have HB := hidIt hbw
    clear p1 p2 p3 p4 p5 p6 p7 hbw hA
    by_cases hcl : c ≤ left.length
    · go_upto_region 10 with (fail)
      obtain ⟨bl, ol, eal, hcl1⟩ := HCL.out (c - 1) (by omega)
      have cL := (HB.out.cell (p := ⟨bl, ol + (c - 1), none⟩) (World.block_lt_of_cell? w _ hcl1)).trans hcl1
      have cR := (HB.out.cell (p := ⟨br, or + i, none⟩) (World.block_lt_of_cell? w _ hcku0)).trans hcku0
      have hix : ((c : Int) - 1).toNat = c - 1 := by omega
      have HBad : Hid (badB rs left i len c = decide (left.getD (c - 1) 0 = 0 ∨ (0 < len ∧ (c : Int) < (rs.getD i []).getD (len - 1) 0) ∨ (0 < i ∧ (c : Int) ≤ (rs.getD (i - 1) []).getD len 0))) := rfl
      obtain ⟨lv, hlv⟩ : ∃ lv, lv = left.getD (c - 1) 0 := ⟨_, rfl⟩
      rw [← hlv] at cL HBad
      have HLV := hidIt hlv
      clear hcl1 hlv
      subst eal
      go_cut [81] (fun s81 wx => s81 = .bool (badB rs left i len c) ∧ wx = wr)
      case first =>
        have fin : Hid (∀ t : Bool, (t = true ↔ (lv = 0 ∨ (0 < len ∧ (c : Int) < (rs.getD i []).getD (len - 1) 0) ∨ (0 < i ∧ (c : Int) ≤ (rs.getD (i - 1) []).getD len 0))) → Value.bool t = .bool (badB rs left i len c)) := by
          intro t ht
          rw [HBad.out]
          congr 1
          rw [Bool.eq_iff_iff, ht, decide_eq_true_eq]
        by_cases hl0 : lv = 0
        · have hb0 : (lv == 0) = true := by simp [hl0]
          have FIN := hidIt (fin.out true (by simp [hl0]))
          clear fin hl0
          go_wp2
          go_meet
          exact ⟨FIN.out, rfl⟩
        · have hb0 : (lv == 0) = false := by simp [hl0]
          have FIN : Hid (∀ t : Bool, (t = true ↔ ((0 < len ∧ (c : Int) < (rs.getD i []).getD (len - 1) 0) ∨ (0 < i ∧ (c : Int) ≤ (rs.getD (i - 1) []).getD len 0))) → Value.bool t = .bool (badB rs left i len c)) := fun t ht => fin.out t (by rw [ht]; simp [hl0])
          clear fin hl0
          rcases Nat.eq_zero_or_pos len with h0 | hpos
          · have hlt0 : decide ((len : Int) > 0) = false := by simp [h0]
            rcases Nat.eq_zero_or_pos i with hi0 | hipos
            · have FN := hidIt (FIN.out false (by simp [h0, hi0]))
              have hit : decide ((i : Int) > 0) = false := by simp [hi0]
              clear FIN
              go_wp2
              go_meet
              exact ⟨FN.out, rfl⟩
            · obtain ⟨b2, o2, u2, e2, hck2, hu2, _⟩ := HCR.out (i - 1) (rs.getD (i - 1) []) (rs_at (by rw [HRL.out]; omega))
              obtain ⟨rfl, rfl⟩ : br = b2 ∧ or = o2 := by simpa using e2
              obtain ⟨au2, cu2, rfl, _, _, huc2⟩ := hu2.open
              obtain ⟨b3, o3, rfl, hck3⟩ := huc2 len (HUP.out hipos)
              have cU := (HB.out.cell (p := ⟨br, or + (i - 1), none⟩) (World.block_lt_of_cell? w _ hck2)).trans hck2
              have cU3 := (HB.out.cell (p := ⟨b3, o3 + len, none⟩) (World.block_lt_of_cell? w _ hck3)).trans hck3
              have hul : len < (rs.getD (i - 1) []).length := HUP.out hipos
              have hix2 : ((i : Int) - 1).toNat = i - 1 := by omega
              have hit : decide ((i : Int) > 0) = true := by simp; omega
              clear hck2 hck3 huc2 hu2 e2
              generalize (rs.getD (i - 1) []).getD len 0 = y2 at *
              generalize (rs.getD (i - 1) []).length = m2 at *
              have FN : Hid (∀ t : Bool, (t = true ↔ (c : Int) ≤ y2) → Value.bool t = .bool (badB rs left i len c)) := fun t ht => FIN.out t (by rw [ht]; simp [h0, hipos])
              have hle0 : len ≤ 0 := by omega
              clear FIN h0 hlt0
              by_cases hy : (c : Int) ≤ y2
              · have HV := hidIt (FN.out true (by simp [hy]))
                clear FN
                go_wp2
                go_meet
                exact ⟨HV.out, rfl⟩
              · have HV := hidIt (FN.out false (by simp [hy]))
                clear FN
                go_wp2
                go_meet
                exact ⟨HV.out, rfl⟩
          · have hlt0 : decide ((len : Int) > 0) = true := by simp; omega
            obtain ⟨b4, o4, rfl, hck4⟩ := HUC.out (len - 1) (by rw [← HLen.out]; omega)
            have cP := (HB.out.cell (p := ⟨b4, o4 + (len - 1), none⟩) (World.block_lt_of_cell? w _ hck4)).trans hck4
            have hix4 : ((len : Int) - 1).toNat = len - 1 := by omega
            clear hck4
            generalize (rs.getD i []).getD (len - 1) 0 = y1 at *
            rcases Nat.eq_zero_or_pos i with hi0 | hipos
            · have FN : Hid (∀ t : Bool, (t = true ↔ (c : Int) < y1) → Value.bool t = .bool (badB rs left i len c)) := fun t ht => FIN.out t (by rw [ht]; simp [hpos, hi0])
              have hle0 : i ≤ 0 := by omega
              clear FIN hi0
              by_cases hy : (c : Int) < y1
              · have HV := hidIt (FN.out true (by simp [hy]))
                clear FN
                go_wp2
                go_meet
                exact ⟨HV.out, rfl⟩
              · have HV := hidIt (FN.out false (by simp [hy]))
                clear FN
                go_wp2
                go_meet
                exact ⟨HV.out, rfl⟩
            · obtain ⟨b2, o2, u2, e2, hck2, hu2, _⟩ := HCR.out (i - 1) (rs.getD (i - 1) []) (rs_at (by rw [HRL.out]; omega))
              obtain ⟨rfl, rfl⟩ : br = b2 ∧ or = o2 := by simpa using e2
              obtain ⟨au2, cu2, rfl, _, _, huc2⟩ := hu2.open
              obtain ⟨b3, o3, rfl, hck3⟩ := huc2 len (HUP.out hipos)
              have cU := (HB.out.cell (p := ⟨br, or + (i - 1), none⟩) (World.block_lt_of_cell? w _ hck2)).trans hck2
              have cU3 := (HB.out.cell (p := ⟨b3, o3 + len, none⟩) (World.block_lt_of_cell? w _ hck3)).trans hck3
              have hul : len < (rs.getD (i - 1) []).length := HUP.out hipos
              have hix2 : ((i : Int) - 1).toNat = i - 1 := by omega
              have hit : decide ((i : Int) > 0) = true := by simp; omega
              clear hck2 hck3 huc2 hu2 e2
              generalize (rs.getD (i - 1) []).getD len 0 = y2 at *
              generalize (rs.getD (i - 1) []).length = m2 at *
              have FN : Hid (∀ t : Bool, (t = true ↔ ((c : Int) < y1 ∨ (c : Int) ≤ y2)) → Value.bool t = .bool (badB rs left i len c)) := fun t ht => FIN.out t (by rw [ht]; simp [hpos, hipos])
              clear FIN
              by_cases hy1 : (c : Int) < y1
              · have HV := hidIt (FN.out true (by simp [hy1]))
                clear FN
                go_wp2
                go_meet
                exact ⟨HV.out, rfl⟩
              · by_cases hy : (c : Int) ≤ y2
                · have HV := hidIt (FN.out true (by simp [hy]))
                  clear FN
                  go_wp2
                  go_meet
                  exact ⟨HV.out, rfl⟩
                · have HV := hidIt (FN.out false (by simp [hy, hy1]))
                  clear FN
                  go_wp2
                  go_meet
                  exact ⟨HV.out, rfl⟩
      case rest =>
        obtain ⟨rfl, rfl⟩ := hcut
        have HIx := hidIt hix
        have hstep : rStep caps fuel i rs left c = if badB rs left i len c then [] else rsrch caps fuel i (rs.set i (rs.getD i [] ++ [(c : Int)])) (left.set (c - 1) (left.getD (c - 1) 0 - 1)) := by rw [HLen.out]; rfl
        have HSTEP := hidIt hstep
        clear hstep cR cL
        cases hbad : badB rs left i len c
        · have HBF := hidIt hbad
          have hlvne : lv ≠ 0 := by
            intro e
            have h1 := HBad.out
            rw [hbad] at h1
            have h2 := of_decide_eq_false h1.symm
            exact h2 (.inl e)
          have hlvb := list_getD_bd HIN.out.lx (c - 1)
          rw [← HLV.out] at hlvb
          have HLVN := hidIt hlvne
          have HC := hidIt (copied_any vrows rs wc (HR.out.below HB.out (Nat.le_refl _)) (by rw [HRL.out]; omega))
          rw [HER.out, HRL.out] at HC
          clear hbad hlvne
          go_wp2_with fail
          refine HC.out.mono ?_
          rintro e w1 ⟨a1, c1, rfl, ⟨vs, ho1, hr1⟩, hb1⟩
          obtain ⟨g, rfl⟩ : ∃ g, a1 = some ⟨g, 0, none⟩ := by
            obtain ⟨_, h⟩ := ho1
            rcases h with ⟨_, h⟩ | ⟨g, cap, cur, hv, _⟩
            · rw [HRL.out] at h; omega
            · simp only [Value.slice.injEq] at hv
              exact ⟨g, hv.1⟩
          have hvl : vs.length = rs.length := hr1.1
          have hui : vs[i]? = some (vs.getD i undef) := by
            have : i < vs.length := by rw [hvl, HRL.out]; exact hi
            simp [List.getD, this]
          have hrsi : rs[i]? = some (rs.getD i []) := rs_at (by rw [HRL.out]; exact hi)
          have hou := hr1.2.1 i _ _ hui hrsi
          obtain ⟨aui, cui, hform⟩ := owns_form hou
          rw [← HLen.out] at hform hou
          rw [hform] at hui hou
          have cG : w1.cell? ⟨g, i, none⟩ = some (.slice aui len cui) := by
            have ho1n := ho1
            rw [HRL.out] at ho1n
            rw [ho1n.cellAt i (by omega)]; exact hui
          have HO1 := hidIt ho1
          have HR1 := hidIt hr1
          have HB1 := hidIt hb1
          have HUI := hidIt hui
          have HOU := hidIt hou
          obtain ⟨i3, hi3, hz0, hz1, hz2⟩ := info_parts Try.info3
          have hgl := (ho1.lt g rfl).2
          clear HC ho1 hr1 hb1 hvl hui hrsi hou hform
          go_wp2_with (at_builtin; go_must (refine wpList_append_own _ rfl (.tmp 89) (.tmp 91) 22 rfl wc.heap.size 3 i3 (.int .i64 0) 1 8 Try.underlying22 hi3 hz0 hz1 hz2 rfl (by decide) _ len (ints (rs.getD i [])) rfl (HOU.out.alloc _) ⟨w1.heap.size, 0, none⟩ 1 1 [.int .i64 c] rfl rfl (newOne _ _ _) (oneInt _) (by unfold maxLen; omega) (by omega) (Nat.le_trans HB1.out.size (by simp)) ?_))
          intro v2 w2 ho2 hg2 _
          obtain ⟨a2, c2, rfl⟩ := owns_form ho2
          have hirr : i < rs.length := by rw [HRL.out]; exact hi
          have er : rs.getD i [] = rs[i] := by simp [List.getD, hirr]
          obtain ⟨hmr, hfz, hcg, hbel⟩ := OwnRows.pushRow (x := (c : Int)) (o := .cells #[.int .i64 c] 3) HO1.out HR1.out HRL.out.symm (by rw [HRL.out]; exact hi) HUI.out hg2 (by rw [← HLen.out, er]; exact ho2) (by rw [HRL.out]; omega)
            (fun xs hxs => ⟨by have := HIN.out.len xs hxs; omega, (HIN.out.small xs hxs).2⟩) ⟨by omega, by omega⟩
          have hgl2 : g < w2.heap.size := World.block_lt_of_cell? w2 _ hcg
          have HMR := hidIt hmr
          have HBel := hidIt hbel
          clear hmr hbel ho2 hg2 cG hgl er hirr
          go_upto_region 13 with (fail)
          obtain ⟨w3, hw3⟩ : ∃ w3, w3 = w2.setCell ⟨g, i, none⟩ (.slice a2 (len + 1) c2) := ⟨_, rfl⟩
          rw [← hw3] at HMR HBel ⊢
          clear hw3 hfz hcg hgl2
          have HB3 : Hid (Below wc.heap.size wc w3) := HB1.out.trans (HBel.out.mono (Nat.le_refl _))
          have HBW3 : Hid (Below w.heap.size w w3) := HB.out.trans (HB3.out.mono HB.out.size)
          go_wp2_with (at_builtin; go_must (refine wpList_append_own _ rfl (.tmp 94) (.tmp 95) 22 rfl w3.heap.size 3 i3 (.int .i64 0) 1 8 Try.underlying22 hi3 hz0 hz1 hz2 rfl (by decide) _ _ _ rfl (World.ownsRow_made w3 #[] 0 (Nat.le_refl _) (Nat.zero_le _) rfl) ⟨bl, ol, none⟩ left.length capl (ints left) rfl (by simp [ints]) ?e1 (ints_oneCell _ _) (by unfold maxLen; omega) (by omega) (by simp) ?_))
          case e1 =>
            intro j y hj
            have hjl : j < left.length := by have := (List.getElem?_eq_some_iff.1 hj).1; simpa [ints] using this
            obtain ⟨b', o', e, hck'⟩ := HCL.out j hjl
            obtain ⟨rfl, rfl⟩ : bl = b' ∧ ol = o' := by simpa using e
            have hck3 := (HBW3.out.cell (p := ⟨bl, ol + j, none⟩) (World.block_lt_of_cell? w _ hck')).trans hck'
            have hy' : y = .int .i64 (left.getD j 0) := by simp [ints, hjl] at hj; simp [hjl, ← hj]
            rw [Addr.add_lit, hy', ← hck3]
            exact World.cell?_alloc_past _ _ _ (World.block_lt_of_cell? w3 _ hck3)
          intro v4 w4 ho4 hg4 _
          have ho4' : w4.ownsRow w3.heap.size 3 1 v4 left.length (ints left) := by simpa using ho4
          have hb4 : Below w3.heap.size w3 w4 := ((Below.refl _ _).alloc (Nat.le_refl _) _).grown hg4 (by simp) (by intro k hk; simp [Value.ownBlock] at hk; omega)
          obtain ⟨gl, cl4, hv4⟩ : ∃ gl cl, v4 = .slice (some ⟨gl, 0, none⟩) left.length cl := by
            obtain ⟨_, h⟩ := ho4'
            rcases h with ⟨_, h⟩ | ⟨g, cap, cur, hv, _⟩
            · omega
            · exact ⟨g, cap, hv⟩
          subst hv4
          have hst4 := (World.ownsRow.stored ho4' (c - 1) (.int .i64 (lv - 1))).1
          have c4 : w4.cell? ⟨gl, c - 1, none⟩ = some (.int .i64 lv) := by
            rw [ho4'.cellAt (c - 1) (by omega), HLV.out]
            simp [ints, show c - 1 < left.length by omega]
          have f4 := ho4'.frozenAt (c - 1)
          have hb5 : Below w3.heap.size w3 (w4.setCell ⟨gl, c - 1, none⟩ (.int .i64 (lv - 1))) := hb4.setCell (ho4'.lt gl rfl).1 _
          have HST4 := hidIt hst4
          have HB5 := hidIt hb5
          have hgll := (ho4'.lt gl rfl).2
          have hix := HIx.out
          clear ho4 ho4' hg4 hb4 hst4 hb5
          go_upto_region 15 with (fail)
          obtain ⟨w5, hw5⟩ : ∃ w5, w5 = w4.setCell ⟨gl, c - 1, none⟩ (.int .i64 (lv - 1)) := ⟨_, rfl⟩
          rw [← hw5] at HST4 HB5 ⊢
          clear hw5 c4 f4 hgll
          have HBW5 : Hid (Below w.heap.size w w5) := HBW3.out.trans (HB5.out.mono HBW3.out.size)
          have hpush := HIN.out.push (x := c) (by rw [← HN.out]; exact hi) (by rw [← HLen.out, ← HCI.out]; exact hlt) ⟨hc1, hcl⟩ (by rw [← HLV.out]; exact HLVN.out)
          have hless : Ints w5 (.slice (some ⟨gl, 0, none⟩) left.length cl4) (left.set (c - 1) (left.getD (c - 1) 0 - 1)) := by
            refine ints_owned (n := left.length) (B := w3.heap.size) ?_ (by omega) (fun x hx => by have := hpush.lx x hx; exact ⟨by omega, by omega⟩)
            have h := HST4.out
            rw [HLV.out] at h
            simpa [ints, List.map_set] using h
          have hcall := IH.out c w5 _ _ hc1 hcl (by rw [← HLen.out]; exact HBF.out) (HL.out.below HBW5.out (Nat.le_refl _)) hless (HMR.out.below HB5.out (Nat.le_refl _)) hpush
          rw [HE.out] at hcall
          obtain ⟨A2, hA2⟩ : ∃ A2, A2 = rsrch caps fuel i (rs.set i (rs.getD i [] ++ [(c : Int)])) (left.set (c - 1) (left.getD (c - 1) 0 - 1)) := ⟨_, rfl⟩
          have hA2l : A2.length ≤ 16777216 := by rw [hA2]; exact rsrch_max hpush (by rw [← HN.out]; omega)
          rw [← hA2] at hcall
          have HA2 := hidIt hA2
          have HCall := hidIt hcall
          clear hpush hless hcall hA2
          go_wp2_with fail
          refine HCall.out.mono ?_
          rintro e w6 ⟨a6, c6, rfl, ho6⟩
          have HO6 := hidIt ho6
          clear HCall ho6
          obtain ⟨i34, hi34, hy0, hy1, hy2⟩ := info_parts Try.info34
          have hb6 : Below w5.heap.size w5 w6 := by obtain ⟨_, _, _, _, _, _, _, h, _⟩ := HO6.out; exact h
          have HBC5 : Hid (Below wc.heap.size wc w5) := HB3.out.trans (HB5.out.mono HB3.out.size)
          have HB6 : Hid (Below wc.heap.size wc w6) := HBC5.out.trans (hb6.mono HBC5.out.size)
          obtain ⟨fpe, us, p1, p2, p3, p4, p5, p6, p7⟩ := HO.out
          obtain ⟨fpe2, us2, q1, q2, q3, q4, q5, q6, q7⟩ := HO6.out
          have p2' := owns_below p2 HB6.out (Nat.le_refl _)
          have hfin : Hid (∀ (v3 : Value) (w7 : World), OutI w v3 (A ++ A2) w7 → OutI w v3 ((List.range' 1 (c + 1 - 1)).flatMap (rStep caps fuel i rs left)) w7) := by
            intro v3 w7 h
            rw [range1_step hc1, List.flatMap_append, List.flatMap_cons, List.flatMap_nil, List.append_nil, HSTEP.out, HBF.out]
            simp only [Bool.false_eq_true, if_false]
            rw [← HA.out, ← HA2.out]
            exact h
          have hAA : A.length + A2.length ≤ 200000000 := by omega
          rcases Nat.eq_zero_or_pos A2.length with h0 | hpos
          · have hA20 : A2 = [] := List.eq_nil_of_length_eq_zero h0
            have hv := q7 hA20
            simp only [Value.slice.injEq] at hv
            obtain ⟨rfl, hl0, rfl⟩ := hv
            have HO7 : Hid (OutI w (.slice av A.length cv) A w6) := HO.out.keep HB6.out
            have HP2 := hidIt p2'
            have HFin : Hid (OutI w (.slice av A.length cv) ((List.range' 1 (c + 1 - 1)).flatMap (rStep caps fuel i rs left)) w6) := hfin.out _ _ (by rw [hA20, List.append_nil]; exact HO7.out)
            rw [hl0]
            clear p1 p2 p3 p4 p5 p6 p7 q1 q2 q3 q4 q5 q6 q7 p2' hfin hA20 h0 hl0 hb6
            go_wp2_with (at_builtin; go_must (refine wpList_append_own_none rfl (.tmp 104) (.tmp 109) 23 rfl w.heap.size 34 i34 1 Try.underlying23 hi34 _ A.length us rfl HP2.out rfl ?_))
            go_roundw
            case rel => exact ⟨c + 1, by omega, by omega, by go_num, HFin.out⟩
            case measure => simp [intOf]; omega
          · obtain ⟨ad, rfl⟩ : ∃ ad, a6 = some ad := by
              cases a6 with
              | none => have := (owns_nilok q2) _ _ rfl; omega
              | some ad => exact ⟨ad, rfl⟩
            have hne : A2 ≠ [] := fun e => by rw [e] at hpos; simp at hpos
            have hsrc : ∀ (j : Nat) (u : Value), us2[j]? = some u → w6.cell? (ad.add j) = some u := by
              have q2' := q2
              obtain ⟨_, h⟩ := q2'
              rcases h with ⟨h, _⟩ | ⟨g0, cap0, cur0, hv, _⟩
              · cases h
              · simp only [Value.slice.injEq, Option.some.injEq] at hv
                obtain ⟨rfl, _, rfl⟩ := hv
                exact q2.cells rfl
            have hone : ∀ u ∈ us2, u.oneCell' = true := fun u hu => by
              obtain ⟨j, hj, rfl⟩ := List.mem_iff_getElem.1 hu
              exact (q5 j us2[j] (A2[j]'(by omega)) (by simp [hj]) (by simp [show j < A2.length by omega])).1
            have JOIN : Hid (∀ (v3 : Value) (w7 : World), w7.ownsRow w.heap.size 34 1 v3 (A.length + A2.length) (us ++ us2) → w6.grownBy w7 (Value.slice av A.length cv).ownBlock → (∀ g, v3.ownBlock = some g → (Value.slice av A.length cv).ownBlock = some g ∨ w6.heap.size ≤ g) → OutI w v3 (A ++ A2) w7) := by
              intro v3 w7 ho hg hbk
              refine OutI.join (w4 := w5) (w5 := w6) (fpe := fpe) (fpe2 := fpe2) HBW5.out.size (fun k hk => ⟨(p1 k hk).1, Nat.lt_of_lt_of_le (p1 k hk).2 HBC5.out.size⟩) p2' (fun g hg' => Nat.lt_of_lt_of_le (p2.lt g hg').2 HBC5.out.size) p3 p4
                (fun i u xss a b => ⟨(p5 i u xss a b).1, (p5 i u xss a b).2.keep (fun k hk => HB6.out.block k (p1 k hk).2) HB6.out.size fun k h => h⟩) (HB.out.trans (HB6.out.mono HB.out.size)) q1 q4 q5 hb6.size ho hg hbk hne
            have HP2 := hidIt p2'
            have hus2 : us2.length = A2.length := q4
            have HSRC := hidIt hsrc
            have HONE := hidIt hone
            have HSZ : Hid (w.heap.size ≤ w6.heap.size) := Nat.le_trans HB.out.size HB6.out.size
            clear p1 p2 p3 p4 p5 p6 p7 q1 q2 q3 q4 q5 q6 q7 p2' hne hsrc hone hb6
            go_wp2_with (at_builtin; go_must (refine wpList_append_many rfl (.tmp 104) (.tmp 109) 23 rfl w.heap.size 34 i34 (.slice none 0 0) 24 Try.underlying23 hi34 hy0 hy1 hy2 rfl _ A.length us rfl HP2.out ad A2.length c6 us2 rfl hus2 hpos HSRC.out HONE.out (by unfold maxLen; omega) (by omega) HSZ.out ?_))
            intro a7 c7 w7 ho7 hg7 hb7
            have HFin := hidIt (hfin.out _ _ (JOIN.out _ _ ho7 hg7 hb7))
            clear ho7 hg7 hb7 hfin JOIN
            go_wp2
            go_roundw
            case rel => exact ⟨c + 1, by omega, by omega, by go_num, HFin.out⟩
            case measure => simp [intOf]; omega
        · have HBT := hidIt hbad
          clear hbad
          go_wp2
          go_roundw
          case rel => exact ⟨c + 1, by omega, by omega, by go_num, by rw [range1_step hc1, List.flatMap_append, List.flatMap_cons, List.flatMap_nil, List.append_nil, HSTEP.out, HBT.out, if_pos rfl, List.append_nil, ← HA.out]; exact HO.out⟩
          case measure => simp [intOf]; omega
    · obtain rfl : c = left.length + 1 := by omega
      have HQ := hidIt HO.out
      rw [HA.out] at HQ ⊢
      clear HA
      go_wp2
      go_ret
      exact ⟨_, _, rfl, HQ.out⟩
end Go.Proofs.Ytpblbolflnjjnaa
