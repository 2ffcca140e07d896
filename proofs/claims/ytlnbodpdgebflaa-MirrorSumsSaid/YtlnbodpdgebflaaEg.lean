/- the reference: Elements -/
import Derived.Test.YtlnbodpdgebflaaEf
import Derived.Deep.RegionHeld3
import Derived.Laws.Rows
namespace Go.Proofs.Ytlnbodpdgebflaa
open Go.RowKit

theorem i39 : (Try.prog.info? 39).map (·.size) = some 3 := by kernel_rfl

set_option maxRecDepth 100000 in
set_option maxHeartbeats 4000000 in
theorem Elements_any (g : Nat) (hg : g < 17) (w : World) : Calls Try.prog 26 #[gV (kd g) (nm g)] w fun e w' => ∃ v, e = .returned v ∧ RT w' g v ∧ Below w.heap.size w w' := by
  have HMv := Lib.hid (fun (s : Nat) (hs : s < kM g) W => moves_any g s hg hs W)
  have HMi := Lib.hid (fun W => Mirrors_any g hg W)
  have HAf := Lib.hid (fun v v' a s W h h' h1 h2 h3 => after_any v v' a s W h h' h1 h2 h3)
  have HS0 := Lib.hid (ET.start w g)
  have hk4 := (tg hg).2.2.2.1
  have hk0 := (tg hg).2.2.1
  have hE := tE hg
  have hp24 := (pg hg).1
  have hP0 : Hid (pt g 0 = aft (pt g (rt g 0 0)) (pt g (rt g 0 0))) := Lib.hid (by rw [← (pg hg).2.2.2 0 hk0]; exact (pg hg).2.2.1)
  have hr0 : Hid (rt g 0 0 < nE g) := Lib.hid (tb hg hE.1 hk0).2.1
  generalize hkn : kM g = kn at hk4 hk0 HMv HMi
  have HK := Lib.hid hkn
  clear hkn
  obtain ⟨i0, hi0, hz0, hz1, hz2⟩ := info_parts Try.info3
  obtain ⟨i24, hi24, hy0, hy1, hy2⟩ := info_parts Try.info24
  go_enter Try.func26, Try.ntmps26
  go_wp2_with fail
  go_cut [4] (fun t4 wx => ∃ a c, t4 = .slice a (pt g 0).length c ∧ Bg (w.heap.size + 3) wx (.slice a (pt g 0).length c) (pt g 0) ∧ ET w wx g (fun _ => .slice none 0 0) (fun _ => 0) (fun _ => []))
  case first =>
    refine wp_region_held_drew (S := fun W => ET w W g (fun _ => .slice none 0 0) (fun _ => 0) (fun _ => [])) (by kernel_rfl) HS0.out.drew (fun hS0 => ?_)
    refine wpAnyH_take (i := 0) (v := gV (kd g) (nm g)) rfl (by kernel_rfl) (by kernel_rfl) (by kernel_rfl) (fun _ _ _ h => h) (Or.inl ⟨by rfl, fun w' hSw => by have g0 := hSw.gb.at0.1; have g1 := hSw.gb.at0.2; go_simp⟩) hS0 ?_
    simp only [Act.put]
    refine wpAnyH_take (i := 2) (v := gV (kd g) (nm g)) rfl (by kernel_rfl) (by kernel_rfl) (by kernel_rfl) (fun _ _ _ h => h) (Or.inl ⟨by rfl, fun w' hSw => by have g0 := hSw.gb.at0.1; have g1 := hSw.gb.at0.2; go_simp⟩) hS0 ?_
    simp only [Act.put]
    refine wpAnyH_ready (rs := [1]) (by kernel_rfl) (by simp) (AllReadyH.cons rfl (fun K hK => ?_) AllReadyH.nil)
    go_simp
    refine (HMv.out 0 hk0 _).mono ?_
    rintro e wa ⟨uwa, rfl, hu, hb⟩
    obtain ⟨awa, cwa, rfl⟩ := owns_form hu
    have HUwa := Lib.hid hu
    have HBwa := Lib.hid hb
    clear hu hb
    refine hK.out _ _ (hS0.below HBwa.out) fun hS1 => ?_
    clear hK
    refine wpAnyH_ready (rs := [3]) (by kernel_rfl) (by simp) (AllReadyH.cons rfl (fun K hK => ?_) AllReadyH.nil)
    go_simp
    refine (HMv.out 0 hk0 _).mono ?_
    rintro e wb ⟨uwb, rfl, hu, hb⟩
    obtain ⟨awb, cwb, rfl⟩ := owns_form hu
    have HUwb := Lib.hid hu
    have HBwb := Lib.hid hb
    clear hu hb
    have HUwa2 : Hid (Bg _ wb _ (pt g (rt g 0 0))) := Lib.hid (HUwa.out.kept (grown_of_below HBwb.out) (own_none _))
    refine hK.out _ _ (hS1.below HBwb.out) fun hS2 => ?_
    clear hK
    refine wpAnyH_ready (rs := [4]) (by kernel_rfl) (by simp) (AllReadyH.cons rfl (fun K hK => ?_) AllReadyH.nil)
    go_simp
    refine (HAf.out _ _ (pt g (rt g 0 0)) (pt g (rt g 0 0)) wb (bg_nats HUwa2.out hg hr0.out) (bg_nats HUwb.out hg hr0.out) (by rw [pt_len]; exact (px hg hr0.out).1) (pt_bd hg hr0.out) (by rw [pt_len]; omega)).mono ?_
    rintro e wc ⟨uc, rfl, hu, hb⟩
    have hS3 := hS2.below hb
    rw [← hP0.out] at hu
    have hu' : Bg (w.heap.size + 3) wc uc (pt g 0) := owns_mono hu (by have := hS2.box.lt; omega)
    obtain ⟨ac, cc, rfl⟩ := owns_form hu
    refine hK.out _ _ hS3 fun _ => ?_
    clear hK
    refine wpAnyH_ready (rs := [5]) (by kernel_rfl) (by simp) (AllReadyH.cons rfl (fun K hK => ?_) AllReadyH.nil)
    go_simp
    refine hK.out _ _ hS3 fun _ => ?_
    refine wpAnyH_done (by kernel_rfl) ?_ _
    try simp only [Act.put]
    go_wp2_with fail
    go_meet
    exact ⟨_, _, rfl, hu', hS3⟩
  case rest =>
    rename World => wc
    clear HS0
    obtain ⟨a4, c4, rfl, hu4, hE4⟩ := hcut
    have HU4 := Lib.hid hu4
    have HE4 := Lib.hid hE4
    have c0 : ∀ o1 o2 o3 : Obj, (((wc.alloc o1).alloc o2).alloc o3).cell? ⟨w.heap.size + 1 + 1, 0, none⟩ = some (.slice none 0 0) := fun o1 o2 o3 => (((hE4.alloc o1).alloc o2).alloc o3).at.1.1
    have c1 : ∀ o1 o2 o3 : Obj, (((wc.alloc o1).alloc o2).alloc o3).cell? ⟨w.heap.size + 1 + 1, 1, none⟩ = some (.slice none 0 0) := fun o1 o2 o3 => (((hE4.alloc o1).alloc o2).alloc o3).at.1.2.1
    have f0 : ∀ o1 o2 o3 : Obj, (((wc.alloc o1).alloc o2).alloc o3).frozen? ⟨w.heap.size + 1 + 1, 0, none⟩ = false := fun o1 o2 o3 => (((hE4.alloc o1).alloc o2).alloc o3).at.2.1.1
    have f1 : ∀ o1 o2 o3 : Obj, (((wc.alloc o1).alloc o2).alloc o3).frozen? ⟨w.heap.size + 1 + 1, 1, none⟩ = false := fun o1 o2 o3 => (((hE4.alloc o1).alloc o2).alloc o3).at.2.1.2.1
    clear hu4 hE4
    generalize (pt g 0).length = n4 at *
    go_wp2_with fail
    have HE5 := Lib.hid (ET.two HE4.out hg HU4.out)
    clear HE4 HU4 c0 c1 f0 f1 hP0 hr0
    go_loopw [5] (fun xx wo => ∃ (x : Nat) (vs : Nat → Value) (ns : Nat → Nat) (xs : Nat → List Value), x ≤ nE g ∧ xx = .int .i64 x ∧ ET w wo g vs ns xs ∧ ns 0 = cn g (x * kn) ∧ ns 1 = cn g (x * kn) ∧ ns 2 = 0 ∧ vs 2 = .slice none 0 0) (fun xx _ => nE g - (intOf xx).toNat)
    case atStart =>
      obtain ⟨xs, h5⟩ := HE5.out
      exact ⟨0, _, _, _, Nat.zero_le _, rfl, h5, by rw [Nat.zero_mul, (tg hg).1]; rfl, by rw [Nat.zero_mul, (tg hg).1]; rfl, rfl, rfl⟩
    case round =>
      rename World => wo
      clear HE5
      obtain ⟨x, vs, ns, xs, hx, rfl, hET, hn0, hn1, hn2, hv2⟩ := hrel
      have HE := Lib.hid hET
      have HN := Lib.hid (show ns 0 = cn g (x * kn) ∧ ns 1 = cn g (x * kn) ∧ ns 2 = 0 ∧ vs 2 = .slice none 0 0 from ⟨hn0, hn1, hn2, hv2⟩)
      have hx0 : 0 < cn g (x * kn) := by
        by_cases hxl : x < nE g
        · have := (tx hg hxl).1; rw [HK.out] at this; omega
        · obtain rfl : x = nE g := by omega
          have := (tg hg).2.1; rw [HK.out] at this; omega
      obtain ⟨wb, cw, hv0, hcw0⟩ := own_lit (HE.out.own 0 (by decide)) (by rw [hn0]; exact hx0)
      have c0 : wo.cell? ⟨w.heap.size + 1 + 1, 0, none⟩ = some (.slice (some ⟨wb, 0, none⟩) (cn g (x * kn)) cw) := by rw [← hn0, ← hv0]; exact HE.out.at.1.1
      have g0 := HE.out.at.2.2.1
      have g1 := HE.out.at.2.2.2
      clear hET hn0 hn1 hn2 hv2 hv0 hcw0
      by_cases hxl : x < nE g
      · have hxc : x < cn g (x * kn) := by have := (tx hg hxl).1; rwa [HK.out] at this
        have HXC : Hid (cn g (x * kn) = cn g (x * kn + 0)) := Lib.hid rfl
        generalize hn00 : cn g (x * kn) = n0 at hxc hx0 c0
        clear hn00
        go_wp2_with fail
        refine (HMi.out _).mono ?_
        rintro e w2 ⟨rfl, hb2⟩
        have HE2 := Lib.hid (HE.out.below hb2)
        clear hb2 c0 g0 g1 HE hx0 hxc
        go_wp2_with fail
        go_loopw [31] (fun ss wi => ∃ (s : Nat) (vs : Nat → Value) (ns : Nat → Nat) (xs : Nat → List Value), s ≤ kn ∧ ss = .int .i64 s ∧ ET w wi g vs ns xs ∧ ns 0 = cn g (x * kn + s) ∧ ns 1 = cn g (x * kn + s) ∧ ns 2 = 0 ∧ vs 2 = .slice none 0 0) (fun ss _ => kn - (intOf ss).toNat)
        case atStart => exact ⟨0, _, _, _, Nat.zero_le _, rfl, HE2.out, by rw [← HXC.out]; exact HN.out.1, by rw [← HXC.out]; exact HN.out.2.1, HN.out.2.2.1, HN.out.2.2.2⟩
        case round =>
          rename World => wi
          clear HE2 HXC HN vs ns xs
          obtain ⟨s, vs, ns, xs, hs, rfl, hET, hn0, hn1, hn2, hv2⟩ := hrel
          have HE := Lib.hid hET
          have HN := Lib.hid (show ns 0 = cn g (x * kn + s) ∧ ns 1 = cn g (x * kn + s) ∧ ns 2 = 0 ∧ vs 2 = .slice none 0 0 from ⟨hn0, hn1, hn2, hv2⟩)
          clear hET hn0 hn1 hn2 hv2
          by_cases hsl : s < kn
          · have hxm := hxc2 g hg hxl HK.out (s := s) (by omega)
            have HTb : Hid (_ ∧ _) := Lib.hid (tb hg hxl (show s < kM g by rw [HK.out]; exact hsl))
            have HPx : Hid (pt g (rt g x s) = aft (pt g x) (pt g (rt g 0 s))) := Lib.hid ((px hg hxl).2.1 s (by rw [HK.out]; exact hsl))
            have hj : Hid (rt g 0 s < nE g) := Lib.hid (tb hg hE.1 (show s < kM g by rw [HK.out]; exact hsl)).2.1
            rw [HK.out] at HTb
            have HM1 : Hid (x * kn + (s + 1) = x * kn + s + 1) := Lib.hid rfl
            have hcnE : cn g (x * kn + s) ≤ nE g := cn_le' hg HK.out hxl hsl
            generalize hm : x * kn + s = m at *
            obtain ⟨wb, cw, hv0, hcw⟩ := own_lit (HE.out.own 0 (by decide)) (by rw [HN.out.1]; omega)
            obtain ⟨pb, cp, hv1, hcp⟩ := own_lit (HE.out.own 1 (by decide)) (by rw [HN.out.2.1]; omega)
            rw [HN.out.1] at hv0 hcw
            rw [HN.out.2.1] at hv1 hcp
            have HV0 := Lib.hid hv0
            have HV1 := Lib.hid hv1
            obtain ⟨pa, pc, hpx⟩ := owns_form (HE.out.el 1 (by decide) x (by rw [HN.out.2.1]; exact hxm))
            have HPX := Lib.hid hpx
            clear hv0 hv1 hpx
            go_wp2_with fail
            go_cut [7] (fun t7 wx => ∃ a c, t7 = .slice a (np g) c ∧ Bg (w.heap.size + 3) wx (.slice a (np g) c) (pt g (rt g x s)) ∧ ET w wx g vs ns xs)
            case first =>
              refine wp_region_held_drew (S := fun W => ET w W g vs ns xs) (by kernel_rfl) HE.out.drew (fun hS0 => ?_)
              refine wpAnyH_take (i := 0) (v := .pointer (some ⟨w.heap.size + 1 + 1, 1, none⟩)) rfl (by kernel_rfl) (by kernel_rfl) (by kernel_rfl) (fun _ _ _ h => h) (Or.inl ⟨by rfl, fun w' hSw => by go_simp⟩) hS0 ?_
              simp only [Act.put]
              refine wpAnyH_take (i := 1) (v := .slice (some ⟨pb, 0, none⟩) (cn g m) cp) rfl (by kernel_rfl) (by kernel_rfl) (by kernel_rfl) (fun _ _ _ h => h) (Or.inl ⟨by rfl, (fun w' hSw => by have h1 := hSw.at.1.2.1; rw [HV1.out] at h1; go_simp)⟩) hS0 ?_
              simp only [Act.put]
              refine wpAnyH_take (i := 2) (v := .int .i64 x) rfl (by kernel_rfl) (by kernel_rfl) (by kernel_rfl) (fun _ _ _ h => h) (Or.inl ⟨by rfl, fun w' hSw => by go_simp⟩) hS0 ?_
              simp only [Act.put]
              refine wpAnyH_take (i := 3) (v := .pointer (some ⟨pb, x, none⟩)) rfl (by kernel_rfl) (by kernel_rfl) (by kernel_rfl) (fun _ _ _ h => h) (Or.inl ⟨by rfl, fun w' hSw => by go_simp⟩) hS0 ?_
              simp only [Act.put]
              refine wpAnyH_take (i := 4) (v := .slice pa (colD g 1 x).length pc) rfl (by kernel_rfl) (by kernel_rfl) (by kernel_rfl) (fun _ _ _ h => h) (Or.inl ⟨by rfl, (fun w' hSw => by have h1 := cell_load hSw (c := 1) (by decide) HV1.out hxm HPX.out; go_simp)⟩) hS0 ?_
              simp only [Act.put]
              refine wpAnyH_take (i := 5) (v := gV (kd g) (nm g)) rfl (by kernel_rfl) (by kernel_rfl) (by kernel_rfl) (fun _ _ _ h => h) (Or.inl ⟨by rfl, fun w' hSw => by have g0 := hSw.at.2.2.1; have g1 := hSw.at.2.2.2; go_simp⟩) hS0 ?_
              simp only [Act.put]
              refine wpAnyH_take (i := 6) (v := .int .i64 s) rfl (by kernel_rfl) (by kernel_rfl) (by kernel_rfl) (fun _ _ _ h => h) (Or.inl ⟨by rfl, fun w' hSw => by go_simp⟩) hS0 ?_
              simp only [Act.put]
              refine wpAnyH_ready (rs := [7]) (by kernel_rfl) (by simp) (AllReadyH.cons rfl (fun K hK => ?_) AllReadyH.nil)
              go_simp
              refine (HMv.out s hsl _).mono ?_
              rintro e wa ⟨ua, rfl, hu, hb⟩
              have hS1 := hS0.below hb
              obtain ⟨aa, ca, rfl⟩ := owns_form hu
              refine hK.out _ _ hS1 fun _ => ?_
              clear hK
              refine wpAnyH_ready (rs := [8]) (by kernel_rfl) (by simp) (AllReadyH.cons rfl (fun K hK => ?_) AllReadyH.nil)
              go_simp
              have hpx : Bg (w.heap.size + 3) wa (.slice pa (colD g 1 x).length pc) (pt g x) := by
                have h1 := hS1.el 1 (by decide) x (by rw [HN.out.2.1]; exact hxm)
                rw [HPX.out] at h1
                exact h1
              refine (HAf.out _ _ (pt g x) (pt g (rt g 0 s)) wa (bg_nats hpx hg hxl) (bg_nats hu hg hj.out) (by rw [pt_len]; exact (px hg hj.out).1) (pt_bd hg hxl) (by rw [pt_len]; omega)).mono ?_
              rintro e wc ⟨uc, rfl, hu2, hb2⟩
              have hS3 := hS1.below hb2
              rw [← HPx.out] at hu2
              have hu' : Bg (w.heap.size + 3) wc uc (pt g (rt g x s)) := owns_mono hu2 (by have := hS1.box.lt; omega)
              obtain ⟨ac, cc, rfl⟩ := owns_form hu2
              refine hK.out _ _ hS3 fun _ => ?_
              clear hK
              refine wpAnyH_ready (rs := [9]) (by kernel_rfl) (by simp) (AllReadyH.cons rfl (fun K hK => ?_) AllReadyH.nil)
              go_simp
              refine hK.out _ _ hS3 fun _ => ?_
              refine wpAnyH_done (by kernel_rfl) ?_ _
              try simp only [Act.put]
              go_wp2_with fail
              go_meet
              exact ⟨_, _, by rw [pt_len], by rw [pt_len] at hu'; exact hu', hS3⟩
            case rest =>
              obtain ⟨a7, c7, rfl, hu7, hE7⟩ := hcut
              have HU7 := Lib.hid hu7
              have HE7 := Lib.hid hE7
              have c0 : wc.cell? ⟨w.heap.size + 1 + 1, 0, none⟩ = some (.slice (some ⟨wb, 0, none⟩) (cn g m) cw) := by rw [← HV0.out]; exact hE7.at.1.1
              have c1 : wc.cell? ⟨w.heap.size + 1 + 1, 1, none⟩ = some (.slice (some ⟨pb, 0, none⟩) (cn g m) cp) := by rw [← HV1.out]; exact hE7.at.1.2.1
              have c2 : wc.cell? ⟨w.heap.size + 1 + 1, 2, none⟩ = some (.slice none 0 0) := by rw [← HN.out.2.2.2]; exact hE7.at.1.2.2
              have HFi : Hid (∀ W, Below wc.heap.size wc W → _) := Lib.hid (fun (W : World) (hb : Below wc.heap.size wc W) => find_any (some ⟨wb, 0, none⟩) none (cn g m) cw 0 0 pb (cn g m) cp (rt g x s) (pt g) (.slice a7 (np g) c7) (pt g (rt g x s)) W
                (by have h1 := ((HE7.out.below hb).read hg (c := 1) (by decide) (by rw [HN.out.2.1]; exact hcnE) HV1.out).2.2; rwa [colP] at h1) (bg_nats (HU7.out.kept (grown_of_below hb) (own_none _)) hg HTb.out.2.1) (by omega) HTb.out.1
                (fun i hi => pt_ne hg (by have := HTb.out.2.1; omega) HTb.out.2.1 (by omega)) (fun _ => rfl))
              clear hu7 hE7 hj HPx
              by_cases hrn : rt g x s < cn g m
              · rw [if_pos hrn] at HFi
                have HCn : Hid (cn g (m + 1) = cn g m) := Lib.hid (by rw [HTb.out.2.2.1]; omega)
                clear HTb
                generalize rt g x s = r at *
                go_wp2_with fail
                refine (HFi.out _ (Below.refl _ _)).mono ?_
                rintro e w8 ⟨rfl, hb8⟩
                have HE8 := Lib.hid (HE7.out.below hb8)
                clear hb8 c0 c1 c2 HFi
                go_wp2_with fail
                go_roundw
                case rel => exact ⟨s + 1, _, _, _, by omega, by go_num, HE8.out, by rw [HM1.out, HCn.out]; exact HN.out.1, by rw [HM1.out, HCn.out]; exact HN.out.2.1, HN.out.2.2.1, HN.out.2.2.2⟩
                case measure => simp [intOf]; omega
              · have hrn2 : rt g x s = cn g m := by have := HTb.out.1; omega
                rw [if_neg hrn] at HFi
                have HCn : Hid (cn g (m + 1) = cn g m + 1) := Lib.hid (by rw [HTb.out.2.2.1]; omega)
                have HWd : Hid (wd g (cn g m) = wd g x ++ [s]) := Lib.hid (by have := HTb.out.2.2.2.1 hrn2; rwa [hrn2] at this)
                have hcn1 : cn g m < nE g := by rw [← hrn2]; exact HTb.out.2.1
                rw [hrn2] at HU7
                clear HTb hrn hrn2
                obtain ⟨wa, wq, hwx⟩ := owns_form (HE7.out.el 0 (by decide) x (by rw [HN.out.1]; exact hxm))
                have HWX := Lib.hid hwx
                have HNw : Hid (∀ W, ET w W g vs ns xs → Nats W (.slice wa (colD g 0 x).length wq) (wd g x)) := Lib.hid (fun W h => by
                  have h1 := h.el 0 (by decide) x (by rw [HN.out.1]; exact hxm)
                  rw [HWX.out] at h1
                  exact Bg.nats h1 (by have := (colD_bd (c := 0) hg hxl).1; rw [colW] at this; omega) (wd_bd hg hxl))
                have hlw : (colD g 0 x).length ≤ 24 := (colD_bd (c := 0) hg hxl).1
                have hlw2 : (wd g x).length = (colD g 0 x).length := by rw [colW]
                obtain ⟨_, _, e', hwq, _, _⟩ := Nats.open (HNw.out _ HE7.out)
                rw [hlw2] at e' hwq
                have hl1 : (0 : Int) ≤ ((colD g 0 x).length : Int) := by omega
                have hl2 : ((colD g 0 x).length : Int) ≤ (wq : Int) := by cases e'; omega
                clear hwx e' hwq
                generalize (colD g 0 x).length = wn at *
                go_wp2_with fail
                refine (HFi.out _ (Below.refl _ _)).mono ?_
                rintro e w8 ⟨rfl, hb8⟩
                have HE8 := Lib.hid (HE7.out.below hb8)
                have HU8 : Hid (Bg (w.heap.size + 3) w8 (.slice a7 (np g) c7) (pt g (cn g m))) := Lib.hid (HU7.out.kept (grown_of_below hb8) (own_none _))
                clear hb8 c0 c1 c2 HFi HE7 HU7
                go_wp2_with fail
                go_cut [7] (fun t7 wx => ∃ v0 u0, t7 = .slice a7 (np g) c7 ∧ Bg (w.heap.size + 3) wx (.slice a7 (np g) c7) (pt g (cn g m)) ∧ ET w wx g (upd vs 0 v0) (upd ns 0 (cn g m + 1)) (upd xs 0 (xs 0 ++ [u0])))
                case first =>
                  refine region_last 24 (fun W => ET w W g vs ns xs ∧ Bg (w.heap.size + 3) W (.slice a7 (np g) c7) (pt g (cn g m))) (by kernel_rfl) ⟨HE8.out.drew, HU8.out.kept (grown_of_below (below_drew (Below.refl _ _))) (own_none _)⟩ (fun hS0 => ?_)
                  obtain ⟨wz, hwz⟩ : ∃ wz, wz = w8.drew := ⟨_, rfl⟩
                  rw [← hwz] at hS0 ⊢
                  clear hwz
                  refine Last.take (i := 2) (v := .pointer (some ⟨w.heap.size + 1 + 1, 0, none⟩)) rfl (by kernel_rfl) (by kernel_rfl) (by kernel_rfl) (by kernel_rfl) (by kernel_rfl) (by kernel_rfl) (by kernel_rfl) (fun _ _ _ h => h) (Or.inl ⟨by rfl, fun w' hSw => by go_simp⟩) hS0 ?_
                  simp only [Act.put]
                  refine Last.take (i := 3) (v := .slice (some ⟨wb, 0, none⟩) (cn g m) cw) rfl (by kernel_rfl) (by kernel_rfl) (by kernel_rfl) (by kernel_rfl) (by kernel_rfl) (by kernel_rfl) (by kernel_rfl) (fun _ _ _ h => h) (Or.inl ⟨by rfl, (fun w' hSw => by have h1 := hSw.1.at.1.1; rw [HV0.out] at h1; go_simp)⟩) hS0 ?_
                  simp only [Act.put]
                  refine Last.take (i := 4) (v := .int .i64 x) rfl (by kernel_rfl) (by kernel_rfl) (by kernel_rfl) (by kernel_rfl) (by kernel_rfl) (by kernel_rfl) (by kernel_rfl) (fun _ _ _ h => h) (Or.inl ⟨by rfl, fun w' hSw => by go_simp⟩) hS0 ?_
                  simp only [Act.put]
                  refine Last.take (i := 5) (v := .pointer (some ⟨wb, x, none⟩)) rfl (by kernel_rfl) (by kernel_rfl) (by kernel_rfl) (by kernel_rfl) (by kernel_rfl) (by kernel_rfl) (by kernel_rfl) (fun _ _ _ h => h) (Or.inl ⟨by rfl, fun w' hSw => by go_simp⟩) hS0 ?_
                  simp only [Act.put]
                  refine Last.take (i := 6) (v := .slice wa wn wq) rfl (by kernel_rfl) (by kernel_rfl) (by kernel_rfl) (by kernel_rfl) (by kernel_rfl) (by kernel_rfl) (by kernel_rfl) (fun _ _ _ h => h) (Or.inl ⟨by rfl, (fun w' hSw => by have h1 := cell_load hSw.1 (c := 0) (by decide) HV0.out hxm HWX.out; go_simp)⟩) hS0 ?_
                  simp only [Act.put]
                  refine Last.take (i := 7) (v := .pointer (some ⟨w.heap.size + 1 + 1, 0, none⟩)) rfl (by kernel_rfl) (by kernel_rfl) (by kernel_rfl) (by kernel_rfl) (by kernel_rfl) (by kernel_rfl) (by kernel_rfl) (fun _ _ _ h => h) (Or.inl ⟨by rfl, fun w' hSw => by go_simp⟩) hS0 ?_
                  simp only [Act.put]
                  refine Last.take (i := 8) (v := .slice (some ⟨wb, 0, none⟩) (cn g m) cw) rfl (by kernel_rfl) (by kernel_rfl) (by kernel_rfl) (by kernel_rfl) (by kernel_rfl) (by kernel_rfl) (by kernel_rfl) (fun _ _ _ h => h) (Or.inl ⟨by rfl, (fun w' hSw => by have h1 := hSw.1.at.1.1; rw [HV0.out] at h1; go_simp)⟩) hS0 ?_
                  simp only [Act.put]
                  refine Last.take (i := 9) (v := .int .i64 x) rfl (by kernel_rfl) (by kernel_rfl) (by kernel_rfl) (by kernel_rfl) (by kernel_rfl) (by kernel_rfl) (by kernel_rfl) (fun _ _ _ h => h) (Or.inl ⟨by rfl, fun w' hSw => by go_simp⟩) hS0 ?_
                  simp only [Act.put]
                  refine Last.take (i := 10) (v := .pointer (some ⟨wb, x, none⟩)) rfl (by kernel_rfl) (by kernel_rfl) (by kernel_rfl) (by kernel_rfl) (by kernel_rfl) (by kernel_rfl) (by kernel_rfl) (fun _ _ _ h => h) (Or.inl ⟨by rfl, fun w' hSw => by go_simp⟩) hS0 ?_
                  simp only [Act.put]
                  refine Last.take (i := 11) (v := .slice wa wn wq) rfl (by kernel_rfl) (by kernel_rfl) (by kernel_rfl) (by kernel_rfl) (by kernel_rfl) (by kernel_rfl) (by kernel_rfl) (fun _ _ _ h => h) (Or.inl ⟨by rfl, (fun w' hSw => by have h1 := cell_load hSw.1 (c := 0) (by decide) HV0.out hxm HWX.out; go_simp)⟩) hS0 ?_
                  simp only [Act.put]
                  refine Last.take (i := 12) (v := .int .i64 wn) rfl (by kernel_rfl) (by kernel_rfl) (by kernel_rfl) (by kernel_rfl) (by kernel_rfl) (by kernel_rfl) (by kernel_rfl) (fun _ _ _ h => h) (Or.inl ⟨by rfl, fun w' hSw => by go_simp⟩) hS0 ?_
                  simp only [Act.put]
                  refine Last.take (i := 13) (v := .pointer (some ⟨w.heap.size + 1 + 1, 0, none⟩)) rfl (by kernel_rfl) (by kernel_rfl) (by kernel_rfl) (by kernel_rfl) (by kernel_rfl) (by kernel_rfl) (by kernel_rfl) (fun _ _ _ h => h) (Or.inl ⟨by rfl, fun w' hSw => by go_simp⟩) hS0 ?_
                  simp only [Act.put]
                  refine Last.take (i := 14) (v := .slice (some ⟨wb, 0, none⟩) (cn g m) cw) rfl (by kernel_rfl) (by kernel_rfl) (by kernel_rfl) (by kernel_rfl) (by kernel_rfl) (by kernel_rfl) (by kernel_rfl) (fun _ _ _ h => h) (Or.inl ⟨by rfl, (fun w' hSw => by have h1 := hSw.1.at.1.1; rw [HV0.out] at h1; go_simp)⟩) hS0 ?_
                  simp only [Act.put]
                  refine Last.take (i := 15) (v := .int .i64 x) rfl (by kernel_rfl) (by kernel_rfl) (by kernel_rfl) (by kernel_rfl) (by kernel_rfl) (by kernel_rfl) (by kernel_rfl) (fun _ _ _ h => h) (Or.inl ⟨by rfl, fun w' hSw => by go_simp⟩) hS0 ?_
                  simp only [Act.put]
                  refine Last.take (i := 16) (v := .pointer (some ⟨wb, x, none⟩)) rfl (by kernel_rfl) (by kernel_rfl) (by kernel_rfl) (by kernel_rfl) (by kernel_rfl) (by kernel_rfl) (by kernel_rfl) (fun _ _ _ h => h) (Or.inl ⟨by rfl, fun w' hSw => by go_simp⟩) hS0 ?_
                  simp only [Act.put]
                  refine Last.take (i := 17) (v := .slice wa wn wq) rfl (by kernel_rfl) (by kernel_rfl) (by kernel_rfl) (by kernel_rfl) (by kernel_rfl) (by kernel_rfl) (by kernel_rfl) (fun _ _ _ h => h) (Or.inl ⟨by rfl, (fun w' hSw => by have h1 := cell_load hSw.1 (c := 0) (by decide) HV0.out hxm HWX.out; go_simp)⟩) hS0 ?_
                  simp only [Act.put]
                  refine Last.take (i := 18) (v := .int .i64 wn) rfl (by kernel_rfl) (by kernel_rfl) (by kernel_rfl) (by kernel_rfl) (by kernel_rfl) (by kernel_rfl) (by kernel_rfl) (fun _ _ _ h => h) (Or.inl ⟨by rfl, fun w' hSw => by go_simp⟩) hS0 ?_
                  simp only [Act.put]
                  refine Last.take (i := 0) (v := .pointer (some ⟨w.heap.size + 1 + 1, 0, none⟩)) rfl (by kernel_rfl) (by kernel_rfl) (by kernel_rfl) (by kernel_rfl) (by kernel_rfl) (by kernel_rfl) (by kernel_rfl) (fun _ _ _ h => h) (Or.inl ⟨by rfl, fun w' hSw => by go_simp⟩) hS0 ?_
                  simp only [Act.put]
                  refine Last.take (i := 1) (v := .slice (some ⟨wb, 0, none⟩) (cn g m) cw) rfl (by kernel_rfl) (by kernel_rfl) (by kernel_rfl) (by kernel_rfl) (by kernel_rfl) (by kernel_rfl) (by kernel_rfl) (fun _ _ _ h => h) (Or.inl ⟨by rfl, (fun w' hSw => by have h1 := hSw.1.at.1.1; rw [HV0.out] at h1; go_simp)⟩) hS0 ?_
                  simp only [Act.put]
                  refine Last.take (i := 19) (v := .slice wa wn wn) rfl (by kernel_rfl) (by kernel_rfl) (by kernel_rfl) (by kernel_rfl) (by kernel_rfl) (by kernel_rfl) (by kernel_rfl) (fun _ _ _ h => h) (Or.inl ⟨by rfl, fun w' hSw => by go_simp⟩) hS0 ?_
                  simp only [Act.put]
                  refine Last.take (i := 20) (v := .int .i64 s) rfl (by kernel_rfl) (by kernel_rfl) (by kernel_rfl) (by kernel_rfl) (by kernel_rfl) (by kernel_rfl) (by kernel_rfl) (fun _ _ _ h => h) (Or.inl ⟨by rfl, fun w' hSw => by go_simp⟩) hS0 ?_
                  simp only [Act.put]
                  refine Last.one (i := 21) (by kernel_rfl) rfl (fun K hK => ?_)
                  go_simp
                  have hS21 : (fun W => ET w W g vs ns xs ∧ Bg (w.heap.size + 3) W (.slice a7 (np g) c7) (pt g (cn g m))) (wz.alloc (.cells #[.int .i64 (s : Nat)] 3)) := ⟨hS0.1.alloc _, hS0.2.alloc _⟩
                  refine hK.out _ _ hS21 fun _ => ?_
                  clear hK
                  have hcl := Nats.cells (HNw.out _ hS21.1)
                  have hwn : (wd g x).length = wn := hlw2
                  refine Last.one (i := 22) (by kernel_rfl) rfl (fun K hK => ?_)
                  rw [if_pos (by rfl)]
                  refine wp_append_grows _ _ 24 rfl 3 i0 (.int .i64 0) 1 8 Try.underlying24 hi0 hz0 hz1 hz2 rfl (by decide) wa wn wn (ints (nats (wd g x))) rfl (fun e => by have := hcl.2.1 e; rw [this] at hwn; simp at hwn; omega) (by rw [ints_length, nats_length]; omega) hcl.2.2 ⟨wz.heap.size, 0, none⟩ 1 1 [.int .i64 (s : Nat)] rfl rfl (newOne _ _ _) (oneInt _) (by omega) (by unfold maxLen; omega) (by omega) ?_
                  intro v22 w22 hown22 hg22
                  have hb22 : Below (wz.alloc (.cells #[.int .i64 (s : Nat)] 3)).heap.size (wz.alloc (.cells #[.int .i64 (s : Nat)] 3)) w22 := (Below.refl _ _).grown hg22 (Nat.le_refl _) fun k e => by cases e
                  have hE22 := hS21.1.below hb22
                  have hT22 : Bg (w.heap.size + 3) w22 (.slice a7 (np g) c7) (pt g (cn g m)) := hS21.2.kept hg22 (own_none _)
                  have hU22 : Bg (w.heap.size + 3) w22 v22 (colD g 0 (cn g m)) := by
                    rw [colW]
                    exact bg_word hown22 hwn HWd.out (by have := hS21.1.box.lt; omega)
                  obtain ⟨a22, c22, rfl⟩ := owns_form hown22
                  refine hK.out _ _ ⟨hE22, hT22⟩ fun _ => ?_
                  clear hK hown22 hg22 hb22 hcl
                  refine Last.one (i := 23) (by kernel_rfl) rfl (fun K hK => ?_)
                  go_simp
                  have hE23 := hE22.alloc (.cells #[.slice a22 (wn + 1) c22] 24)
                  have hT23 := hT22.alloc (.cells #[.slice a22 (wn + 1) c22] 24)
                  refine hK.out _ _ ⟨hE23, hT23⟩ fun _ => ?_
                  clear hK
                  refine Last.late (i := 24) (by kernel_rfl) (by rfl) rfl (fun K hK => ?_)
                  rw [if_pos (by rfl)]
                  refine wp_append_own_at _ _ 33 rfl (w.heap.size + 3) 24 i24 (.slice none 0 0) 1 24 Try.underlying33 hi24 hy0 hy1 hy2 rfl (by decide) _ _ _ rfl (hE23.ow (c := 0) (by decide) HV0.out HN.out.1) ⟨w22.heap.size, 0, none⟩ 1 1 [_] rfl rfl (newOne _ _ _) (by intro u hu; simp at hu; subst hu; rfl) (by unfold maxLen; omega) (by omega) (by have := hE23.box.lt; omega) ?_
                  intro v9 w9 hown9 hg9 hloc9
                  have hE9 := hE23.grow (c := 0) (by decide) HV0.out HN.out.1 (hU22.alloc _) hg9 hown9 hloc9
                  have hT9 : Bg (w.heap.size + 3) w9 (.slice a7 (np g) c7) (pt g (cn g m)) := hT23.kept hg9 (own_own hT23 (hE23.ow (c := 0) (by decide) HV0.out HN.out.1) (by decide))
                  have hcf := hE23.boxg (c := 0) (by decide) (by rw [HV0.out]; exact hg9)
                  have cT9 := hcf.1.1
                  have fT9 := hcf.2.1
                  have hT9' : Bg (w.heap.size + 3) (w9.setCell ⟨w.heap.size + 1 + 1, 0, none⟩ v9) (.slice a7 (np g) c7) (pt g (cn g m)) := World.ownsRow.kept hT9 (grown_cell _ _ _) (own_lt hT9 (by show w.heap.size + 1 + 1 < _; omega))
                  obtain ⟨a9, c9, rfl⟩ := owns_form hown9
                  clear hown9 hg9 hloc9 hcf hT9
                  refine hK.out _ _ ?_
                  clear hK
                  refine Last.late (i := 25) (by kernel_rfl) (by rfl) rfl (fun K hK => ?_)
                  go_simp
                  refine hK.out _ _ ?_
                  clear hK
                  refine Last.late (i := 26) (by kernel_rfl) (by rfl) rfl (fun K hK => ?_)
                  go_simp
                  refine hK.out _ _ ?_
                  clear hK
                  refine Last.done (by kernel_rfl) ?_ _
                  try simp only [Act.put]
                  go_wp2_with fail
                  go_meet
                  exact ⟨_, _, rfl, hT9', hE9⟩
                case rest =>
                  rename World => wd_
                  obtain ⟨v0, u0, rfl, hu9, hE9⟩ := hcut
                  have HU9 := Lib.hid hu9
                  have HE9 := Lib.hid hE9
                  have HV9 : Hid (upd vs 0 v0 1 = .slice (some ⟨pb, 0, none⟩) (cn g m) cp) := Lib.hid HV1.out
                  have HN9 : Hid (upd ns 0 (cn g m + 1) 1 = cn g m) := Lib.hid HN.out.2.1
                  have c1 : wd_.cell? ⟨w.heap.size + 1 + 1, 1, none⟩ = some (.slice (some ⟨pb, 0, none⟩) (cn g m) cp) := by rw [← HV9.out]; exact hE9.at.1.2.1
                  have hrc : (rt g x s) = rt g x s := rfl
                  have HM2 : Hid (cn g (x * kn + (s + 1)) = cn g m + 1) := Lib.hid (by rw [HM1.out, HCn.out])
                  clear hu9 hE9 HNw HWX HE8 HU8 HWd hl1 hl2 hlw hlw2 HPX
                  go_wp2_with (first | (at_builtin; refine wpList_append_own_at _ rfl _ _ 33 rfl (w.heap.size + 3) 24 i24 (.slice none 0 0) 1 24 Try.underlying33 hi24 hy0 hy1 hy2 rfl (by decide) _ _ _ rfl ((HE9.out.alloc _).ow (c := 1) (by decide) HV9.out HN9.out) ⟨wd_.heap.size, 0, none⟩ 1 1 [.slice a7 (np g) c7] rfl rfl (newOne _ _ _) (by intro u hu; simp at hu; subst hu; rfl) (by unfold maxLen; omega) (by omega) (by have := HE9.out.box.lt; simp; omega) ?_; intro v9 w9 hown9 hg9 _ hloc9; have HE10 := Lib.hid ((HE9.out.alloc (.cells #[.slice a7 (np g) c7] 24)).grow (c := 1) (by decide) HV9.out HN9.out (by rw [colP]; exact HU9.out.alloc _) hg9 hown9 hloc9); have hcf := (HE9.out.alloc (.cells #[.slice a7 (np g) c7] 24)).boxg (c := 1) (by decide) (by rw [HV9.out]; exact hg9); have cT9 := hcf.1.2.1; have fT9 := hcf.2.2.1; clear hcf; obtain ⟨a9, c9, rfl⟩ := owns_form hown9; clear hown9 hg9 hloc9 c1) | fail)
                  go_roundw
                  case rel => exact ⟨s + 1, _, _, _, by omega, by go_num, HE10.out, by rw [HM2.out]; rfl, by rw [HM2.out]; rfl, HN.out.2.2.1, HN.out.2.2.2⟩
                  case measure => simp [intOf]; omega
          · have hse : s = kn := by omega
            have HF : Hid (cn g ((x + 1) * kn) = cn g (x * kn + s)) := Lib.hid (by rw [hse, Nat.add_mul, Nat.one_mul])
            clear hse
            go_wp2_with fail
            go_roundw
            case rel => exact ⟨x + 1, _, _, _, by omega, by go_num, HE.out, by rw [HF.out]; exact HN.out.1, by rw [HF.out]; exact HN.out.2.1, HN.out.2.2.1, HN.out.2.2.2⟩
            case measure => simp [intOf]; omega
      · obtain rfl : x = nE g := by omega
        have hend : cn g (nE g * kn) = nE g := by have := (tg hg).2.1; rwa [HK.out] at this
        rw [hend] at HN c0
        obtain ⟨pb, cp, hv1, hcp⟩ := own_lit (HE.out.own 1 (by decide)) (by rw [HN.out.2.1]; exact hE.1)
        rw [HN.out.2.1] at hv1
        have hv0 : vs 0 = .slice (some ⟨wb, 0, none⟩) (nE g) cw := by
          have h1 := HE.out.at.1.1
          rw [c0] at h1
          exact (Option.some.inj h1).symm
        have HV := Lib.hid (And.intro hv0 hv1)
        have HL : Hid (∃ (vs : Nat → Value) (ns : Nat → Nat) (xs : Nat → List Value), ET w wo g vs ns xs ∧ vs 0 = .slice (some ⟨wb, 0, none⟩) (nE g) cw ∧ vs 1 = .slice (some ⟨pb, 0, none⟩) (nE g) cp ∧ ns 0 = nE g ∧ ns 1 = nE g ∧ ns 2 = 0) := Lib.hid ⟨vs, ns, xs, HE.out, hv0, hv1, HN.out.1, HN.out.2.1, HN.out.2.2.1⟩
        clear hv0 hv1 HV HE HN hcp hend
        go_wp2_with fail
        go_loopw [83] (fun xx wq => ∃ (x : Nat) (vs : Nat → Value) (ns : Nat → Nat) (xs : Nat → List Value), x ≤ nE g ∧ xx = .int .i64 x ∧ ET w wq g vs ns xs ∧ vs 0 = .slice (some ⟨wb, 0, none⟩) (nE g) cw ∧ vs 1 = .slice (some ⟨pb, 0, none⟩) (nE g) cp ∧ ns 0 = nE g ∧ ns 1 = nE g ∧ ns 2 = x) (fun xx _ => nE g - (intOf xx).toNat)
        case atStart =>
          obtain ⟨vs, ns, xs, hl⟩ := HL.out
          exact ⟨0, vs, ns, xs, Nat.zero_le _, rfl, hl⟩
        case round =>
          rename World => wq
          clear HL
          obtain ⟨x, vs, ns, xs, hx, rfl, hET, hv0, hv1, hn0, hn1, hn2⟩ := hrel
          have HE := Lib.hid hET
          have HV0 := Lib.hid hv0
          have HV1 := Lib.hid hv1
          have HN := Lib.hid (show ns 0 = nE g ∧ ns 1 = nE g ∧ ns 2 = x from ⟨hn0, hn1, hn2⟩)
          obtain ⟨an, cn_, hv2⟩ := owns_form (hET.own 2 (by decide))
          rw [hn2] at hv2
          have HV2 := Lib.hid hv2
          have c0 : wq.cell? ⟨w.heap.size + 1 + 1, 0, none⟩ = some (.slice (some ⟨wb, 0, none⟩) (nE g) cw) := by rw [← hv0]; exact hET.at.1.1
          have c1 : wq.cell? ⟨w.heap.size + 1 + 1, 1, none⟩ = some (.slice (some ⟨pb, 0, none⟩) (nE g) cp) := by rw [← hv1]; exact hET.at.1.2.1
          have c2 : wq.cell? ⟨w.heap.size + 1 + 1, 2, none⟩ = some (.slice an x cn_) := by rw [← hv2]; exact hET.at.1.2.2
          have g0 := hET.at.2.2.1
          have g1 := hET.at.2.2.2
          have r0 : wq.cell? ⟨w.heap.size + 1, 0, none⟩ = some (.slice none 0 0) := hET.res.cell 0
          have r1 : wq.cell? ⟨w.heap.size + 1, 1, none⟩ = some (.slice none 0 0) := hET.res.cell 1
          have r2 : wq.cell? ⟨w.heap.size + 1, 2, none⟩ = some (.slice none 0 0) := hET.res.cell 2
          have fr0 : wq.frozen? ⟨w.heap.size + 1, 0, none⟩ = false := hET.res.fr 0
          have fr1 : wq.frozen? ⟨w.heap.size + 1, 1, none⟩ = false := hET.res.fr 1
          have fr2 : wq.frozen? ⟨w.heap.size + 1, 2, none⟩ = false := hET.res.fr 2
          clear hET hv0 hv1 hv2 hn0 hn1 hn2
          by_cases hxl : x < nE g
          · clear r0 r1 r2 fr0 fr1 fr2
            go_wp2_with fail
            refine (HMi.out _).mono ?_
            rintro e w2 ⟨rfl, hb2⟩
            have HE2 := Lib.hid (HE.out.below hb2)
            have HO : Hid (∀ c, c < 3 → ∀ i, i < ns c → ∀ b, ((xs c).getD i undef).ownBlock = some b → b < w2.heap.size) := Lib.hid (fun c hc i hi b hb => ((HE2.out.el c hc i hi).lt b hb).2)
            clear hb2 c0 c1 c2 g0 g1 HE
            go_wp2_with fail
            go_loopw [88, 9] (fun ss v9 wi => ∃ s : Nat, s ≤ kn ∧ ss = .int .i64 s ∧ ET w wi g vs ns xs ∧ wi.ownsRow w2.heap.size 3 1 v9 s (ints (nats ((List.range s).map (rt g x)))) ∧ w2.heap.size ≤ wi.heap.size) (fun ss _ _ => kn - (intOf ss).toNat)
            case atStart => exact ⟨0, Nat.zero_le _, rfl, HE2.out, World.ownsRow_nil _ _ _ _, Nat.le_refl _⟩
            case round =>
              rename World => wi
              obtain ⟨s, hs, rfl, hET, hrow, hw2i⟩ := hrel
              obtain ⟨a9, c9, rfl⟩ := owns_form hrow
              have HE := Lib.hid hET
              have HR := Lib.hid hrow
              have hw2 : w.heap.size + 3 ≤ w2.heap.size := by have := HE2.out.box.lt; omega
              clear hET hrow
              by_cases hsl : s < kn
              · obtain ⟨pa, pc, hpx⟩ := owns_form (HE.out.el 1 (by decide) x (by rw [HN.out.2.1]; exact hxl))
                have HPX := Lib.hid hpx
                have hj : Hid (rt g 0 s < nE g) := Lib.hid (tb hg hE.1 (show s < kM g by rw [HK.out]; exact hsl)).2.1
                have hxr : Hid (rt g x s < nE g) := Lib.hid (tb hg hxl (show s < kM g by rw [HK.out]; exact hsl)).2.1
                have HPx : Hid (pt g (rt g x s) = aft (pt g x) (pt g (rt g 0 s))) := Lib.hid ((px hg hxl).2.1 s (by rw [HK.out]; exact hsl))
                have HSn : Hid (ints (nats ((List.range (s + 1)).map (rt g x))) = ints (nats ((List.range s).map (rt g x))) ++ [.int .i64 (rt g x s : Nat)]) := Lib.hid (by rw [range_snoc]; simp [ints, nats])
                clear hpx
                go_wp2_with fail
                refine region_last 13 (fun W => ET w W g vs ns xs ∧ W.ownsRow w2.heap.size 3 1 (.slice a9 s c9) s (ints (nats ((List.range s).map (rt g x))))) (by kernel_rfl) ⟨HE.out.drew, owns_below HR.out (below_drew (Below.refl _ _)) (Nat.le_refl _)⟩ (fun hS0 => ?_)
                obtain ⟨wz, hwz⟩ : ∃ wz, wz = wi.drew := ⟨_, rfl⟩
                have hwzs : wz.heap.size = wi.heap.size := by rw [hwz]; rfl
                rw [← hwz] at hS0 ⊢
                clear hwz
                refine Last.take (i := 0) (v := .slice a9 s c9) rfl (by kernel_rfl) (by kernel_rfl) (by kernel_rfl) (by kernel_rfl) (by kernel_rfl) (by kernel_rfl) (by kernel_rfl) (fun _ _ _ h => h) (Or.inl ⟨by rfl, fun w' hSw => by go_simp⟩) hS0 ?_
                simp only [Act.put]
                refine Last.take (i := 1) (v := .agg #[.slice (some ⟨wb, 0, none⟩) (nE g) cw, .slice (some ⟨pb, 0, none⟩) (nE g) cp, .slice an x cn_]) rfl (by kernel_rfl) (by kernel_rfl) (by kernel_rfl) (by kernel_rfl) (by kernel_rfl) (by kernel_rfl) (by kernel_rfl) (fun _ _ _ h => h) (Or.inl ⟨by rfl, (fun w' hSw => by have h0 := hSw.1.at.1.1; have h1 := hSw.1.at.1.2.1; have h2 := hSw.1.at.1.2.2; rw [HV0.out] at h0; rw [HV1.out] at h1; rw [HV2.out] at h2; go_simp)⟩) hS0 ?_
                simp only [Act.put]
                refine Last.take (i := 2) (v := .pointer (some ⟨w.heap.size + 1 + 1, 1, none⟩)) rfl (by kernel_rfl) (by kernel_rfl) (by kernel_rfl) (by kernel_rfl) (by kernel_rfl) (by kernel_rfl) (by kernel_rfl) (fun _ _ _ h => h) (Or.inl ⟨by rfl, fun w' hSw => by go_simp⟩) hS0 ?_
                simp only [Act.put]
                refine Last.take (i := 3) (v := .slice (some ⟨pb, 0, none⟩) (nE g) cp) rfl (by kernel_rfl) (by kernel_rfl) (by kernel_rfl) (by kernel_rfl) (by kernel_rfl) (by kernel_rfl) (by kernel_rfl) (fun _ _ _ h => h) (Or.inl ⟨by rfl, (fun w' hSw => by have h1 := hSw.1.at.1.2.1; rw [HV1.out] at h1; go_simp)⟩) hS0 ?_
                simp only [Act.put]
                refine Last.take (i := 4) (v := .int .i64 x) rfl (by kernel_rfl) (by kernel_rfl) (by kernel_rfl) (by kernel_rfl) (by kernel_rfl) (by kernel_rfl) (by kernel_rfl) (fun _ _ _ h => h) (Or.inl ⟨by rfl, fun w' hSw => by go_simp⟩) hS0 ?_
                simp only [Act.put]
                refine Last.take (i := 5) (v := .pointer (some ⟨pb, x, none⟩)) rfl (by kernel_rfl) (by kernel_rfl) (by kernel_rfl) (by kernel_rfl) (by kernel_rfl) (by kernel_rfl) (by kernel_rfl) (fun _ _ _ h => h) (Or.inl ⟨by rfl, fun w' hSw => by go_simp⟩) hS0 ?_
                simp only [Act.put]
                refine Last.take (i := 6) (v := .slice pa (colD g 1 x).length pc) rfl (by kernel_rfl) (by kernel_rfl) (by kernel_rfl) (by kernel_rfl) (by kernel_rfl) (by kernel_rfl) (by kernel_rfl) (fun _ _ _ h => h) (Or.inl ⟨by rfl, (fun w' hSw => by have h1 := cell_load hSw.1 (c := 1) (by decide) HV1.out hxl HPX.out; go_simp)⟩) hS0 ?_
                simp only [Act.put]
                refine Last.take (i := 7) (v := gV (kd g) (nm g)) rfl (by kernel_rfl) (by kernel_rfl) (by kernel_rfl) (by kernel_rfl) (by kernel_rfl) (by kernel_rfl) (by kernel_rfl) (fun _ _ _ h => h) (Or.inl ⟨by rfl, (fun w' hSw => by have g0 := hSw.1.at.2.2.1; have g1 := hSw.1.at.2.2.2; go_simp)⟩) hS0 ?_
                simp only [Act.put]
                refine Last.take (i := 8) (v := .int .i64 s) rfl (by kernel_rfl) (by kernel_rfl) (by kernel_rfl) (by kernel_rfl) (by kernel_rfl) (by kernel_rfl) (by kernel_rfl) (fun _ _ _ h => h) (Or.inl ⟨by rfl, fun w' hSw => by go_simp⟩) hS0 ?_
                simp only [Act.put]
                refine Last.one (i := 9) (by kernel_rfl) rfl (fun K hK => ?_)
                go_simp
                refine (HMv.out s hsl _).mono ?_
                rintro e wa ⟨ua, rfl, hu, hb⟩
                have hSa : (fun W => ET w W g vs ns xs ∧ W.ownsRow w2.heap.size 3 1 (.slice a9 s c9) s (ints (nats ((List.range s).map (rt g x))))) wa := ⟨hS0.1.below hb, owns_below hS0.2 hb (Nat.le_refl _)⟩
                obtain ⟨aa, ca, rfl⟩ := owns_form hu
                refine hK.out _ _ hSa fun _ => ?_
                clear hK
                refine Last.one (i := 10) (by kernel_rfl) rfl (fun K hK => ?_)
                go_simp
                have hpx : Bg (w.heap.size + 3) wa (.slice pa (colD g 1 x).length pc) (pt g x) := by
                  have h1 := hSa.1.el 1 (by decide) x (by rw [HN.out.2.1]; exact hxl)
                  rw [HPX.out] at h1
                  exact h1
                refine (HAf.out _ _ (pt g x) (pt g (rt g 0 s)) wa (bg_nats hpx hg hxl) (bg_nats hu hg hj.out) (by rw [pt_len]; exact (px hg hj.out).1) (pt_bd hg hxl) (by rw [pt_len]; omega)).mono ?_
                rintro e wc ⟨uc, rfl, hu2, hb2⟩
                have hSc : (fun W => ET w W g vs ns xs ∧ W.ownsRow w2.heap.size 3 1 (.slice a9 s c9) s (ints (nats ((List.range s).map (rt g x))))) wc := ⟨hSa.1.below hb2, owns_below hSa.2 hb2 (Nat.le_refl _)⟩
                rw [← HPx.out] at hu2
                obtain ⟨ac, cc, rfl⟩ := owns_form hu2
                refine hK.out _ _ hSc fun _ => ?_
                clear hK
                refine Last.one (i := 11) (by kernel_rfl) rfl (fun K hK => ?_)
                go_simp
                have hfi := find_any (some ⟨wb, 0, none⟩) an (nE g) cw x cn_ pb (nE g) cp (rt g x s) (pt g) _ (pt g (rt g x s)) wc (by have h1 := (hSc.1.read hg (c := 1) (by decide) (by rw [HN.out.2.1]; exact Nat.le_refl _) HV1.out).2.2; rwa [colP] at h1) (bg_nats hu2 hg hxr.out) (by omega) (Nat.le_of_lt hxr.out)
                  (fun i hi => pt_ne hg (by have := hxr.out; omega) hxr.out (by omega)) (fun _ => rfl)
                rw [if_pos hxr.out] at hfi
                refine hfi.mono ?_
                rintro e wf ⟨rfl, hbf⟩
                have hSf : (fun W => ET w W g vs ns xs ∧ W.ownsRow w2.heap.size 3 1 (.slice a9 s c9) s (ints (nats ((List.range s).map (rt g x))))) wf := ⟨hSc.1.below hbf, owns_below hSc.2 hbf (Nat.le_refl _)⟩
                refine hK.out _ _ hSf fun _ => ?_
                clear hK
                refine Last.one (i := 12) (by kernel_rfl) rfl (fun K hK => ?_)
                go_simp
                have hSg : (fun W => ET w W g vs ns xs ∧ W.ownsRow w2.heap.size 3 1 (.slice a9 s c9) s (ints (nats ((List.range s).map (rt g x))))) (wf.alloc (.cells #[.int .i64 (rt g x s : Nat)] 3)) := ⟨hSf.1.alloc _, hSf.2.alloc _⟩
                refine hK.out _ _ hSg fun _ => ?_
                clear hK
                refine Last.late (i := 13) (by kernel_rfl) (by rfl) rfl (fun K hK => ?_)
                rw [if_pos (by rfl)]
                refine wp_append_own_at _ _ 24 rfl w2.heap.size 3 i0 (.int .i64 0) 1 8 Try.underlying24 hi0 hz0 hz1 hz2 rfl (by decide) _ _ _ rfl hSg.2 ⟨wf.heap.size, 0, none⟩ 1 1 [.int .i64 (rt g x s : Nat)] rfl rfl (newOne _ _ _) (oneInt _) (by unfold maxLen; omega) (by omega) (by have := hb.size; have := hb2.size; have := hbf.size; simp; omega) ?_
                intro v9 w9 hown9 hg9 hloc9
                have hE9 := hSg.1.grown hSg.2 rfl hw2 hg9 (fun c hc i hi => by
                  rcases hq : ((xs c).getD i undef).ownBlock with _ | b
                  · exact .inl rfl
                  · exact .inr fun e => by
                      have h1 := HO.out c hc i hi b hq
                      have h2 := (hSg.2.lt b e.symm).1
                      omega)
                have hsz9 : w2.heap.size ≤ w9.heap.size := by have := hb.size; have := hb2.size; have := hbf.size; have := hg9.size; simp at this; omega
                rw [← HSn.out] at hown9
                obtain ⟨a9', c9', rfl⟩ := owns_form hown9
                refine hK.out _ _ ?_
                clear hK
                refine Last.late (i := 14) (by kernel_rfl) (by rfl) rfl (fun K hK => ?_)
                go_simp
                refine hK.out _ _ ?_
                clear hK
                refine Last.done (by kernel_rfl) ?_ _
                try simp only [Act.put]
                have HR9 := Lib.hid hown9
                have HE9 := Lib.hid hE9
                clear hS0 hSa hpx hSc hSf hSg hfi hown9 hE9 hg9 hloc9 hu hu2 HE2 HE HR HPX hj hxr HPx HSn hb hb2 hbf
                go_wp2_with fail
                go_roundw
                case rel => exact ⟨s + 1, by omega, by go_num, HE9.out, HR9.out, hsz9⟩
                case measure => simp [intOf]; omega
              · have hse : kn = s := by omega
                subst hse
                have HU : Hid (Bg (w.heap.size + 3) wi (.slice a9 kn c9) (colD g 2 x)) := Lib.hid (by
                  rw [colR]
                  unfold Bg rw_
                  rw [HK.out]
                  have h1 : ((List.range kn).map (rt g x)).length = kn := by simp
                  rw [h1]
                  exact owns_mono HR.out hw2)
                have c2 : wi.cell? ⟨w.heap.size + 1 + 1, 2, none⟩ = some (.slice an x cn_) := by rw [← HV2.out]; exact HE.out.at.1.2.2
                have hw2' : w.heap.size + 3 ≤ wi.heap.size := by have := HE.out.box.lt; omega
                clear HE2 HR HO hs hsl
                go_wp2_with (first | (at_builtin; refine wpList_append_own_at _ rfl _ _ 33 rfl (w.heap.size + 3) 24 i24 (.slice none 0 0) 1 24 Try.underlying33 hi24 hy0 hy1 hy2 rfl (by decide) _ _ _ rfl ((HE.out.alloc _).ow (c := 2) (by decide) HV2.out HN.out.2.2) ⟨wi.heap.size, 0, none⟩ 1 1 [.slice a9 kn c9] rfl rfl (newOne _ _ _) (by intro u hu; simp at hu; subst hu; rfl) (by unfold maxLen; omega) (by omega) (by simp; omega) ?_; intro v9 w9 hown9 hg9 _ hloc9; have HE10 := Lib.hid ((HE.out.alloc (.cells #[.slice a9 kn c9] 24)).grow (c := 2) (by decide) HV2.out HN.out.2.2 (HU.out.alloc _) hg9 hown9 hloc9); have hcf := (HE.out.alloc (.cells #[.slice a9 kn c9] 24)).boxg (c := 2) (by decide) (by rw [HV2.out]; exact hg9); have cT9 := hcf.1.2.2; have fT9 := hcf.2.2.2; clear hcf; obtain ⟨a9, c9, rfl⟩ := owns_form hown9; clear hown9 hg9 hloc9 c2) | fail)
                go_roundw
                case rel => exact ⟨x + 1, _, _, _, by omega, by go_num, HE10.out, HV0.out, HV1.out, HN.out.1, HN.out.2.1, rfl⟩
                case measure => simp [intOf]; omega
          · obtain rfl : x = nE g := by omega
            have HF := Lib.hid (HE.out.final hg HN.out.1 HN.out.2.1 HN.out.2.2)
            rw [HV0.out, HV1.out, HV2.out] at HF
            have HB39 : Hid (Blk 39 (((wq.setCell ⟨w.heap.size + 1, 0, none⟩ (.slice (some ⟨wb, 0, none⟩) (nE g) cw)).setCell ⟨w.heap.size + 1, 1, none⟩ (.slice (some ⟨pb, 0, none⟩) (nE g) cp)).setCell ⟨w.heap.size + 1, 2, none⟩ (.slice an (nE g) cn_)) (w.heap.size + 1)
              #[.slice (some ⟨wb, 0, none⟩) (nE g) cw, .slice (some ⟨pb, 0, none⟩) (nE g) cp, .slice an (nE g) cn_]) := Lib.hid (((HE.out.res.set 0 _).set 1 _).set 2 _)
            clear HE HN HV0 HV1 HV2 g0 g1
            go_wp2_with fail
            exact bodyPost_ret (results_cell_row rfl _ _ (w.heap.size + 1) 39 _ (0, 0) _ rfl HB39.out Try.underlying39 rfl i39) rfl ⟨_, rfl, HF.out _ _ _⟩
end Go.Proofs.Ytlnbodpdgebflaa
