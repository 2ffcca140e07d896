/- MirrorAll -/
import Derived.Test.YtlnbodpdgebflaaQt
import Derived.Test.YtlnbodpdgebflaaQa
import Derived.Test.YtlnbodpdgebflaaQb
namespace Go.Proofs.Ytlnbodpdgebflaa
open Go.RowKit

set_option maxRecDepth 100000 in
set_option maxHeartbeats 2000000 in
theorem all_bad (k n : Int) (w : World) (hk : grpB k n = false) : Calls Try.prog 5 #[gV k n] w fun e w' => e = .returned (.bool true) ∧ Below w.heap.size w w' := by
  have HOf := Lib.hid (fun W => Of_any k n W)
  have HVa := Lib.hid (fun W => Valid_any k n W)
  rw [hk] at HVa
  have HA := Lib.hid (fun W => All_bad k n W (.inl hk))
  have HC := Lib.hid (fun W => Counts_bad k n W (.inl hk))
  have HL := Lib.hid (fun W => Longest_bad k n W (.inl hk))
  have HAw := Lib.hid (fun W => awake_any W)
  clear hk
  go_enter Try.func5, Try.ntmps5
  go_wp2_with fail
  refine (HOf.out _).mono ?_
  rintro e w1 ⟨rfl, hb⟩
  have HG : Hid (Blk 23 w1 w.heap.size #[.int .u8 k, .int .i64 n]) := Lib.hid ((Blk.new _ _ _).below hb)
  have HB : Hid (Below w.heap.size w w1) := Lib.hid (bl1 hb)
  clear hb
  have g0 := HG.out.at0.1
  have g1 := HG.out.at0.2
  go_wp2_with fail
  clear g0 g1
  refine (HA.out _).mono ?_
  rintro e w2 ⟨rfl, hb⟩
  have HBn : Hid (Below w1.heap.size w1 w2) := Lib.hid (hb)
  have HG_n := Lib.hid (HG.out.below HBn.out)
  have HB_n := Lib.hid (HB.out.trans (HBn.out.mono HB.out.size))
  clear HG HB
  have HG := HG_n
  have HB := HB_n
  clear HG_n HB_n HBn hb
  have g0 := HG.out.at0.1
  have g1 := HG.out.at0.2
  go_wp2_with fail
  clear g0 g1
  refine (HOf.out _).mono ?_
  rintro e w3 ⟨rfl, hb⟩
  have HBn : Hid (Below w2.heap.size w2 w3) := Lib.hid (hb)
  have HG_n := Lib.hid (HG.out.below HBn.out)
  have HB_n := Lib.hid (HB.out.trans (HBn.out.mono HB.out.size))
  clear HG HB
  have HG := HG_n
  have HB := HB_n
  clear HG_n HB_n HBn hb
  have g0 := HG.out.at0.1
  have g1 := HG.out.at0.2
  go_wp2_with fail
  clear g0 g1
  refine (HC.out _).mono ?_
  rintro e w4 ⟨rfl, hb⟩
  have HBn : Hid (Below w3.heap.size w3 w4) := Lib.hid (hb)
  have HG_n := Lib.hid (HG.out.below HBn.out)
  have HB_n := Lib.hid (HB.out.trans (HBn.out.mono HB.out.size))
  clear HG HB
  have HG := HG_n
  have HB := HB_n
  clear HG_n HB_n HBn hb
  have g0 := HG.out.at0.1
  have g1 := HG.out.at0.2
  go_wp2_with fail
  clear g0 g1
  refine (HOf.out _).mono ?_
  rintro e w5 ⟨rfl, hb⟩
  have HBn : Hid (Below w4.heap.size w4 w5) := Lib.hid (hb)
  have HG_n := Lib.hid (HG.out.below HBn.out)
  have HB_n := Lib.hid (HB.out.trans (HBn.out.mono HB.out.size))
  clear HG HB
  have HG := HG_n
  have HB := HB_n
  clear HG_n HB_n HBn hb
  have g0 := HG.out.at0.1
  have g1 := HG.out.at0.2
  go_wp2_with fail
  clear g0 g1
  refine (HL.out _).mono ?_
  rintro e w6 ⟨rfl, hb⟩
  have HBn : Hid (Below w5.heap.size w5 w6) := Lib.hid (hb)
  have HG_n := Lib.hid (HG.out.below HBn.out)
  have HB_n := Lib.hid (HB.out.trans (HBn.out.mono HB.out.size))
  clear HG HB
  have HG := HG_n
  have HB := HB_n
  clear HG_n HB_n HBn hb
  have g0 := HG.out.at0.1
  have g1 := HG.out.at0.2
  go_wp2_with fail
  clear g0 g1
  refine (HVa.out _).mono ?_
  rintro e w7 ⟨rfl, hb⟩
  have HBn : Hid (Below w6.heap.size w6 w7) := Lib.hid (hb)
  have HG_n := Lib.hid (HG.out.below HBn.out)
  have HB_n := Lib.hid (HB.out.trans (HBn.out.mono HB.out.size))
  clear HG HB
  have HG := HG_n
  have HB := HB_n
  clear HG_n HB_n HBn hb
  have g0 := HG.out.at0.1
  have g1 := HG.out.at0.2
  go_wp2_with fail
  clear g0 g1
  refine (HAw.out _).mono ?_
  rintro e w8 ⟨rfl, hb⟩
  have HBn : Hid (Below w7.heap.size w7 w8) := Lib.hid (hb)
  have HG_n := Lib.hid (HG.out.below HBn.out)
  have HB_n := Lib.hid (HB.out.trans (HBn.out.mono HB.out.size))
  clear HG HB
  have HG := HG_n
  have HB := HB_n
  clear HG_n HB_n HBn hb
  have g0 := HG.out.at0.1
  have g1 := HG.out.at0.2
  go_wp2_with fail
  go_ret
  exact ⟨rfl, HB.out⟩

set_option maxRecDepth 100000 in
set_option maxHeartbeats 4000000 in
theorem all_good (g : Nat) (hg : g < 17) (w : World) : Calls Try.prog 5 #[gV (kd g) (nm g)] w fun e w' => e = .returned (.bool true) ∧ Below w.heap.size w w' := by
  have hE := tE hg
  have HOf := Lib.hid (fun W => Of_any (kd g) (nm g) W)
  have HVa := Lib.hid (fun W => Valid_any (kd g) (nm g) W)
  rw [grp_kn hg] at HVa
  have HA := Lib.hid (fun W => All_ok g hg W)
  have HC := Lib.hid (fun W => Counts_ok g hg W)
  have HL := Lib.hid (fun W => Longest_ok g hg W)
  have HAw := Lib.hid (fun W => awake_any W)
  have HEl := Lib.hid (fun W => Elements_any g hg W)
  have HSa := Lib.hid (fun b b' c c' W h h' => sameP_any b b' (nE g) c c' (by omega) (wd g) W h h')
  have HRc := Lib.hid (fun b0 c0 b1 c1 b2 c2 W h => RCounts_any g b0 c0 b1 c1 b2 c2 hg W h)
  have HEq : Hid (∀ v v' l W, Ints W v l → Ints W v' l → Calls Try.prog 28 #[v, v'] W fun e w' => e = .returned (.bool true) ∧ Below W.heap.size W w') := Lib.hid (fun v v' l W h h' => by
    have h1 := equal_any v v' l l W h h'
    rwa [eqB_refl] at h1)
  have ht1 : ((nE g : Int) - 1).toNat = nE g - 1 := by omega
  have ht2 : (nE g : Int) - 1 = ((nE g - 1 : Nat) : Int) := by omega
  unfold rV at HRc
  go_enter Try.func5, Try.ntmps5
  go_wp2_with fail
  refine (HOf.out _).mono ?_
  rintro e w1 ⟨rfl, hb⟩
  have HG : Hid (Blk 23 w1 w.heap.size #[.int .u8 (kd g), .int .i64 (nm g)]) := Lib.hid ((Blk.new _ _ _).below hb)
  have HB : Hid (Below w.heap.size w w1) := Lib.hid (bl1 hb)
  clear hb
  have g0 := HG.out.at0.1
  have g1 := HG.out.at0.2
  go_wp2_with fail
  clear g0 g1
  refine (HA.out _).mono ?_
  rintro e w2 ⟨ab, ac, rfl, hap, _, hb⟩
  have HBn : Hid (Below w1.heap.size w1 w2) := Lib.hid (hb)
  have HG_n := Lib.hid (HG.out.below HBn.out)
  have HB_n := Lib.hid (HB.out.trans (HBn.out.mono HB.out.size))
  clear HG HB
  have HG := HG_n
  have HB := HB_n
  clear HG_n HB_n HBn hb
  have HAP := Lib.hid hap
  clear hap
  have g0 := HG.out.at0.1
  have g1 := HG.out.at0.2
  go_wp2_with fail
  clear g0 g1
  refine (HOf.out _).mono ?_
  rintro e w3 ⟨rfl, hb⟩
  have HBn : Hid (Below w2.heap.size w2 w3) := Lib.hid (hb)
  have HG_n := Lib.hid (HG.out.below HBn.out)
  have HAP_n := Lib.hid (HAP.out.below HBn.out (Nat.le_refl _))
  have HB_n := Lib.hid (HB.out.trans (HBn.out.mono HB.out.size))
  clear HG HAP HB
  have HG := HG_n
  have HAP := HAP_n
  have HB := HB_n
  clear HG_n HAP_n HB_n HBn hb
  have g0 := HG.out.at0.1
  have g1 := HG.out.at0.2
  go_wp2_with fail
  clear g0 g1
  refine (HC.out _).mono ?_
  rintro e w4 ⟨ca, cc, rfl, hcn, hb⟩
  have HBn : Hid (Below w3.heap.size w3 w4) := Lib.hid (hb)
  have HG_n := Lib.hid (HG.out.below HBn.out)
  have HAP_n := Lib.hid (HAP.out.below HBn.out (Nat.le_refl _))
  have HB_n := Lib.hid (HB.out.trans (HBn.out.mono HB.out.size))
  clear HG HAP HB
  have HG := HG_n
  have HAP := HAP_n
  have HB := HB_n
  clear HG_n HAP_n HB_n HBn hb
  have HCN := Lib.hid hcn
  clear hcn
  have g0 := HG.out.at0.1
  have g1 := HG.out.at0.2
  go_wp2_with fail
  clear g0 g1
  refine (HOf.out _).mono ?_
  rintro e w5 ⟨rfl, hb⟩
  have HBn : Hid (Below w4.heap.size w4 w5) := Lib.hid (hb)
  have HG_n := Lib.hid (HG.out.below HBn.out)
  have HAP_n := Lib.hid (HAP.out.below HBn.out (Nat.le_refl _))
  have HCN_n := Lib.hid (HCN.out.below HBn.out (Nat.le_refl _))
  have HB_n := Lib.hid (HB.out.trans (HBn.out.mono HB.out.size))
  clear HG HAP HCN HB
  have HG := HG_n
  have HAP := HAP_n
  have HCN := HCN_n
  have HB := HB_n
  clear HG_n HAP_n HCN_n HB_n HBn hb
  have g0 := HG.out.at0.1
  have g1 := HG.out.at0.2
  go_wp2_with fail
  clear g0 g1
  refine (HL.out _).mono ?_
  rintro e w6 ⟨la, lc, rfl, hln, hb⟩
  have HBn : Hid (Below w5.heap.size w5 w6) := Lib.hid (hb)
  have HG_n := Lib.hid (HG.out.below HBn.out)
  have HAP_n := Lib.hid (HAP.out.below HBn.out (Nat.le_refl _))
  have HCN_n := Lib.hid (HCN.out.below HBn.out (Nat.le_refl _))
  have HB_n := Lib.hid (HB.out.trans (HBn.out.mono HB.out.size))
  clear HG HAP HCN HB
  have HG := HG_n
  have HAP := HAP_n
  have HCN := HCN_n
  have HB := HB_n
  clear HG_n HAP_n HCN_n HB_n HBn hb
  have HLN := Lib.hid hln
  clear hln
  have g0 := HG.out.at0.1
  have g1 := HG.out.at0.2
  go_wp2_with fail
  clear g0 g1
  refine (HVa.out _).mono ?_
  rintro e w7 ⟨rfl, hb⟩
  have HBn : Hid (Below w6.heap.size w6 w7) := Lib.hid (hb)
  have HG_n := Lib.hid (HG.out.below HBn.out)
  have HAP_n := Lib.hid (HAP.out.below HBn.out (Nat.le_refl _))
  have HCN_n := Lib.hid (HCN.out.below HBn.out (Nat.le_refl _))
  have HLN_n := Lib.hid (HLN.out.below HBn.out (Nat.le_refl _))
  have HB_n := Lib.hid (HB.out.trans (HBn.out.mono HB.out.size))
  clear HG HAP HCN HLN HB
  have HG := HG_n
  have HAP := HAP_n
  have HCN := HCN_n
  have HLN := HLN_n
  have HB := HB_n
  clear HG_n HAP_n HCN_n HLN_n HB_n HBn hb
  have g0 := HG.out.at0.1
  have g1 := HG.out.at0.2
  go_wp2_with fail
  clear g0 g1
  refine (HEl.out _).mono ?_
  rintro e w8 ⟨tv, rfl, hrt, hb⟩
  have HBn : Hid (Below w7.heap.size w7 w8) := Lib.hid (hb)
  have HG_n := Lib.hid (HG.out.below HBn.out)
  have HAP_n := Lib.hid (HAP.out.below HBn.out (Nat.le_refl _))
  have HCN_n := Lib.hid (HCN.out.below HBn.out (Nat.le_refl _))
  have HLN_n := Lib.hid (HLN.out.below HBn.out (Nat.le_refl _))
  have HB_n := Lib.hid (HB.out.trans (HBn.out.mono HB.out.size))
  clear HG HAP HCN HLN HB
  have HG := HG_n
  have HAP := HAP_n
  have HCN := HCN_n
  have HLN := HLN_n
  have HB := HB_n
  clear HG_n HAP_n HCN_n HLN_n HB_n HBn hb
  have HRT := Lib.hid hrt
  clear hrt
  have g0 := HG.out.at0.1
  have g1 := HG.out.at0.2
  obtain ⟨b0, c0, b1, c1, b2, c2, rfl, hpp, hcc⟩ := HRT.out
  have HP : Hid (RP w8 g b0 b1 b2) := Lib.hid ⟨hpp.1, hpp.2.1, hpp.2.2⟩
  have HRB := Lib.hid (HP.out.box c0 c1 c2)
  have hbz : Below w8.heap.size w8 (w8.alloc (.cells #[.slice (some ⟨b0, 0, none⟩) (nE g) c0, .slice (some ⟨b1, 0, none⟩) (nE g) c1, .slice (some ⟨b2, 0, none⟩) (nE g) c2] 39)) := a1 _ _
  have HAPz := Lib.hid (HAP.out.below hbz (Nat.le_refl _))
  have HCNz := Lib.hid (HCN.out.below hbz (Nat.le_refl _))
  have HLNz := Lib.hid (HLN.out.below hbz (Nat.le_refl _))
  have HBz := Lib.hid (HB.out.trans (hbz.mono HB.out.size))
  clear hpp hcc HRT HP hbz g0 g1 HAP HCN HLN HB HG
  have HAP := HAPz
  have HCN := HCNz
  have HLN := HLNz
  have HB := HBz
  clear HAPz HCNz HLNz HBz
  go_wp2_with fail
  generalize w8.alloc (.cells #[.slice (some ⟨b0, 0, none⟩) (nE g) c0, .slice (some ⟨b1, 0, none⟩) (nE g) c1, .slice (some ⟨b2, 0, none⟩) (nE g) c2] 39) = w9 at *
  refine (HSa.out ab b0 ac c0 _ HAP.out HRB.out.p0).mono ?_
  rintro e w10 ⟨rfl, hb⟩
  have HBn : Hid (Below w9.heap.size w9 w10) := Lib.hid (hb)
  have HAP_n := Lib.hid (HAP.out.below HBn.out (Nat.le_refl _))
  have HCN_n := Lib.hid (HCN.out.below HBn.out (Nat.le_refl _))
  have HLN_n := Lib.hid (HLN.out.below HBn.out (Nat.le_refl _))
  have HRB_n := Lib.hid (HRB.out.below HBn.out)
  have HB_n := Lib.hid (HB.out.trans (HBn.out.mono HB.out.size))
  clear HAP HCN HLN HRB HB
  have HAP := HAP_n
  have HCN := HCN_n
  have HLN := HLN_n
  have HRB := HRB_n
  have HB := HB_n
  clear HAP_n HCN_n HLN_n HRB_n HB_n HBn hb
  have t0 := HRB.out.at.1
  have t1 := HRB.out.at.2.1
  have t2 := HRB.out.at.2.2
  go_wp2_with fail
  clear t0 t1 t2
  clear HAP
  refine (HRc.out b0 c0 b1 c1 b2 c2 _ HRB.out.rp).mono ?_
  rintro e w11 ⟨da, dc, rfl, hdc, hb⟩
  have HBn : Hid (Below w10.heap.size w10 w11) := Lib.hid (hb)
  have HCN_n := Lib.hid (HCN.out.below HBn.out (Nat.le_refl _))
  have HLN_n := Lib.hid (HLN.out.below HBn.out (Nat.le_refl _))
  have HRB_n := Lib.hid (HRB.out.below HBn.out)
  have HB_n := Lib.hid (HB.out.trans (HBn.out.mono HB.out.size))
  clear HCN HLN HRB HB
  have HCN := HCN_n
  have HLN := HLN_n
  have HRB := HRB_n
  have HB := HB_n
  clear HCN_n HLN_n HRB_n HB_n HBn hb
  have HDC := Lib.hid hdc
  clear hdc
  have t0 := HRB.out.at.1
  have t1 := HRB.out.at.2.1
  have t2 := HRB.out.at.2.2
  go_wp2_with fail
  clear t0 t1 t2
  refine (HEq.out _ _ _ _ HCN.out HDC.out).mono ?_
  rintro e w12 ⟨rfl, hb⟩
  have HBn : Hid (Below w11.heap.size w11 w12) := Lib.hid (hb)
  have HCN_n := Lib.hid (HCN.out.below HBn.out (Nat.le_refl _))
  have HLN_n := Lib.hid (HLN.out.below HBn.out (Nat.le_refl _))
  have HRB_n := Lib.hid (HRB.out.below HBn.out)
  have HDC_n := Lib.hid (HDC.out.below HBn.out (Nat.le_refl _))
  have HB_n := Lib.hid (HB.out.trans (HBn.out.mono HB.out.size))
  clear HCN HLN HRB HDC HB
  have HCN := HCN_n
  have HLN := HLN_n
  have HRB := HRB_n
  have HDC := HDC_n
  have HB := HB_n
  clear HCN_n HLN_n HRB_n HDC_n HB_n HBn hb
  have t0 := HRB.out.at.1
  have t1 := HRB.out.at.2.1
  have t2 := HRB.out.at.2.2
  obtain ⟨ya, yc, hy1, hy2⟩ := HRB.out.p0 (nE g - 1) (by omega)
  have hy1' : _ = some (Value.slice ya (ln g (nE g - 1)) yc) := hy1
  have HY := Lib.hid hy2
  clear hy1 hy2
  go_wp2_with fail
  clear t0 t1 t2
  clear hy1'
  clear HCN HDC
  refine (HEq.out _ _ _ _ HLN.out HY.out).mono ?_
  rintro e w13 ⟨rfl, hb⟩
  have HBn : Hid (Below w12.heap.size w12 w13) := Lib.hid (hb)
  have HLN_n := Lib.hid (HLN.out.below HBn.out (Nat.le_refl _))
  have HRB_n := Lib.hid (HRB.out.below HBn.out)
  have HB_n := Lib.hid (HB.out.trans (HBn.out.mono HB.out.size))
  clear HLN HRB HB
  have HLN := HLN_n
  have HRB := HRB_n
  have HB := HB_n
  clear HLN_n HRB_n HB_n HBn hb
  have t0 := HRB.out.at.1
  have t1 := HRB.out.at.2.1
  have t2 := HRB.out.at.2.2
  go_wp2_with fail
  clear t0 t1 t2
  clear HY
  refine (HAw.out _).mono ?_
  rintro e w14 ⟨rfl, hb⟩
  have HBn : Hid (Below w13.heap.size w13 w14) := Lib.hid (hb)
  have HLN_n := Lib.hid (HLN.out.below HBn.out (Nat.le_refl _))
  have HRB_n := Lib.hid (HRB.out.below HBn.out)
  have HB_n := Lib.hid (HB.out.trans (HBn.out.mono HB.out.size))
  clear HLN HRB HB
  have HLN := HLN_n
  have HRB := HRB_n
  have HB := HB_n
  clear HLN_n HRB_n HB_n HBn hb
  have t0 := HRB.out.at.1
  have t1 := HRB.out.at.2.1
  have t2 := HRB.out.at.2.2
  go_wp2_with fail
  clear t0 t1 t2
  go_ret
  exact ⟨rfl, HB.out⟩

/-- THE LAW MirrorAll. -/
theorem mirrorAll_law (k n : Int) (w : World) : Calls Try.prog 5 #[gV k n] w fun e w' => e = .returned (.bool true) ∧ Below w.heap.size w w' := by
  by_cases hk : grpB k n = true
  · obtain ⟨g, hg, rfl, rfl⟩ := grp_of hk
    exact all_good g hg w
  · exact all_bad k n w (Bool.eq_false_iff.2 hk)
end Go.Proofs.Ytlnbodpdgebflaa
