/- the reference: Covers -/
import Derived.Test.YtlnbodpdgebflaaCb
namespace Go.Proofs.Ytlnbodpdgebflaa
open Go.RowKit

set_option maxRecDepth 20000 in
set_option maxHeartbeats 2000000 in
theorem RCovers_any (g b0 c0 b1 c1 b2 c2 x : Nat) (hg : g < 17) (w : World) (h : RP w g b0 b1 b2) (hx : x < nE g) :
    Calls Try.prog 48 #[rV g b0 c0 b1 c1 b2 c2, .int .i64 x] w fun e w' => ∃ a c, e = .returned (.slice a (cvL g x (nE g)).length c) ∧ NatRows w' (.slice a (cvL g x (nE g)).length c) ((cvL g x (nE g)).map (wd g)) ∧ Below w.heap.size w w' := by
  have HR := Lib.hid (h.box c0 c1 c2)
  have hE := tE hg
  have hlx := (tx hg hx).2.1
  have HLow := Lib.hid (fun W h => Lower_any g b0 c0 b1 c1 b2 c2 x hg W h hx)
  have HLen := Lib.hid (fun y W h hy => Len_any g b0 c0 b1 c1 b2 c2 y hg W h hy)
  have HLo := Lib.hid (fun j hj => lwF_lo hg _ x rfl hx j hj)
  obtain ⟨i24, hi24, hy0, hy1, hy2⟩ := info_parts Try.info24
  unfold rV at HLow HLen ⊢
  clear h
  have t0 := HR.out.at.1
  have t1 := HR.out.at.2.1
  have t2 := HR.out.at.2.2
  go_enter Try.func48, Try.ntmps48
  go_wp2_with fail
  clear t0 t1 t2
  refine (HLow.out _ HR.out.rp).mono ?_
  rintro e w1 ⟨ob, oc, rfl, hO, hb⟩
  have HR1 := Lib.hid (HR.out.below hb)
  have HB1 : Hid (Below w.heap.size w w1) := Lib.hid (bl1 hb)
  have HO1 := Lib.hid hO
  have hoc := hO.capOk
  clear hb hO HR HLow
  go_wp2_with fail
  go_loopw [12, 5] (fun i v wr => ∃ k : Nat, k ≤ nE g ∧ i = .int .i64 k ∧ RowsN w1 wr w1.heap.size v ((cvL g x k).map (wd g)) ∧ Below w1.heap.size w1 wr) (fun i _ _ => nE g - (intOf i).toNat)
  case atStart => exact ⟨0, Nat.zero_le _, rfl, RowsN.nil _ _ _, Below.refl _ _⟩
  case round =>
    obtain ⟨k, hk, rfl, hR, hb⟩ := hrel
    obtain ⟨ua, uc, cn, rfl, hcn⟩ := hR.form'
    have hcl : cn ≤ k := by rw [← hcn, cov_len]; exact cvL_len g x k
    have HCN := Lib.hid hcn
    have HR := Lib.hid hR
    have HB := Lib.hid hb
    clear hR hb hcn
    by_cases hl : k < nE g
    · have hok := ck (HO1.out.cell hl) HB.out
      rw [HLo.out k hl] at hok
      have HS := Lib.hid (cvL_succ g x k)
      cases hf : loB g k x with
      | false =>
        rw [hf] at hok HS
        have HNx : Hid (RowsN w1 wr w1.heap.size (.slice ua cn uc) ((cvL g x (k + 1)).map (wd g))) := Lib.hid (by rw [HS.out, if_neg (by simp)]; exact HR.out)
        clear hf HS
        go_wp2_with fail
        go_quiet (fail)
        go_wp2_with fail
        go_roundw
        case rel => exact ⟨k + 1, by omega, by go_num, HNx.out.below (below_drewN (Below.refl _ _) _), below_drewN HB.out _⟩
        case measure => simp [intOf]; omega
      | true =>
        rw [hf] at hok HS
        clear hf
        have HRr := Lib.hid (HR1.out.below HB.out)
        have t0 := HRr.out.at.1
        have t1 := HRr.out.at.2.1
        have t2 := HRr.out.at.2.2
        have hlk := (tx hg hl).2.1
        have HL1 := Lib.hid (fun W h => HLen.out k W h hl)
        have HL2 := Lib.hid (fun W h => HLen.out x W h hx)
        obtain ⟨ya, yc, hy1, hy2⟩ := HR1.out.p0 k hl
        have hyl : (wd g k).length = ln g k := rfl
        rw [hyl] at hy1 hy2
        have HY := Lib.hid hy1
        have HYN := Lib.hid hy2
        have HKS : Hid (∀ W, Below wr.heap.size wr W → (Below wr.heap.size wr W ∧ W.cell? ⟨w.heap.size, 0, none⟩ = some (.slice (some ⟨b0, 0, none⟩) (nE g) c0) ∧ W.cell? ⟨w.heap.size, 1, none⟩ = some (.slice (some ⟨b1, 0, none⟩) (nE g) c1) ∧ W.cell? ⟨w.heap.size, 2, none⟩ = some (.slice (some ⟨b2, 0, none⟩) (nE g) c2))) :=
          Lib.hid (fun W hb => ⟨hb, ck t0 hb, ck t1 hb, ck t2 hb⟩)
        obtain ⟨p, hp⟩ : ∃ p, p = ln g k := ⟨_, rfl⟩
        obtain ⟨q, hq⟩ : ∃ q, q = ln g x := ⟨_, rfl⟩
        rw [← hp] at HL1 HY HYN HS hlk
        rw [← hq] at HL2 HS hlx
        have HP := Lib.hid hp
        have HQ := Lib.hid hq
        clear hy1 hy2 hyl t0 t1 t2 hp hq
        obtain ⟨d, hd⟩ : ∃ d, d = ((p : Int) == (q : Int) - 1) := ⟨_, rfl⟩
        have hd' := hd.symm
        clear hd
        go_wp2_with fail
        go_region_held3 (fun W => Below wr.heap.size wr W ∧ W.cell? ⟨w.heap.size, 0, none⟩ = some (.slice (some ⟨b0, 0, none⟩) (nE g) c0) ∧ W.cell? ⟨w.heap.size, 1, none⟩ = some (.slice (some ⟨b1, 0, none⟩) (nE g) c1) ∧ W.cell? ⟨w.heap.size, 2, none⟩ = some (.slice (some ⟨b2, 0, none⟩) (nE g) c2))
          (first | assumption | exact HKS.out _ (below_drew (Below.refl _ _)) | exact HKS.out _ ((‹Below wr.heap.size wr _ ∧ _›).1.trans (hb.mono (‹Below wr.heap.size wr _ ∧ _›).1.size)))
          (first
            | (go_at_call 29; with_reducible refine (HL1.out _ (HRr.out.below (‹Below wr.heap.size wr _ ∧ _›).1).rp).mono ?_; rintro e wv ⟨rfl, hb⟩)
            | (go_at_call 29; with_reducible refine (HL2.out _ (HRr.out.below (‹Below wr.heap.size wr _ ∧ _›).1).rp).mono ?_; rintro e wv ⟨rfl, hb⟩))
        rename_i hHz
        have HBw : Hid (Below wr.heap.size wr wv) := Lib.hid hHz.1
        have HBv : Hid (Below w1.heap.size w1 wv) := Lib.hid (HB.out.trans (hHz.1.mono HB.out.size))
        have tt0 := hHz.2.1
        have hyv := ck HY.out HBv.out
        have hWv := HBv.out.size
        clear hHz hb HKS HL1 HL2
        have hw : IntKind.i64.wrap ((q : Int) - 1) = (q : Int) - 1 := IntWalk.i64_in _ (by omega)
        simp only [hw, hd']
        clear hw
        cases d with
        | true =>
          have hpq : p + 1 = q := by have h9 : (p : Int) = (q : Int) - 1 := beq_iff_eq.1 hd'; omega
          have HNx : Hid (((cvL g x (k + 1)).map (wd g)) = (cvL g x k).map (wd g) ++ [wd g k]) := Lib.hid (by rw [HS.out, if_pos (by simp [hpq])]; simp)
          obtain ⟨vs, hown, hvs⟩ := HR.out
          have HVS := Lib.hid hvs
          have HVL : Hid (vs.length = ((cvL g x k).map (wd g)).length) := Lib.hid (by have := hown.1; omega)
          have HOq : Hid (wv.ownsRow w1.heap.size 24 1 (.slice ua cn uc) cn vs) := Lib.hid (by rw [HCN.out] at hown; exact owns_below hown HBw.out (Nat.le_refl _))
          clear HS hown hvs hpq hd' HR
          go_wp2_with (first | (at_builtin; refine wpList_append_own _ rfl _ _ 33 rfl w1.heap.size 24 i24 (.slice none 0 0) 1 24 Try.underlying33 hi24 hy0 hy1 hy2 rfl (by decide) _ _ _ rfl (HOq.out.alloc _) ⟨wv.heap.size, 0, none⟩ 1 1 [.slice ya p yc] rfl rfl (newOne _ _ _) (by intro u hu; simp at hu; subst hu; rfl) (by unfold maxLen; omega) (by omega) (by simp; omega) ?_; intro v9 w9 hown9 hg9 _) | fail)
          have HR9 : Hid (RowsN w1 w9 w1.heap.size v9 ((cvL g x (k + 1)).map (wd g))) := Lib.hid (by
            rw [HNx.out]
            exact RowsN.push HVL.out HVS.out HYN.out (by rw [HCN.out]; exact hown9))
          have HB9 : Hid (Below w1.heap.size w1 w9) := Lib.hid ((HBv.out.alloc hWv _).grown hg9 (by simp; omega) fun q e => (HOq.out.lt q e).1)
          obtain ⟨a9, c9, rfl⟩ := owns_form hown9
          clear hown9 hg9
          go_roundw
          case rel => exact ⟨k + 1, by omega, by go_num, HR9.out, HB9.out⟩
          case measure => simp [intOf]; omega
        | false =>
          have hpq : ¬ p + 1 = q := fun e => by have h9 : (p : Int) ≠ (q : Int) - 1 := beq_eq_false_iff_ne.1 hd'; omega
          have HNx : Hid (RowsN w1 wv w1.heap.size (.slice ua cn uc) ((cvL g x (k + 1)).map (wd g))) := Lib.hid (by rw [HS.out, if_neg (by simp [hpq])]; exact HR.out.below HBw.out)
          clear HS hpq hd'
          go_wp2_with fail
          go_roundw
          case rel => exact ⟨k + 1, by omega, by go_num, HNx.out, HBv.out⟩
          case measure => simp [intOf]; omega
    · have hkk : k = nE g := by omega
      have HE : Hid (NatRows wr (.slice ua cn uc) ((cvL g x (nE g)).map (wd g))) := Lib.hid (by rw [← hkk]; exact HR.out.read HB.out (by rw [HCN.out]; omega))
      have HL : Hid (cn = (cvL g x (nE g)).length) := Lib.hid (by rw [← hkk, ← HCN.out, cov_len])
      clear hkk HR
      go_wp2_with fail
      go_ret
      rw [← HL.out]
      exact ⟨_, _, rfl, HE.out, HB1.out.trans (HB.out.mono HB1.out.size)⟩
end Go.Proofs.Ytlnbodpdgebflaa
