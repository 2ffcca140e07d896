/- the reference: Falls -/
import Derived.Test.YtlnbodpdgebflaaEh
import Derived.Test.YtlnbodpdgebflaaTk
namespace Go.Proofs.Ytlnbodpdgebflaa
open Go.RowKit

set_option maxRecDepth 20000 in
set_option maxHeartbeats 2000000 in
theorem RFalls_any (g b0 c0 b1 c1 b2 c2 y : Nat) (hg : g < 17) (w : World) (h : RP w g b0 b1 b2) (hy : y < nE g) :
    Calls Try.prog 43 #[rV g b0 c0 b1 c1 b2 c2, .int .i64 y] w fun e w' => e = .returned (.int .i64 (flS g y (kM g) : Nat)) ∧ Below w.heap.size w w' := by
  have HR := Lib.hid (h.box c0 c1 c2)
  have HLn := Lib.hid (fun y W hW hy => Len_any g b0 c0 b1 c1 b2 c2 y hg W hW hy)
  have hE := (tE hg).2
  have hk4 := (tg hg).2.2.2.1
  obtain ⟨rq, ro, rc, r1, r4⟩ := HR.out.rp.row hg hy
  have HR4 := Lib.hid r4
  have t2 := HR.out.at.2.2
  clear h r4
  obtain ⟨T, hT⟩ : ∃ T, T = flS g y (kM g) := ⟨_, rfl⟩
  rw [← hT]
  have HTe := Lib.hid hT
  clear hT
  unfold rV at HLn ⊢
  go_enter Try.func43, Try.ntmps43
  go_wp2_with fail
  go_loopw [14, 5] (fun i a wi => ∃ k : Nat, k ≤ kM g ∧ i = .int .i64 k ∧ a = .int .i64 (flS g y k : Nat) ∧ RB wi w.heap.size g b0 c0 b1 c1 b2 c2 ∧ Below w.heap.size w wi ∧ (∀ s, s < kM g → wi.cell? ⟨rq, ro + s, none⟩ = some (.int .i64 (rt g y s : Nat)))) (fun i _ _ => kM g - (intOf i).toNat)
  case atStart => exact ⟨0, Nat.zero_le _, rfl, rfl, HR.out, a1 _ _, HR4.out⟩
  case round =>
    rename World => wi
    clear HR HR4 r1 t2
    obtain ⟨k, hk, rfl, rfl, hR, hb, hr4⟩ := hrel
    have HRi := Lib.hid hR
    have HBi := Lib.hid hb
    have HR4 := Lib.hid hr4
    clear hR hb hr4
    by_cases hl : k < kM g
    · have r4 := HR4.out k hl
      have HS : Hid (flS g y (k + 1) = if flB g y k then flS g y k ||| 2 ^ k else flS g y k) := Lib.hid rfl
      have hlt2 := flS_lt g y k
      have hp16 : 2 ^ k ≤ 16 := Nat.pow_le_pow_right (n := 2) (by decide) (show k ≤ 4 by omega)
      have hor : bits .or .i64 ((flS g y k : Nat) : Int) ((2:Int) ^ k) = ((flS g y k ||| 2 ^ k : Nat) : Int) := by rw [← pw_cast]; exact i64_or _ _ (by omega) (by omega)
      have hd3 : IntKind.i64.wrap ((2:Int) ^ k) = (2:Int) ^ k := by have := pw_bd k (by omega); exact i64_of (by omega) (by omega)
      have hr2 := (tb hg hy hl).2.1
      have hln1 := (tx hg hy).2.1
      have hln2 := (tx hg hr2).2.1
      generalize flS g y k = z at *
      go_wp2_with fail
      refine wp_region_held_drew (S := fun W => RB W w.heap.size g b0 c0 b1 c1 b2 c2) (by kernel_rfl) (HRi.out.below (below_drew (Below.refl _ _))) (fun hS0 => ?_)
      have hBd : Below wi.heap.size wi wi.drew := below_drew (Below.refl _ _)
      refine tk0 (v := (.agg #[.slice (some ⟨b0, 0, none⟩) (nE g) c0, .slice (some ⟨b1, 0, none⟩) (nE g) c1, .slice (some ⟨b2, 0, none⟩) (nE g) c2])) (by kernel_rfl) (by kernel_rfl) (by kernel_rfl) (fun _ _ _ h => h) (Or.inl ⟨by kernel_rfl, (fun w' hSw => by have h0 := hSw.at.1; have h1 := hSw.at.2.1; have h2 := hSw.at.2.2; go_simp)⟩) hS0 ?_
      try simp only [Act.put, List.setIfInBounds_toArray, List.set_cons_zero, List.set_cons_succ]
      refine tk1 (v := (.int .i64 (rt g y k : Nat))) (by kernel_rfl) (by kernel_rfl) (by kernel_rfl) (fun _ _ _ h => h) (Or.inl ⟨by kernel_rfl, fun w' hSw => by go_simp⟩) hS0 ?_
      try simp only [Act.put, List.setIfInBounds_toArray, List.set_cons_zero, List.set_cons_succ]
      refine tk3 (v := (.agg #[.slice (some ⟨b0, 0, none⟩) (nE g) c0, .slice (some ⟨b1, 0, none⟩) (nE g) c1, .slice (some ⟨b2, 0, none⟩) (nE g) c2])) (by kernel_rfl) (by kernel_rfl) (by kernel_rfl) (fun _ _ _ h => h) (Or.inl ⟨by kernel_rfl, (fun w' hSw => by have h0 := hSw.at.1; have h1 := hSw.at.2.1; have h2 := hSw.at.2.2; go_simp)⟩) hS0 ?_
      try simp only [Act.put, List.setIfInBounds_toArray, List.set_cons_zero, List.set_cons_succ]
      refine tk4 (v := (.int .i64 y)) (by kernel_rfl) (by kernel_rfl) (by kernel_rfl) (fun _ _ _ h => h) (Or.inl ⟨by kernel_rfl, fun w' hSw => by go_simp⟩) hS0 ?_
      try simp only [Act.put, List.setIfInBounds_toArray, List.set_cons_zero, List.set_cons_succ]
      refine wpAnyH_ready (rs := [2]) (by kernel_rfl) (by simp) (AllReadyH.cons rfl (fun K hK => ?_) AllReadyH.nil)
      rw [if_pos (by kernel_rfl)]
      go_simp
      refine (HLn.out _ _ hS0.rp hr2).mono ?_
      rintro e wa ⟨rfl, hba⟩
      have hSa := hS0.below hba
      refine hK.out _ _ hSa fun _ => ?_
      clear hK
      refine wpAnyH_ready (rs := [5]) (by kernel_rfl) (by simp) (AllReadyH.cons rfl (fun K hK => ?_) AllReadyH.nil)
      rw [if_pos (by kernel_rfl)]
      go_simp
      refine (HLn.out _ _ hSa.rp hy).mono ?_
      rintro e wb ⟨rfl, hbb⟩
      have hSb := hSa.below hbb
      refine hK.out _ _ hSb fun _ => ?_
      clear hK
      refine tk6 (v := (.bool (decide (ln g (rt g y k) < ln g y)))) (by kernel_rfl) (by kernel_rfl) (by kernel_rfl) (fun _ _ _ h => h) (Or.inl ⟨by kernel_rfl, fun w' hSw => by go_simp⟩) hSb ?_
      try simp only [Act.put, List.setIfInBounds_toArray, List.set_cons_zero, List.set_cons_succ]
      refine wpAnyH_done (by kernel_rfl) ?_ _
      have HRb := Lib.hid hSb
      have HBw : Hid (Below wi.heap.size wi wb) := Lib.hid (hBd.trans ((hba.mono hBd.size).trans (hbb.mono (Nat.le_trans hBd.size hba.size))))
      have HBb : Hid (Below w.heap.size w wb) := Lib.hid (HBi.out.trans (HBw.out.mono HBi.out.size))
      have HR4b : Hid (∀ s, s < kM g → wb.cell? ⟨rq, ro + s, none⟩ = some (.int .i64 (rt g y s : Nat))) := Lib.hid (fun s hs => ck (HR4.out s hs) HBw.out)
      clear hS0 hSa hSb hba hbb hBd
      by_cases hf : ln g (rt g y k) < ln g y
      · have hfb : flB g y k = true := decide_eq_true hf
        have HE : Hid (flS g y (k + 1) = z ||| 2 ^ k) := Lib.hid (by rw [HS.out, if_pos hfb])
        clear hfb HS
        generalize z ||| 2 ^ k = z2 at *
        go_wp2_with fail
        go_roundw
        case rel => exact ⟨k + 1, by omega, by go_num, by rw [HE.out], HRb.out, HBb.out, HR4b.out⟩
        case measure => simp [intOf]; omega
      · have hfb : flB g y k = false := decide_eq_false hf
        have HE : Hid (flS g y (k + 1) = z) := Lib.hid (by rw [HS.out, hfb]; rfl)
        clear hfb HS
        go_wp2_with fail
        go_roundw
        case rel => exact ⟨k + 1, by omega, by go_num, by rw [HE.out], HRb.out, HBb.out, HR4b.out⟩
        case measure => simp [intOf]; omega
    · have hkk : k = kM g := by omega
      have HE : Hid (flS g y k = T) := Lib.hid (by rw [hkk, HTe.out])
      rw [HE.out]
      clear hkk HE HTe
      go_wp2_with fail
      go_ret
      exact ⟨rfl, HBi.out⟩
end Go.Proofs.Ytlnbodpdgebflaa
