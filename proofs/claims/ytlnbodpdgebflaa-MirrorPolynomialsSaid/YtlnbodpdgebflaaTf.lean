/- the reference's R -/
import Derived.Test.YtlnbodpdgebflaaV2
import Derived.Test.YtlnbodpdgebflaaTe
import Derived.Test.YtlnbodpdgebflaaCb
import Derived.Test.YtlnbodpdgebflaaEh
import Derived.Test.YtlnbodpdgebflaaTk
namespace Go.Proofs.Ytlnbodpdgebflaa
open Go.RowKit

/-- What is held on the way may be made more. -/
theorem heldH_weak {P : Program} {ops : Array Oper} {Q : Exit → Act → World → Prop} {md : Region.Mode} {S T : World → Prop} (h : ∀ v, T v → S v) : ∀ (f : Nat) (d : Array Bool) (a : Act) (w : World), wpAnyH P md ops Q T f d a w → wpAnyH P md ops Q S f d a w
  | 0, _, _, _, q => q
  | f + 1, _, _, _, q => ⟨q.1, fun i hi => wpOp_mono (fun _ _ hh => ⟨h _ hh.1, heldH_weak h f _ _ _ hh.2⟩) (q.2 i hi)⟩
set_option maxRecDepth 20000 in
set_option maxHeartbeats 1000000 in
theorem RR_eq (g b0 c0 b1 c1 b2 c2 u x : Nat) (hg : g < 17) (h3 : g ≠ 3) (w : World) (hu : u < nE g) (hx : x < nE g) (e0 : u = x) :
    Calls Try.prog 54 #[rV g b0 c0 b1 c1 b2 c2, .int .i64 u, .int .i64 x] w fun e w' => ∃ a c, e = .returned (.slice a (dR g u x).length c) ∧ Ints w' (.slice a (dR g u x).length c) (dR g u x) ∧ Below w.heap.size w w' := by
  rw [dR_one hg h3 hu hx e0]
  subst e0
  unfold rV
  have HB : Hid (Below w.heap.size w ((w.alloc (.cells #[.slice (some ⟨b0, 0, none⟩) (nE g) c0, .slice (some ⟨b1, 0, none⟩) (nE g) c1, .slice (some ⟨b2, 0, none⟩) (nE g) c2] 39)).alloc (.cells #[.int .i64 1] 3))) := Lib.hid (a2 _ _ _)
  have HI : Hid (Ints ((w.alloc (.cells #[.slice (some ⟨b0, 0, none⟩) (nE g) c0, .slice (some ⟨b1, 0, none⟩) (nE g) c1, .slice (some ⟨b2, 0, none⟩) (nE g) c2] 39)).alloc (.cells #[.int .i64 1] 3)) (.slice (some ⟨(w.alloc (.cells #[.slice (some ⟨b0, 0, none⟩) (nE g) c0, .slice (some ⟨b1, 0, none⟩) (nE g) c1, .slice (some ⟨b2, 0, none⟩) (nE g) c2] 39)).heap.size, 0, none⟩) 1 1) [1]) := Lib.hid (ints_one _)
  rw [World.size_alloc] at HI
  have huu : ((u : Int) == (u : Int)) = true := beq_iff_eq.2 rfl
  go_enter Try.func54, Try.ntmps54
  go_wp2_with fail
  go_ret
  exact ⟨_, _, rfl, HI.out, HB.out⟩

set_option maxRecDepth 20000 in
set_option maxHeartbeats 2000000 in
theorem RR_ge (g b0 c0 b1 c1 b2 c2 u x : Nat) (hg : g < 17) (h3 : g ≠ 3) (w : World) (h : RP w g b0 b1 b2) (hu : u < nE g) (hx : x < nE g) (e0 : u ≠ x) (hge : ln g x ≤ ln g u) :
    Calls Try.prog 54 #[rV g b0 c0 b1 c1 b2 c2, .int .i64 u, .int .i64 x] w fun e w' => ∃ a c, e = .returned (.slice a (dR g u x).length c) ∧ Ints w' (.slice a (dR g u x).length c) (dR g u x) ∧ Below w.heap.size w w' := by
  rw [dR_nil hg h3 hu hx e0 hge]
  have HR0 := Lib.hid (h.box c0 c1 c2)
  have HB0 : Hid (Below w.heap.size w (w.alloc (.cells #[.slice (some ⟨b0, 0, none⟩) (nE g) c0, .slice (some ⟨b1, 0, none⟩) (nE g) c1, .slice (some ⟨b2, 0, none⟩) (nE g) c2] 39))) := Lib.hid (a1 _ _)
  have HLu := Lib.hid (fun W hW => Len_any g b0 c0 b1 c1 b2 c2 u hg W hW hu)
  have HLx := Lib.hid (fun W hW => Len_any g b0 c0 b1 c1 b2 c2 x hg W hW hx)
  have hlu := (tx hg hu).2.1
  have hlx := (tx hg hx).2.1
  have huu : ((u : Int) == (x : Int)) = false := beq_eq_false_iff_ne.2 (by omega)
  clear h
  unfold rV at HLu HLx ⊢
  go_enter Try.func54, Try.ntmps54
  go_wp2_with fail
  generalize w.alloc (.cells #[.slice (some ⟨b0, 0, none⟩) (nE g) c0, .slice (some ⟨b1, 0, none⟩) (nE g) c1, .slice (some ⟨b2, 0, none⟩) (nE g) c2] 39) = wz at *
  refine wp_region_held_drew (S := fun W => RB W w.heap.size g b0 c0 b1 c1 b2 c2) (by kernel_rfl) (HR0.out.below (below_drew (Below.refl _ _))) (fun hS0 => ?_)
  have hBd : Below wz.heap.size wz wz.drew := below_drew (Below.refl _ _)
  refine tk0 (v := (.agg #[.slice (some ⟨b0, 0, none⟩) (nE g) c0, .slice (some ⟨b1, 0, none⟩) (nE g) c1, .slice (some ⟨b2, 0, none⟩) (nE g) c2])) (by kernel_rfl) (by kernel_rfl) (by kernel_rfl) (fun _ _ _ h => h) (Or.inl ⟨by kernel_rfl, (fun w' hSw => by have h0 := hSw.at.1; have h1 := hSw.at.2.1; have h2 := hSw.at.2.2; go_simp)⟩) hS0 ?_
  try simp only [Act.put, List.setIfInBounds_toArray, List.set_cons_zero, List.set_cons_succ]
  refine tk1 (v := (.int .i64 (u : Nat))) (by kernel_rfl) (by kernel_rfl) (by kernel_rfl) (fun _ _ _ h => h) (Or.inl ⟨by kernel_rfl, fun w' hSw => by go_simp⟩) hS0 ?_
  try simp only [Act.put, List.setIfInBounds_toArray, List.set_cons_zero, List.set_cons_succ]
  refine tk3 (v := (.agg #[.slice (some ⟨b0, 0, none⟩) (nE g) c0, .slice (some ⟨b1, 0, none⟩) (nE g) c1, .slice (some ⟨b2, 0, none⟩) (nE g) c2])) (by kernel_rfl) (by kernel_rfl) (by kernel_rfl) (fun _ _ _ h => h) (Or.inl ⟨by kernel_rfl, (fun w' hSw => by have h0 := hSw.at.1; have h1 := hSw.at.2.1; have h2 := hSw.at.2.2; go_simp)⟩) hS0 ?_
  try simp only [Act.put, List.setIfInBounds_toArray, List.set_cons_zero, List.set_cons_succ]
  refine tk4 (v := (.int .i64 (x : Nat))) (by kernel_rfl) (by kernel_rfl) (by kernel_rfl) (fun _ _ _ h => h) (Or.inl ⟨by kernel_rfl, fun w' hSw => by go_simp⟩) hS0 ?_
  try simp only [Act.put, List.setIfInBounds_toArray, List.set_cons_zero, List.set_cons_succ]
  refine wpAnyH_ready (rs := [2]) (by kernel_rfl) (by simp) (AllReadyH.cons rfl (fun K hK => ?_) AllReadyH.nil)
  rw [if_pos (by kernel_rfl)]
  go_simp
  refine (HLu.out _ hS0.rp).mono ?_
  rintro e wa ⟨rfl, hba⟩
  have hSa := hS0.below hba
  refine hK.out _ _ hSa fun _ => ?_
  clear hK
  refine wpAnyH_ready (rs := [5]) (by kernel_rfl) (by simp) (AllReadyH.cons rfl (fun K hK => ?_) AllReadyH.nil)
  rw [if_pos (by kernel_rfl)]
  go_simp
  refine (HLx.out _ hSa.rp).mono ?_
  rintro e wb ⟨rfl, hbb⟩
  have hSb := hSa.below hbb
  refine hK.out _ _ hSb fun _ => ?_
  clear hK
  have hBb : Below wz.heap.size wz wb := hBd.trans ((hba.mono hBd.size).trans (hbb.mono (Nat.le_trans hBd.size hba.size)))
  clear hba hbb hSa hS0 hBd
  refine tk6 (v := (.bool true)) (by kernel_rfl) (by kernel_rfl) (by kernel_rfl) (fun _ _ _ h => h) (Or.inl ⟨by kernel_rfl, fun w' hSw => by (simp [execOp]; go_simp)⟩) hSb ?_
  try simp only [Act.put, List.setIfInBounds_toArray, List.set_cons_zero, List.set_cons_succ]
  refine tk7 (v := (.bool true)) (by kernel_rfl) (by kernel_rfl) (by kernel_rfl) (fun _ _ _ h => h) (Or.inl ⟨by kernel_rfl, fun w' hSw => by go_simp⟩) hSb ?_
  try simp only [Act.put, List.setIfInBounds_toArray, List.set_cons_zero, List.set_cons_succ]
  refine tk8 (v := undef) (by kernel_rfl) (by kernel_rfl) (by kernel_rfl) (fun _ _ _ h => h) (Or.inr ⟨by kernel_rfl, rfl⟩) hSb ?_
  try simp only [Act.put, List.setIfInBounds_toArray, List.set_cons_zero, List.set_cons_succ]
  refine tk9 (v := undef) (by kernel_rfl) (by kernel_rfl) (by kernel_rfl) (fun _ _ _ h => h) (Or.inr ⟨by kernel_rfl, rfl⟩) hSb ?_
  try simp only [Act.put, List.setIfInBounds_toArray, List.set_cons_zero, List.set_cons_succ]
  refine tk10 (v := undef) (by kernel_rfl) (by kernel_rfl) (by kernel_rfl) (fun _ _ _ h => h) (Or.inr ⟨by kernel_rfl, rfl⟩) hSb ?_
  try simp only [Act.put, List.setIfInBounds_toArray, List.set_cons_zero, List.set_cons_succ]
  refine tk11 (v := undef) (by kernel_rfl) (by kernel_rfl) (by kernel_rfl) (fun _ _ _ h => h) (Or.inr ⟨by kernel_rfl, rfl⟩) hSb ?_
  try simp only [Act.put, List.setIfInBounds_toArray, List.set_cons_zero, List.set_cons_succ]
  refine tk12 (v := undef) (by kernel_rfl) (by kernel_rfl) (by kernel_rfl) (fun _ _ _ h => h) (Or.inr ⟨by kernel_rfl, rfl⟩) hSb ?_
  try simp only [Act.put, List.setIfInBounds_toArray, List.set_cons_zero, List.set_cons_succ]
  refine tk13 (v := undef) (by kernel_rfl) (by kernel_rfl) (by kernel_rfl) (fun _ _ _ h => h) (Or.inr ⟨by kernel_rfl, rfl⟩) hSb ?_
  try simp only [Act.put, List.setIfInBounds_toArray, List.set_cons_zero, List.set_cons_succ]
  refine tk14 (v := undef) (by kernel_rfl) (by kernel_rfl) (by kernel_rfl) (fun _ _ _ h => h) (Or.inr ⟨by kernel_rfl, rfl⟩) hSb ?_
  try simp only [Act.put, List.setIfInBounds_toArray, List.set_cons_zero, List.set_cons_succ]
  refine tk15 (v := (.bool true)) (by kernel_rfl) (by kernel_rfl) (by kernel_rfl) (fun _ _ _ h => h) (Or.inl ⟨by kernel_rfl, fun w' hSw => by go_simp⟩) hSb ?_
  try simp only [Act.put, List.setIfInBounds_toArray, List.set_cons_zero, List.set_cons_succ]
  refine wpAnyH_done (by kernel_rfl) ?_ _
  go_wp2_with fail
  go_ret
  exact ⟨_, _, rfl, ints_none _, (HB0.out.trans (hBb.mono HB0.out.size))⟩

set_option maxRecDepth 20000 in
set_option maxHeartbeats 2000000 in
theorem RR_no (g b0 c0 b1 c1 b2 c2 u x : Nat) (hg : g < 17) (h3 : g ≠ 3) (w : World) (h : RP w g b0 b1 b2) (hu : u < nE g) (hx : x < nE g) (e0 : u ≠ x) (hlt : ln g u < ln g x) (hlo : loB g u x = false) :
    Calls Try.prog 54 #[rV g b0 c0 b1 c1 b2 c2, .int .i64 u, .int .i64 x] w fun e w' => ∃ a c, e = .returned (.slice a (dR g u x).length c) ∧ Ints w' (.slice a (dR g u x).length c) (dR g u x) ∧ Below w.heap.size w w' := by
  have hnil : dR g u x = [] := by
    have h1 := mt (dR_low hg h3 hu hx).2
    simp only [hlo, ne_eq] at h1
    exact Decidable.not_not.1 (h1 (by simp))
  rw [hnil]
  have HR0 := Lib.hid (h.box c0 c1 c2)
  have HB0 : Hid (Below w.heap.size w (w.alloc (.cells #[.slice (some ⟨b0, 0, none⟩) (nE g) c0, .slice (some ⟨b1, 0, none⟩) (nE g) c1, .slice (some ⟨b2, 0, none⟩) (nE g) c2] 39))) := Lib.hid (a1 _ _)
  have HLu := Lib.hid (fun W hW => Len_any g b0 c0 b1 c1 b2 c2 u hg W hW hu)
  have HLx := Lib.hid (fun W hW => Len_any g b0 c0 b1 c1 b2 c2 x hg W hW hx)
  have hlu := (tx hg hu).2.1
  have hlx := (tx hg hx).2.1
  have huu : ((u : Int) == (x : Int)) = false := beq_eq_false_iff_ne.2 (by omega)
  clear h
  have HLow := Lib.hid (fun W hW => Lower_any g b0 c0 b1 c1 b2 c2 x hg W hW hx)
  have HLE : Hid (lwF g (wd g x) u = false) := Lib.hid (by rw [lwF_lo hg _ x rfl hx u hu]; exact hlo)
  unfold rV at HLu HLx HLow ⊢
  go_enter Try.func54, Try.ntmps54
  go_wp2_with fail
  generalize w.alloc (.cells #[.slice (some ⟨b0, 0, none⟩) (nE g) c0, .slice (some ⟨b1, 0, none⟩) (nE g) c1, .slice (some ⟨b2, 0, none⟩) (nE g) c2] 39) = wz at *
  refine wp_region_held_drew (S := fun W => RB W w.heap.size g b0 c0 b1 c1 b2 c2) (by kernel_rfl) (HR0.out.below (below_drew (Below.refl _ _))) (fun hS0 => ?_)
  have hBd : Below wz.heap.size wz wz.drew := below_drew (Below.refl _ _)
  refine tk0 (v := (.agg #[.slice (some ⟨b0, 0, none⟩) (nE g) c0, .slice (some ⟨b1, 0, none⟩) (nE g) c1, .slice (some ⟨b2, 0, none⟩) (nE g) c2])) (by kernel_rfl) (by kernel_rfl) (by kernel_rfl) (fun _ _ _ h => h) (Or.inl ⟨by kernel_rfl, (fun w' hSw => by have h0 := hSw.at.1; have h1 := hSw.at.2.1; have h2 := hSw.at.2.2; go_simp)⟩) hS0 ?_
  try simp only [Act.put, List.setIfInBounds_toArray, List.set_cons_zero, List.set_cons_succ]
  refine tk1 (v := (.int .i64 (u : Nat))) (by kernel_rfl) (by kernel_rfl) (by kernel_rfl) (fun _ _ _ h => h) (Or.inl ⟨by kernel_rfl, fun w' hSw => by go_simp⟩) hS0 ?_
  try simp only [Act.put, List.setIfInBounds_toArray, List.set_cons_zero, List.set_cons_succ]
  refine tk3 (v := (.agg #[.slice (some ⟨b0, 0, none⟩) (nE g) c0, .slice (some ⟨b1, 0, none⟩) (nE g) c1, .slice (some ⟨b2, 0, none⟩) (nE g) c2])) (by kernel_rfl) (by kernel_rfl) (by kernel_rfl) (fun _ _ _ h => h) (Or.inl ⟨by kernel_rfl, (fun w' hSw => by have h0 := hSw.at.1; have h1 := hSw.at.2.1; have h2 := hSw.at.2.2; go_simp)⟩) hS0 ?_
  try simp only [Act.put, List.setIfInBounds_toArray, List.set_cons_zero, List.set_cons_succ]
  refine tk4 (v := (.int .i64 (x : Nat))) (by kernel_rfl) (by kernel_rfl) (by kernel_rfl) (fun _ _ _ h => h) (Or.inl ⟨by kernel_rfl, fun w' hSw => by go_simp⟩) hS0 ?_
  try simp only [Act.put, List.setIfInBounds_toArray, List.set_cons_zero, List.set_cons_succ]
  refine wpAnyH_ready (rs := [2]) (by kernel_rfl) (by simp) (AllReadyH.cons rfl (fun K hK => ?_) AllReadyH.nil)
  rw [if_pos (by kernel_rfl)]
  go_simp
  refine (HLu.out _ hS0.rp).mono ?_
  rintro e wa ⟨rfl, hba⟩
  have hSa := hS0.below hba
  refine hK.out _ _ hSa fun _ => ?_
  clear hK
  refine wpAnyH_ready (rs := [5]) (by kernel_rfl) (by simp) (AllReadyH.cons rfl (fun K hK => ?_) AllReadyH.nil)
  rw [if_pos (by kernel_rfl)]
  go_simp
  refine (HLx.out _ hSa.rp).mono ?_
  rintro e wb ⟨rfl, hbb⟩
  have hSb := hSa.below hbb
  refine hK.out _ _ hSb fun _ => ?_
  clear hK
  have hBb : Below wz.heap.size wz wb := hBd.trans ((hba.mono hBd.size).trans (hbb.mono (Nat.le_trans hBd.size hba.size)))
  clear hba hbb hSa hS0 hBd
  refine tk6 (v := (.bool false)) (by kernel_rfl) (by kernel_rfl) (by kernel_rfl) (fun _ _ _ h => h) (Or.inl ⟨by kernel_rfl, fun w' hSw => by (first | (go_simp; done) | (simp [execOp]; go_simp; done) | (simp [execOp]; exact hlt))⟩) hSb ?_
  try simp only [Act.put, List.setIfInBounds_toArray, List.set_cons_zero, List.set_cons_succ]
  refine tk7 (v := (.bool false)) (by kernel_rfl) (by kernel_rfl) (by kernel_rfl) (fun _ _ _ h => h) (Or.inl ⟨by kernel_rfl, fun w' hSw => by go_simp⟩) hSb ?_
  try simp only [Act.put, List.setIfInBounds_toArray, List.set_cons_zero, List.set_cons_succ]
  refine tk8 (v := (.agg #[.slice (some ⟨b0, 0, none⟩) (nE g) c0, .slice (some ⟨b1, 0, none⟩) (nE g) c1, .slice (some ⟨b2, 0, none⟩) (nE g) c2])) (by kernel_rfl) (by kernel_rfl) (by kernel_rfl) (fun _ _ _ h => h) (Or.inl ⟨by kernel_rfl, (fun w' hSw => by have h0 := hSw.at.1; have h1 := hSw.at.2.1; have h2 := hSw.at.2.2; go_simp)⟩) hSb ?_
  try simp only [Act.put, List.setIfInBounds_toArray, List.set_cons_zero, List.set_cons_succ]
  refine tk9 (v := (.int .i64 (x : Nat))) (by kernel_rfl) (by kernel_rfl) (by kernel_rfl) (fun _ _ _ h => h) (Or.inl ⟨by kernel_rfl, fun w' hSw => by go_simp⟩) hSb ?_
  try simp only [Act.put, List.setIfInBounds_toArray, List.set_cons_zero, List.set_cons_succ]
  refine tk11 (v := (.int .i64 (u : Nat))) (by kernel_rfl) (by kernel_rfl) (by kernel_rfl) (fun _ _ _ h => h) (Or.inl ⟨by kernel_rfl, fun w' hSw => by go_simp⟩) hSb ?_
  try simp only [Act.put, List.setIfInBounds_toArray, List.set_cons_zero, List.set_cons_succ]
  refine wpAnyH_ready (rs := [10]) (by kernel_rfl) (by simp) (AllReadyH.cons rfl (fun K hK => ?_) AllReadyH.nil)
  rw [if_pos (by kernel_rfl)]
  go_simp
  refine (HLow.out _ hSb.rp).mono ?_
  rintro e wc ⟨ob, oc, rfl, hO, hbc⟩
  have hSc := hSb.below hbc
  have hoc := hO.capOk
  have HOc : Hid (wc.cell? ⟨ob, u, none⟩ = some (.bool false)) := Lib.hid (by rw [hO.cell hu, HLE.out])
  clear hO
  refine hK.out _ _ hSc fun _ => ?_
  clear hK
  refine heldH_weak (T := fun W => RB W w.heap.size g b0 c0 b1 c1 b2 c2 ∧ W.cell? ⟨ob, u, none⟩ = some (.bool false)) (fun v hv => hv.1) _ _ _ _ ?_
  have hS1 : RB wc w.heap.size g b0 c0 b1 c1 b2 c2 ∧ wc.cell? ⟨ob, u, none⟩ = some (.bool false) := ⟨hSc, HOc.out⟩
  refine tk12 (v := (.pointer (some ⟨ob, u, none⟩))) (by kernel_rfl) (by kernel_rfl) (by kernel_rfl) (fun _ _ _ h => h) (Or.inl ⟨by kernel_rfl, fun w' hSw => by go_simp⟩) hS1 ?_
  try simp only [Act.put, List.setIfInBounds_toArray, List.set_cons_zero, List.set_cons_succ]
  refine tk13 (v := (.bool false)) (by kernel_rfl) (by kernel_rfl) (by kernel_rfl) (fun _ _ _ h => h) (Or.inl ⟨by kernel_rfl, fun w' hSw => by (have h0 := hSw.2; go_simp)⟩) hS1 ?_
  try simp only [Act.put, List.setIfInBounds_toArray, List.set_cons_zero, List.set_cons_succ]
  refine tk14 (v := (.bool true)) (by kernel_rfl) (by kernel_rfl) (by kernel_rfl) (fun _ _ _ h => h) (Or.inl ⟨by kernel_rfl, fun w' hSw => by go_simp⟩) hS1 ?_
  try simp only [Act.put, List.setIfInBounds_toArray, List.set_cons_zero, List.set_cons_succ]
  refine tk15 (v := (.bool true)) (by kernel_rfl) (by kernel_rfl) (by kernel_rfl) (fun _ _ _ h => h) (Or.inl ⟨by kernel_rfl, fun w' hSw => by go_simp⟩) hS1 ?_
  try simp only [Act.put, List.setIfInBounds_toArray, List.set_cons_zero, List.set_cons_succ]
  refine wpAnyH_done (by kernel_rfl) ?_ _
  have HBc : Hid (Below w.heap.size w wc) := Lib.hid (HB0.out.trans ((hBb.trans (hbc.mono hBb.size)).mono HB0.out.size))
  have HRc := Lib.hid hSc
  have HZc : Hid (Below wz.heap.size wz wc) := Lib.hid (hBb.trans (hbc.mono hBb.size))
  clear hS1 HOc hoc hBb hbc hSb hSc HB0 HR0 HLow HLE
  go_wp2_with fail
  go_ret
  exact ⟨_, _, rfl, ints_none _, HBc.out⟩

set_option maxRecDepth 20000 in
set_option maxHeartbeats 2000000 in
theorem RR_fall (g b0 c0 b1 c1 b2 c2 u x : Nat) (hg : g < 17) (h3 : g ≠ 3) (w : World) (h : RP w g b0 b1 b2) (hu : u < nE g) (hx : x < nE g) (e0 : u ≠ x) (hlt : ln g u < ln g x) (hlo : loB g u x = true) (hf : ln g (rt g u (lastL g x)) < ln g u) (hI : ∀ W, RP W g b0 b1 b2 → Calls Try.prog 54 #[rV g b0 c0 b1 c1 b2 c2, .int .i64 (rt g u (lastL g x) : Nat), .int .i64 (rt g x (lastL g x) : Nat)] W fun e w' => ∃ a c, e = .returned (.slice a (dR g (rt g u (lastL g x)) (rt g x (lastL g x))).length c) ∧ Ints w' (.slice a (dR g (rt g u (lastL g x)) (rt g x (lastL g x))).length c) (dR g (rt g u (lastL g x)) (rt g x (lastL g x))) ∧ Below W.heap.size W w') :
    Calls Try.prog 54 #[rV g b0 c0 b1 c1 b2 c2, .int .i64 u, .int .i64 x] w fun e w' => ∃ a c, e = .returned (.slice a (dR g u x).length c) ∧ Ints w' (.slice a (dR g u x).length c) (dR g u x) ∧ Below w.heap.size w w' := by
  rw [dR_fall hg h3 hu hx e0 hlt hf]
  have HI := Lib.hid hI
  clear hI
  have HR0 := Lib.hid (h.box c0 c1 c2)
  have HB0 : Hid (Below w.heap.size w (w.alloc (.cells #[.slice (some ⟨b0, 0, none⟩) (nE g) c0, .slice (some ⟨b1, 0, none⟩) (nE g) c1, .slice (some ⟨b2, 0, none⟩) (nE g) c2] 39))) := Lib.hid (a1 _ _)
  have HLu := Lib.hid (fun W hW => Len_any g b0 c0 b1 c1 b2 c2 u hg W hW hu)
  have HLx := Lib.hid (fun W hW => Len_any g b0 c0 b1 c1 b2 c2 x hg W hW hx)
  have hlu := (tx hg hu).2.1
  have hlx := (tx hg hx).2.1
  have huu : ((u : Int) == (x : Int)) = false := beq_eq_false_iff_ne.2 (by omega)
  have h0 : x ≠ 0 := fun q => by rw [q, ln_zero hg] at hlt; omega
  have hls := (last_ok hg hx h0).2.1
  have hus := (tb hg hu hls).2.1
  have hxs := (tb hg hx hls).2.1
  have HLv := Lib.hid (fun W hW => Len_any g b0 c0 b1 c1 b2 c2 (rt g u (lastL g x)) hg W hW hus)
  have hlv := (tx hg hus).2.1
  obtain ⟨wa, wc0, q1, q2⟩ := h.p0 x hx
  have hlw : (wd g x).length = ln g x := rfl
  obtain ⟨_, _, e', hcap, _, q3⟩ := Nats.open q2
  cases e'
  rw [hlw] at q1 hcap q3
  obtain ⟨wq, wo, rfl, q4⟩ := q3 (ln g x - 1) (by omega)
  have HQ1 := Lib.hid (alloc_cell' (.cells #[.slice (some ⟨b0, 0, none⟩) (nE g) c0, .slice (some ⟨b1, 0, none⟩) (nE g) c1, .slice (some ⟨b2, 0, none⟩) (nE g) c2] 39) q1)
  have HQ4 : Hid ((w.alloc (.cells #[.slice (some ⟨b0, 0, none⟩) (nE g) c0, .slice (some ⟨b1, 0, none⟩) (nE g) c1, .slice (some ⟨b2, 0, none⟩) (nE g) c2] 39)).cell? ⟨wq, wo + (ln g x - 1), none⟩ = some (.int .i64 (lastL g x : Nat))) := Lib.hid (alloc_cell' _ q4)
  clear q1 q2 q3 q4 hlw
  generalize hsx : lastL g x = s at *
  generalize hux : rt g u s = us at *
  generalize hxx : rt g x s = xs at *
  have HUX := Lib.hid hux
  have HXX := Lib.hid hxx
  clear hsx hux hxx
  clear h
  have HLow := Lib.hid (fun W hW => Lower_any g b0 c0 b1 c1 b2 c2 x hg W hW hx)
  have HLE : Hid (lwF g (wd g x) u = true) := Lib.hid (by rw [lwF_lo hg _ x rfl hx u hu]; exact hlo)
  unfold rV at HLu HLx HLow HLv HI ⊢
  go_enter Try.func54, Try.ntmps54
  go_wp2_with fail
  generalize w.alloc (.cells #[.slice (some ⟨b0, 0, none⟩) (nE g) c0, .slice (some ⟨b1, 0, none⟩) (nE g) c1, .slice (some ⟨b2, 0, none⟩) (nE g) c2] 39) = wz at *
  refine wp_region_held_drew (S := fun W => RB W w.heap.size g b0 c0 b1 c1 b2 c2) (by kernel_rfl) (HR0.out.below (below_drew (Below.refl _ _))) (fun hS0 => ?_)
  have hBd : Below wz.heap.size wz wz.drew := below_drew (Below.refl _ _)
  refine tk0 (v := (.agg #[.slice (some ⟨b0, 0, none⟩) (nE g) c0, .slice (some ⟨b1, 0, none⟩) (nE g) c1, .slice (some ⟨b2, 0, none⟩) (nE g) c2])) (by kernel_rfl) (by kernel_rfl) (by kernel_rfl) (fun _ _ _ h => h) (Or.inl ⟨by kernel_rfl, (fun w' hSw => by have h0 := hSw.at.1; have h1 := hSw.at.2.1; have h2 := hSw.at.2.2; go_simp)⟩) hS0 ?_
  try simp only [Act.put, List.setIfInBounds_toArray, List.set_cons_zero, List.set_cons_succ]
  refine tk1 (v := (.int .i64 (u : Nat))) (by kernel_rfl) (by kernel_rfl) (by kernel_rfl) (fun _ _ _ h => h) (Or.inl ⟨by kernel_rfl, fun w' hSw => by go_simp⟩) hS0 ?_
  try simp only [Act.put, List.setIfInBounds_toArray, List.set_cons_zero, List.set_cons_succ]
  refine tk3 (v := (.agg #[.slice (some ⟨b0, 0, none⟩) (nE g) c0, .slice (some ⟨b1, 0, none⟩) (nE g) c1, .slice (some ⟨b2, 0, none⟩) (nE g) c2])) (by kernel_rfl) (by kernel_rfl) (by kernel_rfl) (fun _ _ _ h => h) (Or.inl ⟨by kernel_rfl, (fun w' hSw => by have h0 := hSw.at.1; have h1 := hSw.at.2.1; have h2 := hSw.at.2.2; go_simp)⟩) hS0 ?_
  try simp only [Act.put, List.setIfInBounds_toArray, List.set_cons_zero, List.set_cons_succ]
  refine tk4 (v := (.int .i64 (x : Nat))) (by kernel_rfl) (by kernel_rfl) (by kernel_rfl) (fun _ _ _ h => h) (Or.inl ⟨by kernel_rfl, fun w' hSw => by go_simp⟩) hS0 ?_
  try simp only [Act.put, List.setIfInBounds_toArray, List.set_cons_zero, List.set_cons_succ]
  refine wpAnyH_ready (rs := [2]) (by kernel_rfl) (by simp) (AllReadyH.cons rfl (fun K hK => ?_) AllReadyH.nil)
  rw [if_pos (by kernel_rfl)]
  go_simp
  refine (HLu.out _ hS0.rp).mono ?_
  rintro e wa ⟨rfl, hba⟩
  have hSa := hS0.below hba
  refine hK.out _ _ hSa fun _ => ?_
  clear hK
  refine wpAnyH_ready (rs := [5]) (by kernel_rfl) (by simp) (AllReadyH.cons rfl (fun K hK => ?_) AllReadyH.nil)
  rw [if_pos (by kernel_rfl)]
  go_simp
  refine (HLx.out _ hSa.rp).mono ?_
  rintro e wb ⟨rfl, hbb⟩
  have hSb := hSa.below hbb
  refine hK.out _ _ hSb fun _ => ?_
  clear hK
  have hBb : Below wz.heap.size wz wb := hBd.trans ((hba.mono hBd.size).trans (hbb.mono (Nat.le_trans hBd.size hba.size)))
  clear hba hbb hSa hS0 hBd
  refine tk6 (v := (.bool false)) (by kernel_rfl) (by kernel_rfl) (by kernel_rfl) (fun _ _ _ h => h) (Or.inl ⟨by kernel_rfl, fun w' hSw => by (first | (go_simp; done) | (simp [execOp]; go_simp; done) | (simp [execOp]; exact hlt))⟩) hSb ?_
  try simp only [Act.put, List.setIfInBounds_toArray, List.set_cons_zero, List.set_cons_succ]
  refine tk7 (v := (.bool false)) (by kernel_rfl) (by kernel_rfl) (by kernel_rfl) (fun _ _ _ h => h) (Or.inl ⟨by kernel_rfl, fun w' hSw => by go_simp⟩) hSb ?_
  try simp only [Act.put, List.setIfInBounds_toArray, List.set_cons_zero, List.set_cons_succ]
  refine tk8 (v := (.agg #[.slice (some ⟨b0, 0, none⟩) (nE g) c0, .slice (some ⟨b1, 0, none⟩) (nE g) c1, .slice (some ⟨b2, 0, none⟩) (nE g) c2])) (by kernel_rfl) (by kernel_rfl) (by kernel_rfl) (fun _ _ _ h => h) (Or.inl ⟨by kernel_rfl, (fun w' hSw => by have h0 := hSw.at.1; have h1 := hSw.at.2.1; have h2 := hSw.at.2.2; go_simp)⟩) hSb ?_
  try simp only [Act.put, List.setIfInBounds_toArray, List.set_cons_zero, List.set_cons_succ]
  refine tk9 (v := (.int .i64 (x : Nat))) (by kernel_rfl) (by kernel_rfl) (by kernel_rfl) (fun _ _ _ h => h) (Or.inl ⟨by kernel_rfl, fun w' hSw => by go_simp⟩) hSb ?_
  try simp only [Act.put, List.setIfInBounds_toArray, List.set_cons_zero, List.set_cons_succ]
  refine tk11 (v := (.int .i64 (u : Nat))) (by kernel_rfl) (by kernel_rfl) (by kernel_rfl) (fun _ _ _ h => h) (Or.inl ⟨by kernel_rfl, fun w' hSw => by go_simp⟩) hSb ?_
  try simp only [Act.put, List.setIfInBounds_toArray, List.set_cons_zero, List.set_cons_succ]
  refine wpAnyH_ready (rs := [10]) (by kernel_rfl) (by simp) (AllReadyH.cons rfl (fun K hK => ?_) AllReadyH.nil)
  rw [if_pos (by kernel_rfl)]
  go_simp
  refine (HLow.out _ hSb.rp).mono ?_
  rintro e wc ⟨ob, oc, rfl, hO, hbc⟩
  have hSc := hSb.below hbc
  have hoc := hO.capOk
  have HOc : Hid (wc.cell? ⟨ob, u, none⟩ = some (.bool true)) := Lib.hid (by rw [hO.cell hu, HLE.out])
  clear hO
  refine hK.out _ _ hSc fun _ => ?_
  clear hK
  refine heldH_weak (T := fun W => RB W w.heap.size g b0 c0 b1 c1 b2 c2 ∧ W.cell? ⟨ob, u, none⟩ = some (.bool true)) (fun v hv => hv.1) _ _ _ _ ?_
  have hS1 : RB wc w.heap.size g b0 c0 b1 c1 b2 c2 ∧ wc.cell? ⟨ob, u, none⟩ = some (.bool true) := ⟨hSc, HOc.out⟩
  refine tk12 (v := (.pointer (some ⟨ob, u, none⟩))) (by kernel_rfl) (by kernel_rfl) (by kernel_rfl) (fun _ _ _ h => h) (Or.inl ⟨by kernel_rfl, fun w' hSw => by go_simp⟩) hS1 ?_
  try simp only [Act.put, List.setIfInBounds_toArray, List.set_cons_zero, List.set_cons_succ]
  refine tk13 (v := (.bool true)) (by kernel_rfl) (by kernel_rfl) (by kernel_rfl) (fun _ _ _ h => h) (Or.inl ⟨by kernel_rfl, fun w' hSw => by (have h0 := hSw.2; go_simp)⟩) hS1 ?_
  try simp only [Act.put, List.setIfInBounds_toArray, List.set_cons_zero, List.set_cons_succ]
  refine tk14 (v := (.bool false)) (by kernel_rfl) (by kernel_rfl) (by kernel_rfl) (fun _ _ _ h => h) (Or.inl ⟨by kernel_rfl, fun w' hSw => by go_simp⟩) hS1 ?_
  try simp only [Act.put, List.setIfInBounds_toArray, List.set_cons_zero, List.set_cons_succ]
  refine tk15 (v := (.bool false)) (by kernel_rfl) (by kernel_rfl) (by kernel_rfl) (fun _ _ _ h => h) (Or.inl ⟨by kernel_rfl, fun w' hSw => by go_simp⟩) hS1 ?_
  try simp only [Act.put, List.setIfInBounds_toArray, List.set_cons_zero, List.set_cons_succ]
  refine wpAnyH_done (by kernel_rfl) ?_ _
  have HBc : Hid (Below w.heap.size w wc) := Lib.hid (HB0.out.trans ((hBb.trans (hbc.mono hBb.size)).mono HB0.out.size))
  have HRc := Lib.hid hSc
  have HZc : Hid (Below wz.heap.size wz wc) := Lib.hid (hBb.trans (hbc.mono hBb.size))
  clear hS1 HOc hoc hBb hbc hSb hSc HB0 HR0 HLow HLE
  have HQc1 := Lib.hid (ck HQ1.out HZc.out)
  have HQc4 := Lib.hid (ck HQ4.out HZc.out)
  clear HQ1 HQ4 HZc
  have hwr : IntKind.i64.wrap ((ln g x : Nat) : Int) = (ln g x : Nat) := IntWalk.i64_in _ (by omega)
  obtain ⟨k, hk⟩ : ∃ k, ln g x = k + 1 := ⟨ln g x - 1, by omega⟩
  have hk1 : ((ln g x : Nat) : Int) - 1 = (k : Nat) := by omega
  have hwk : IntKind.i64.wrap (k : Int) = (k : Nat) := IntWalk.i64_in _ (by omega)
  have hkk : ln g x - 1 = k := by omega
  rw [hkk] at HQc4
  have hkl : k < ln g x := by omega
  go_wp2_with fail
  refine wp_region_held_drew (S := fun W => RB W w.heap.size g b0 c0 b1 c1 b2 c2 ∧ W.cell? ⟨b0, x, none⟩ = some (.slice (some ⟨wq, wo, none⟩) (ln g x) wc0) ∧ W.cell? ⟨wq, wo + k, none⟩ = some (.int .i64 (s : Nat))) (by kernel_rfl) (⟨HRc.out.below (below_drew (Below.refl _ _)), ck HQc1.out (below_drew (Below.refl _ _)), ck HQc4.out (below_drew (Below.refl _ _))⟩) (fun hS0 => ?_)
  have hBd : Below wc.heap.size wc wc.drew := below_drew (Below.refl _ _)
  refine tk0 (v := (.pointer (some ⟨w.heap.size, 0, none⟩))) (by kernel_rfl) (by kernel_rfl) (by kernel_rfl) (fun _ _ _ h => h) (Or.inl ⟨by kernel_rfl, fun w' hSw => by go_simp⟩) hS0 ?_
  try simp only [Act.put, List.setIfInBounds_toArray, List.set_cons_zero, List.set_cons_succ]
  refine tk1 (v := (.slice (some ⟨b0, 0, none⟩) (nE g) c0)) (by kernel_rfl) (by kernel_rfl) (by kernel_rfl) (fun _ _ _ h => h) (Or.inl ⟨by kernel_rfl, fun w' hSw => by (have h0 := hSw.1.at.1; have h1 := hSw.1.at.2.1; have h2 := hSw.1.at.2.2; go_simp)⟩) hS0 ?_
  try simp only [Act.put, List.setIfInBounds_toArray, List.set_cons_zero, List.set_cons_succ]
  refine tk2 (v := (.int .i64 (x : Nat))) (by kernel_rfl) (by kernel_rfl) (by kernel_rfl) (fun _ _ _ h => h) (Or.inl ⟨by kernel_rfl, fun w' hSw => by go_simp⟩) hS0 ?_
  try simp only [Act.put, List.setIfInBounds_toArray, List.set_cons_zero, List.set_cons_succ]
  refine tk3 (v := (.pointer (some ⟨b0, x, none⟩))) (by kernel_rfl) (by kernel_rfl) (by kernel_rfl) (fun _ _ _ h => h) (Or.inl ⟨by kernel_rfl, fun w' hSw => by go_simp⟩) hS0 ?_
  try simp only [Act.put, List.setIfInBounds_toArray, List.set_cons_zero, List.set_cons_succ]
  refine tk4 (v := (.slice (some ⟨wq, wo, none⟩) (ln g x) wc0)) (by kernel_rfl) (by kernel_rfl) (by kernel_rfl) (fun _ _ _ h => h) (Or.inl ⟨by kernel_rfl, fun w' hSw => by (have h0 := hSw.2.1; go_simp)⟩) hS0 ?_
  try simp only [Act.put, List.setIfInBounds_toArray, List.set_cons_zero, List.set_cons_succ]
  refine tk5 (v := (.agg #[.slice (some ⟨b0, 0, none⟩) (nE g) c0, .slice (some ⟨b1, 0, none⟩) (nE g) c1, .slice (some ⟨b2, 0, none⟩) (nE g) c2])) (by kernel_rfl) (by kernel_rfl) (by kernel_rfl) (fun _ _ _ h => h) (Or.inl ⟨by kernel_rfl, fun w' hSw => by (have h0 := hSw.1.at.1; have h1 := hSw.1.at.2.1; have h2 := hSw.1.at.2.2; go_simp)⟩) hS0 ?_
  try simp only [Act.put, List.setIfInBounds_toArray, List.set_cons_zero, List.set_cons_succ]
  refine tk6 (v := (.int .i64 (x : Nat))) (by kernel_rfl) (by kernel_rfl) (by kernel_rfl) (fun _ _ _ h => h) (Or.inl ⟨by kernel_rfl, fun w' hSw => by go_simp⟩) hS0 ?_
  try simp only [Act.put, List.setIfInBounds_toArray, List.set_cons_zero, List.set_cons_succ]
  refine wpAnyH_ready (rs := [7]) (by kernel_rfl) (by simp) (AllReadyH.cons rfl (fun K hK => ?_) AllReadyH.nil)
  rw [if_pos (by kernel_rfl)]
  go_simp
  refine (HLx.out _ hS0.1.rp).mono ?_
  rintro e wa ⟨rfl, hba⟩
  have hSa := And.intro (hS0.1.below hba) (And.intro (ck hS0.2.1 hba) (ck hS0.2.2 hba))
  refine hK.out _ _ hSa fun _ => ?_
  clear hK
  refine tk8 (v := (.int .i64 (k : Nat))) (by kernel_rfl) (by kernel_rfl) (by kernel_rfl) (fun _ _ _ h => h) (Or.inl ⟨by kernel_rfl, fun w' hSw => by (first | (go_simp; done) | (go_simp; simp [hk1, hwk]; done) | (simp [execOp, hk1, hwk]; go_simp; done))⟩) hSa ?_
  try simp only [Act.put, List.setIfInBounds_toArray, List.set_cons_zero, List.set_cons_succ]
  refine tk9 (v := (.pointer (some ⟨wq, wo + k, none⟩))) (by kernel_rfl) (by kernel_rfl) (by kernel_rfl) (fun _ _ _ h => h) (Or.inl ⟨by kernel_rfl, fun w' hSw => by (go_simp; first | done | (intro hh; omega))⟩) hSa ?_
  try simp only [Act.put, List.setIfInBounds_toArray, List.set_cons_zero, List.set_cons_succ]
  refine tk10 (v := (.int .i64 (s : Nat))) (by kernel_rfl) (by kernel_rfl) (by kernel_rfl) (fun _ _ _ h => h) (Or.inl ⟨by kernel_rfl, fun w' hSw => by (have h0 := hSw.2.2; go_simp)⟩) hSa ?_
  try simp only [Act.put, List.setIfInBounds_toArray, List.set_cons_zero, List.set_cons_succ]
  refine tk11 (v := (.int .i64 (s : Nat))) (by kernel_rfl) (by kernel_rfl) (by kernel_rfl) (fun _ _ _ h => h) (Or.inl ⟨by kernel_rfl, fun w' hSw => by go_simp⟩) hSa ?_
  try simp only [Act.put, List.setIfInBounds_toArray, List.set_cons_zero, List.set_cons_succ]
  refine wpAnyH_done (by kernel_rfl) ?_ _
  have HBd : Hid (Below w.heap.size w wa) := Lib.hid (HBc.out.trans ((hBd.trans (hba.mono hBd.size)).mono HBc.out.size))
  have HRd := Lib.hid hSa.1
  clear hSa hS0 hBd hba HBc HRc HQc1 HQc4 hwr hk1 hwk hkk hkl
  have t2 := HRd.out.at.2.2
  obtain ⟨uq, uo, uc, u1, u4⟩ := HRd.out.rp.next hu hls
  obtain ⟨xq, xo, xc, x1, x4⟩ := HRd.out.rp.next hx hls
  rw [HUX.out] at u4
  rw [HXX.out] at x4
  go_wp2_with fail
  go_quiet (fail)
  have HBe : Hid (Below w.heap.size w (wa.drewN nq)) := Lib.hid (below_drewN HBd.out nq)
  have HRe := Lib.hid (HRd.out.below (below_drewN (Below.refl _ _) nq))
  clear HBd HRd t2 u1 u4 x1 x4
  generalize wa.drewN nq = we at *
  go_wp2_with fail
  refine wp_region_held_drew (S := fun W => RB W w.heap.size g b0 c0 b1 c1 b2 c2) (by kernel_rfl) (HRe.out.below (below_drew (Below.refl _ _))) (fun hS0 => ?_)
  have hBd : Below we.heap.size we we.drew := below_drew (Below.refl _ _)
  refine tk0 (v := (.agg #[.slice (some ⟨b0, 0, none⟩) (nE g) c0, .slice (some ⟨b1, 0, none⟩) (nE g) c1, .slice (some ⟨b2, 0, none⟩) (nE g) c2])) (by kernel_rfl) (by kernel_rfl) (by kernel_rfl) (fun _ _ _ h => h) (Or.inl ⟨by kernel_rfl, (fun w' hSw => by have h0 := hSw.at.1; have h1 := hSw.at.2.1; have h2 := hSw.at.2.2; go_simp)⟩) hS0 ?_
  try simp only [Act.put, List.setIfInBounds_toArray, List.set_cons_zero, List.set_cons_succ]
  refine tk1 (v := (.int .i64 (us : Nat))) (by kernel_rfl) (by kernel_rfl) (by kernel_rfl) (fun _ _ _ h => h) (Or.inl ⟨by kernel_rfl, fun w' hSw => by go_simp⟩) hS0 ?_
  try simp only [Act.put, List.setIfInBounds_toArray, List.set_cons_zero, List.set_cons_succ]
  refine tk3 (v := (.agg #[.slice (some ⟨b0, 0, none⟩) (nE g) c0, .slice (some ⟨b1, 0, none⟩) (nE g) c1, .slice (some ⟨b2, 0, none⟩) (nE g) c2])) (by kernel_rfl) (by kernel_rfl) (by kernel_rfl) (fun _ _ _ h => h) (Or.inl ⟨by kernel_rfl, (fun w' hSw => by have h0 := hSw.at.1; have h1 := hSw.at.2.1; have h2 := hSw.at.2.2; go_simp)⟩) hS0 ?_
  try simp only [Act.put, List.setIfInBounds_toArray, List.set_cons_zero, List.set_cons_succ]
  refine tk4 (v := (.int .i64 (u : Nat))) (by kernel_rfl) (by kernel_rfl) (by kernel_rfl) (fun _ _ _ h => h) (Or.inl ⟨by kernel_rfl, fun w' hSw => by go_simp⟩) hS0 ?_
  try simp only [Act.put, List.setIfInBounds_toArray, List.set_cons_zero, List.set_cons_succ]
  refine wpAnyH_ready (rs := [2]) (by kernel_rfl) (by simp) (AllReadyH.cons rfl (fun K hK => ?_) AllReadyH.nil)
  rw [if_pos (by kernel_rfl)]
  go_simp
  refine (HLv.out _ hS0.rp).mono ?_
  rintro e wa ⟨rfl, hba⟩
  have hSa := hS0.below hba
  refine hK.out _ _ hSa fun _ => ?_
  clear hK
  refine wpAnyH_ready (rs := [5]) (by kernel_rfl) (by simp) (AllReadyH.cons rfl (fun K hK => ?_) AllReadyH.nil)
  rw [if_pos (by kernel_rfl)]
  go_simp
  refine (HLu.out _ hSa.rp).mono ?_
  rintro e wb ⟨rfl, hbb⟩
  have hSb := hSa.below hbb
  refine hK.out _ _ hSb fun _ => ?_
  clear hK
  refine tk6 (v := (.bool true)) (by kernel_rfl) (by kernel_rfl) (by kernel_rfl) (fun _ _ _ h => h) (Or.inl ⟨by kernel_rfl, fun w' hSw => by (first | (go_simp; done) | (simp [execOp]; go_simp; done) | (simp [execOp]; omega))⟩) hSb ?_
  try simp only [Act.put, List.setIfInBounds_toArray, List.set_cons_zero, List.set_cons_succ]
  refine wpAnyH_done (by kernel_rfl) ?_ _
  have HBf : Hid (Below w.heap.size w wb) := Lib.hid (HBe.out.trans ((hBd.trans ((hba.mono hBd.size).trans (hbb.mono (Nat.le_trans hBd.size hba.size)))).mono HBe.out.size))
  have HRf := Lib.hid hSb
  clear hS0 hSa hSb hBd hba hbb HBe HRe HLv HLu HLx
  have t0 := HRf.out.at.1
  have t1 := HRf.out.at.2.1
  have t2 := HRf.out.at.2.2
  go_wp2_with fail
  refine (HI.out _ HRf.out.rp).mono ?_
  rintro e w9 ⟨a9, c9, rfl, hi9, hb9⟩
  clear t0 t1 t2
  go_wp2_with fail
  go_ret
  exact ⟨_, _, rfl, hi9, HBf.out.trans (hb9.mono HBf.out.size)⟩

set_option maxRecDepth 20000 in
set_option maxHeartbeats 2000000 in
theorem RR_step (g b0 c0 b1 c1 b2 c2 u x : Nat) (hg : g < 17) (h3 : g ≠ 3) (w : World) (h : RP w g b0 b1 b2) (hu : u < nE g) (hx : x < nE g) (e0 : u ≠ x) (hlt : ln g u < ln g x) (hlo : loB g u x = true) (hf : ¬ ln g (rt g u (lastL g x)) < ln g u) (hI : ∀ W, RP W g b0 b1 b2 → Calls Try.prog 54 #[rV g b0 c0 b1 c1 b2 c2, .int .i64 (rt g u (lastL g x) : Nat), .int .i64 (rt g x (lastL g x) : Nat)] W fun e w' => ∃ a c, e = .returned (.slice a (dR g (rt g u (lastL g x)) (rt g x (lastL g x))).length c) ∧ Ints w' (.slice a (dR g (rt g u (lastL g x)) (rt g x (lastL g x))).length c) (dR g (rt g u (lastL g x)) (rt g x (lastL g x))) ∧ Below W.heap.size W w') (hJ : ∀ W, RP W g b0 b1 b2 → Calls Try.prog 54 #[rV g b0 c0 b1 c1 b2 c2, .int .i64 (u : Nat), .int .i64 (rt g x (lastL g x) : Nat)] W fun e w' => ∃ a c, e = .returned (.slice a (dR g (u) (rt g x (lastL g x))).length c) ∧ Ints w' (.slice a (dR g (u) (rt g x (lastL g x))).length c) (dR g (u) (rt g x (lastL g x))) ∧ Below W.heap.size W w') :
    Calls Try.prog 54 #[rV g b0 c0 b1 c1 b2 c2, .int .i64 u, .int .i64 x] w fun e w' => ∃ a c, e = .returned (.slice a (dR g u x).length c) ∧ Ints w' (.slice a (dR g u x).length c) (dR g u x) ∧ Below w.heap.size w w' := by
  rw [(dR_step hg h3 hu hx e0 hlt hf).2]
  have HI := Lib.hid hI
  have HJ := Lib.hid hJ
  clear hI hJ
  have HR0 := Lib.hid (h.box c0 c1 c2)
  have HB0 : Hid (Below w.heap.size w (w.alloc (.cells #[.slice (some ⟨b0, 0, none⟩) (nE g) c0, .slice (some ⟨b1, 0, none⟩) (nE g) c1, .slice (some ⟨b2, 0, none⟩) (nE g) c2] 39))) := Lib.hid (a1 _ _)
  have HLu := Lib.hid (fun W hW => Len_any g b0 c0 b1 c1 b2 c2 u hg W hW hu)
  have HLx := Lib.hid (fun W hW => Len_any g b0 c0 b1 c1 b2 c2 x hg W hW hx)
  have hlu := (tx hg hu).2.1
  have hlx := (tx hg hx).2.1
  have huu : ((u : Int) == (x : Int)) = false := beq_eq_false_iff_ne.2 (by omega)
  have h0 : x ≠ 0 := fun q => by rw [q, ln_zero hg] at hlt; omega
  have hls := (last_ok hg hx h0).2.1
  have hus := (tb hg hu hls).2.1
  have hxs := (tb hg hx hls).2.1
  have HLv := Lib.hid (fun W hW => Len_any g b0 c0 b1 c1 b2 c2 (rt g u (lastL g x)) hg W hW hus)
  have hlv := (tx hg hus).2.1
  obtain ⟨wa, wc0, q1, q2⟩ := h.p0 x hx
  have hlw : (wd g x).length = ln g x := rfl
  obtain ⟨_, _, e', hcap, _, q3⟩ := Nats.open q2
  cases e'
  rw [hlw] at q1 hcap q3
  obtain ⟨wq, wo, rfl, q4⟩ := q3 (ln g x - 1) (by omega)
  have HQ1 := Lib.hid (alloc_cell' (.cells #[.slice (some ⟨b0, 0, none⟩) (nE g) c0, .slice (some ⟨b1, 0, none⟩) (nE g) c1, .slice (some ⟨b2, 0, none⟩) (nE g) c2] 39) q1)
  have HQ4 : Hid ((w.alloc (.cells #[.slice (some ⟨b0, 0, none⟩) (nE g) c0, .slice (some ⟨b1, 0, none⟩) (nE g) c1, .slice (some ⟨b2, 0, none⟩) (nE g) c2] 39)).cell? ⟨wq, wo + (ln g x - 1), none⟩ = some (.int .i64 (lastL g x : Nat))) := Lib.hid (alloc_cell' _ q4)
  clear q1 q2 q3 q4 hlw
  have hA13 := dR_len g u (rt g x (lastL g x))
  have hF13 := dR_len g (rt g u (lastL g x)) (rt g x (lastL g x))
  have HbA := Lib.hid (dR_bd hg h3 hu hxs)
  have HbF := Lib.hid (dR_bd hg h3 hus hxs)
  generalize hsx : lastL g x = s at *
  generalize hux : rt g u s = us at *
  generalize hxx : rt g x s = xs at *
  have HUX := Lib.hid hux
  have HXX := Lib.hid hxx
  clear hsx hux hxx
  generalize dR g us xs = FF at *
  generalize dR g u xs = AA at *
  have HA1 : Hid (∀ v W, Ints W v AA → Calls Try.prog 88 #[.slice none 0 0, v, .int .i64 (-1), .int .i64 0] W fun e w' => ∃ a c, e = .returned (.slice a (addL [] AA (-1) 0).length c) ∧ Ints w' (.slice a (addL [] AA (-1) 0).length c) (addL [] AA (-1) 0) ∧ Below W.heap.size W w') :=
    Lib.hid (fun v W h => add_any _ v [] AA W (ints_none W) h (by simp) (by omega) (by intro c hc; simp at hc) (HbA.out.mono (by omega)) (-1) (by omega) 0 (by omega))
  have hl1 : (addL [] AA (-1) 0).length ≤ 13 := addL_len (by simp) (by omega)
  have hd1 : Bnd 8 (addL [] AA (-1) 0) := (addL_bd (M := 0) (T := 1) 0 (by intro c hc; simp at hc) HbA.out (by omega)).mono (by omega)
  have HA2 : Hid (∀ v v' W, Ints W v (addL [] AA (-1) 0) → Ints W v' AA → Calls Try.prog 88 #[v, v', .int .i64 1, .int .i64 1] W fun e w' => ∃ a c, e = .returned (.slice a (addL (addL [] AA (-1) 0) AA 1 1).length c) ∧ Ints w' (.slice a (addL (addL [] AA (-1) 0) AA 1 1).length c) (addL (addL [] AA (-1) 0) AA 1 1) ∧ Below W.heap.size W w') :=
    Lib.hid (fun v v' W h h' => add_any v v' _ AA W h h' (by omega) (by omega) (hd1.mono (by omega)) (HbA.out.mono (by omega)) 1 (by omega) 1 (by omega))
  have hl2 : (addL (addL [] AA (-1) 0) AA 1 1).length ≤ 14 := addL_len (by omega) (by omega)
  have hd2 : Bnd 16 (addL (addL [] AA (-1) 0) AA 1 1) := (addL_bd (T := 1) 1 hd1 HbA.out (by omega)).mono (by omega)
  have HA3 : Hid (∀ v v' W, Ints W v (addL (addL [] AA (-1) 0) AA 1 1) → Ints W v' FF → Calls Try.prog 88 #[v, v', .int .i64 1, .int .i64 1] W fun e w' => ∃ a c, e = .returned (.slice a (rStepR FF AA).length c) ∧ Ints w' (.slice a (rStepR FF AA).length c) (rStepR FF AA) ∧ Below W.heap.size W w') :=
    Lib.hid (fun v v' W h h' => add_any v v' _ FF W h h' (by omega) (by omega) (hd2.mono (by omega)) (HbF.out.mono (by omega)) 1 (by omega) 1 (by omega))
  clear hd1 hd2 hl1 hl2 HbA HbF
  generalize addL (addL [] AA (-1) 0) AA 1 1 = A2 at *
  generalize addL [] AA (-1) 0 = A1 at *
  generalize rStepR FF AA = A3 at *
  clear h
  have HLow := Lib.hid (fun W hW => Lower_any g b0 c0 b1 c1 b2 c2 x hg W hW hx)
  have HLE : Hid (lwF g (wd g x) u = true) := Lib.hid (by rw [lwF_lo hg _ x rfl hx u hu]; exact hlo)
  unfold rV at HLu HLx HLow HLv HI HJ ⊢
  go_enter Try.func54, Try.ntmps54
  go_wp2_with fail
  generalize w.alloc (.cells #[.slice (some ⟨b0, 0, none⟩) (nE g) c0, .slice (some ⟨b1, 0, none⟩) (nE g) c1, .slice (some ⟨b2, 0, none⟩) (nE g) c2] 39) = wz at *
  refine wp_region_held_drew (S := fun W => RB W w.heap.size g b0 c0 b1 c1 b2 c2) (by kernel_rfl) (HR0.out.below (below_drew (Below.refl _ _))) (fun hS0 => ?_)
  have hBd : Below wz.heap.size wz wz.drew := below_drew (Below.refl _ _)
  refine tk0 (v := (.agg #[.slice (some ⟨b0, 0, none⟩) (nE g) c0, .slice (some ⟨b1, 0, none⟩) (nE g) c1, .slice (some ⟨b2, 0, none⟩) (nE g) c2])) (by kernel_rfl) (by kernel_rfl) (by kernel_rfl) (fun _ _ _ h => h) (Or.inl ⟨by kernel_rfl, (fun w' hSw => by have h0 := hSw.at.1; have h1 := hSw.at.2.1; have h2 := hSw.at.2.2; go_simp)⟩) hS0 ?_
  try simp only [Act.put, List.setIfInBounds_toArray, List.set_cons_zero, List.set_cons_succ]
  refine tk1 (v := (.int .i64 (u : Nat))) (by kernel_rfl) (by kernel_rfl) (by kernel_rfl) (fun _ _ _ h => h) (Or.inl ⟨by kernel_rfl, fun w' hSw => by go_simp⟩) hS0 ?_
  try simp only [Act.put, List.setIfInBounds_toArray, List.set_cons_zero, List.set_cons_succ]
  refine tk3 (v := (.agg #[.slice (some ⟨b0, 0, none⟩) (nE g) c0, .slice (some ⟨b1, 0, none⟩) (nE g) c1, .slice (some ⟨b2, 0, none⟩) (nE g) c2])) (by kernel_rfl) (by kernel_rfl) (by kernel_rfl) (fun _ _ _ h => h) (Or.inl ⟨by kernel_rfl, (fun w' hSw => by have h0 := hSw.at.1; have h1 := hSw.at.2.1; have h2 := hSw.at.2.2; go_simp)⟩) hS0 ?_
  try simp only [Act.put, List.setIfInBounds_toArray, List.set_cons_zero, List.set_cons_succ]
  refine tk4 (v := (.int .i64 (x : Nat))) (by kernel_rfl) (by kernel_rfl) (by kernel_rfl) (fun _ _ _ h => h) (Or.inl ⟨by kernel_rfl, fun w' hSw => by go_simp⟩) hS0 ?_
  try simp only [Act.put, List.setIfInBounds_toArray, List.set_cons_zero, List.set_cons_succ]
  refine wpAnyH_ready (rs := [2]) (by kernel_rfl) (by simp) (AllReadyH.cons rfl (fun K hK => ?_) AllReadyH.nil)
  rw [if_pos (by kernel_rfl)]
  go_simp
  refine (HLu.out _ hS0.rp).mono ?_
  rintro e wa ⟨rfl, hba⟩
  have hSa := hS0.below hba
  refine hK.out _ _ hSa fun _ => ?_
  clear hK
  refine wpAnyH_ready (rs := [5]) (by kernel_rfl) (by simp) (AllReadyH.cons rfl (fun K hK => ?_) AllReadyH.nil)
  rw [if_pos (by kernel_rfl)]
  go_simp
  refine (HLx.out _ hSa.rp).mono ?_
  rintro e wb ⟨rfl, hbb⟩
  have hSb := hSa.below hbb
  refine hK.out _ _ hSb fun _ => ?_
  clear hK
  have hBb : Below wz.heap.size wz wb := hBd.trans ((hba.mono hBd.size).trans (hbb.mono (Nat.le_trans hBd.size hba.size)))
  clear hba hbb hSa hS0 hBd
  refine tk6 (v := (.bool false)) (by kernel_rfl) (by kernel_rfl) (by kernel_rfl) (fun _ _ _ h => h) (Or.inl ⟨by kernel_rfl, fun w' hSw => by (first | (go_simp; done) | (simp [execOp]; go_simp; done) | (simp [execOp]; exact hlt))⟩) hSb ?_
  try simp only [Act.put, List.setIfInBounds_toArray, List.set_cons_zero, List.set_cons_succ]
  refine tk7 (v := (.bool false)) (by kernel_rfl) (by kernel_rfl) (by kernel_rfl) (fun _ _ _ h => h) (Or.inl ⟨by kernel_rfl, fun w' hSw => by go_simp⟩) hSb ?_
  try simp only [Act.put, List.setIfInBounds_toArray, List.set_cons_zero, List.set_cons_succ]
  refine tk8 (v := (.agg #[.slice (some ⟨b0, 0, none⟩) (nE g) c0, .slice (some ⟨b1, 0, none⟩) (nE g) c1, .slice (some ⟨b2, 0, none⟩) (nE g) c2])) (by kernel_rfl) (by kernel_rfl) (by kernel_rfl) (fun _ _ _ h => h) (Or.inl ⟨by kernel_rfl, (fun w' hSw => by have h0 := hSw.at.1; have h1 := hSw.at.2.1; have h2 := hSw.at.2.2; go_simp)⟩) hSb ?_
  try simp only [Act.put, List.setIfInBounds_toArray, List.set_cons_zero, List.set_cons_succ]
  refine tk9 (v := (.int .i64 (x : Nat))) (by kernel_rfl) (by kernel_rfl) (by kernel_rfl) (fun _ _ _ h => h) (Or.inl ⟨by kernel_rfl, fun w' hSw => by go_simp⟩) hSb ?_
  try simp only [Act.put, List.setIfInBounds_toArray, List.set_cons_zero, List.set_cons_succ]
  refine tk11 (v := (.int .i64 (u : Nat))) (by kernel_rfl) (by kernel_rfl) (by kernel_rfl) (fun _ _ _ h => h) (Or.inl ⟨by kernel_rfl, fun w' hSw => by go_simp⟩) hSb ?_
  try simp only [Act.put, List.setIfInBounds_toArray, List.set_cons_zero, List.set_cons_succ]
  refine wpAnyH_ready (rs := [10]) (by kernel_rfl) (by simp) (AllReadyH.cons rfl (fun K hK => ?_) AllReadyH.nil)
  rw [if_pos (by kernel_rfl)]
  go_simp
  refine (HLow.out _ hSb.rp).mono ?_
  rintro e wc ⟨ob, oc, rfl, hO, hbc⟩
  have hSc := hSb.below hbc
  have hoc := hO.capOk
  have HOc : Hid (wc.cell? ⟨ob, u, none⟩ = some (.bool true)) := Lib.hid (by rw [hO.cell hu, HLE.out])
  clear hO
  refine hK.out _ _ hSc fun _ => ?_
  clear hK
  refine heldH_weak (T := fun W => RB W w.heap.size g b0 c0 b1 c1 b2 c2 ∧ W.cell? ⟨ob, u, none⟩ = some (.bool true)) (fun v hv => hv.1) _ _ _ _ ?_
  have hS1 : RB wc w.heap.size g b0 c0 b1 c1 b2 c2 ∧ wc.cell? ⟨ob, u, none⟩ = some (.bool true) := ⟨hSc, HOc.out⟩
  refine tk12 (v := (.pointer (some ⟨ob, u, none⟩))) (by kernel_rfl) (by kernel_rfl) (by kernel_rfl) (fun _ _ _ h => h) (Or.inl ⟨by kernel_rfl, fun w' hSw => by go_simp⟩) hS1 ?_
  try simp only [Act.put, List.setIfInBounds_toArray, List.set_cons_zero, List.set_cons_succ]
  refine tk13 (v := (.bool true)) (by kernel_rfl) (by kernel_rfl) (by kernel_rfl) (fun _ _ _ h => h) (Or.inl ⟨by kernel_rfl, fun w' hSw => by (have h0 := hSw.2; go_simp)⟩) hS1 ?_
  try simp only [Act.put, List.setIfInBounds_toArray, List.set_cons_zero, List.set_cons_succ]
  refine tk14 (v := (.bool false)) (by kernel_rfl) (by kernel_rfl) (by kernel_rfl) (fun _ _ _ h => h) (Or.inl ⟨by kernel_rfl, fun w' hSw => by go_simp⟩) hS1 ?_
  try simp only [Act.put, List.setIfInBounds_toArray, List.set_cons_zero, List.set_cons_succ]
  refine tk15 (v := (.bool false)) (by kernel_rfl) (by kernel_rfl) (by kernel_rfl) (fun _ _ _ h => h) (Or.inl ⟨by kernel_rfl, fun w' hSw => by go_simp⟩) hS1 ?_
  try simp only [Act.put, List.setIfInBounds_toArray, List.set_cons_zero, List.set_cons_succ]
  refine wpAnyH_done (by kernel_rfl) ?_ _
  have HBc : Hid (Below w.heap.size w wc) := Lib.hid (HB0.out.trans ((hBb.trans (hbc.mono hBb.size)).mono HB0.out.size))
  have HRc := Lib.hid hSc
  have HZc : Hid (Below wz.heap.size wz wc) := Lib.hid (hBb.trans (hbc.mono hBb.size))
  clear hS1 HOc hoc hBb hbc hSb hSc HB0 HR0 HLow HLE
  have HQc1 := Lib.hid (ck HQ1.out HZc.out)
  have HQc4 := Lib.hid (ck HQ4.out HZc.out)
  clear HQ1 HQ4 HZc
  have hwr : IntKind.i64.wrap ((ln g x : Nat) : Int) = (ln g x : Nat) := IntWalk.i64_in _ (by omega)
  obtain ⟨k, hk⟩ : ∃ k, ln g x = k + 1 := ⟨ln g x - 1, by omega⟩
  have hk1 : ((ln g x : Nat) : Int) - 1 = (k : Nat) := by omega
  have hwk : IntKind.i64.wrap (k : Int) = (k : Nat) := IntWalk.i64_in _ (by omega)
  have hkk : ln g x - 1 = k := by omega
  rw [hkk] at HQc4
  have hkl : k < ln g x := by omega
  go_wp2_with fail
  refine wp_region_held_drew (S := fun W => RB W w.heap.size g b0 c0 b1 c1 b2 c2 ∧ W.cell? ⟨b0, x, none⟩ = some (.slice (some ⟨wq, wo, none⟩) (ln g x) wc0) ∧ W.cell? ⟨wq, wo + k, none⟩ = some (.int .i64 (s : Nat))) (by kernel_rfl) (⟨HRc.out.below (below_drew (Below.refl _ _)), ck HQc1.out (below_drew (Below.refl _ _)), ck HQc4.out (below_drew (Below.refl _ _))⟩) (fun hS0 => ?_)
  have hBd : Below wc.heap.size wc wc.drew := below_drew (Below.refl _ _)
  refine tk0 (v := (.pointer (some ⟨w.heap.size, 0, none⟩))) (by kernel_rfl) (by kernel_rfl) (by kernel_rfl) (fun _ _ _ h => h) (Or.inl ⟨by kernel_rfl, fun w' hSw => by go_simp⟩) hS0 ?_
  try simp only [Act.put, List.setIfInBounds_toArray, List.set_cons_zero, List.set_cons_succ]
  refine tk1 (v := (.slice (some ⟨b0, 0, none⟩) (nE g) c0)) (by kernel_rfl) (by kernel_rfl) (by kernel_rfl) (fun _ _ _ h => h) (Or.inl ⟨by kernel_rfl, fun w' hSw => by (have h0 := hSw.1.at.1; have h1 := hSw.1.at.2.1; have h2 := hSw.1.at.2.2; go_simp)⟩) hS0 ?_
  try simp only [Act.put, List.setIfInBounds_toArray, List.set_cons_zero, List.set_cons_succ]
  refine tk2 (v := (.int .i64 (x : Nat))) (by kernel_rfl) (by kernel_rfl) (by kernel_rfl) (fun _ _ _ h => h) (Or.inl ⟨by kernel_rfl, fun w' hSw => by go_simp⟩) hS0 ?_
  try simp only [Act.put, List.setIfInBounds_toArray, List.set_cons_zero, List.set_cons_succ]
  refine tk3 (v := (.pointer (some ⟨b0, x, none⟩))) (by kernel_rfl) (by kernel_rfl) (by kernel_rfl) (fun _ _ _ h => h) (Or.inl ⟨by kernel_rfl, fun w' hSw => by go_simp⟩) hS0 ?_
  try simp only [Act.put, List.setIfInBounds_toArray, List.set_cons_zero, List.set_cons_succ]
  refine tk4 (v := (.slice (some ⟨wq, wo, none⟩) (ln g x) wc0)) (by kernel_rfl) (by kernel_rfl) (by kernel_rfl) (fun _ _ _ h => h) (Or.inl ⟨by kernel_rfl, fun w' hSw => by (have h0 := hSw.2.1; go_simp)⟩) hS0 ?_
  try simp only [Act.put, List.setIfInBounds_toArray, List.set_cons_zero, List.set_cons_succ]
  refine tk5 (v := (.agg #[.slice (some ⟨b0, 0, none⟩) (nE g) c0, .slice (some ⟨b1, 0, none⟩) (nE g) c1, .slice (some ⟨b2, 0, none⟩) (nE g) c2])) (by kernel_rfl) (by kernel_rfl) (by kernel_rfl) (fun _ _ _ h => h) (Or.inl ⟨by kernel_rfl, fun w' hSw => by (have h0 := hSw.1.at.1; have h1 := hSw.1.at.2.1; have h2 := hSw.1.at.2.2; go_simp)⟩) hS0 ?_
  try simp only [Act.put, List.setIfInBounds_toArray, List.set_cons_zero, List.set_cons_succ]
  refine tk6 (v := (.int .i64 (x : Nat))) (by kernel_rfl) (by kernel_rfl) (by kernel_rfl) (fun _ _ _ h => h) (Or.inl ⟨by kernel_rfl, fun w' hSw => by go_simp⟩) hS0 ?_
  try simp only [Act.put, List.setIfInBounds_toArray, List.set_cons_zero, List.set_cons_succ]
  refine wpAnyH_ready (rs := [7]) (by kernel_rfl) (by simp) (AllReadyH.cons rfl (fun K hK => ?_) AllReadyH.nil)
  rw [if_pos (by kernel_rfl)]
  go_simp
  refine (HLx.out _ hS0.1.rp).mono ?_
  rintro e wa ⟨rfl, hba⟩
  have hSa := And.intro (hS0.1.below hba) (And.intro (ck hS0.2.1 hba) (ck hS0.2.2 hba))
  refine hK.out _ _ hSa fun _ => ?_
  clear hK
  refine tk8 (v := (.int .i64 (k : Nat))) (by kernel_rfl) (by kernel_rfl) (by kernel_rfl) (fun _ _ _ h => h) (Or.inl ⟨by kernel_rfl, fun w' hSw => by (first | (go_simp; done) | (go_simp; simp [hk1, hwk]; done) | (simp [execOp, hk1, hwk]; go_simp; done))⟩) hSa ?_
  try simp only [Act.put, List.setIfInBounds_toArray, List.set_cons_zero, List.set_cons_succ]
  refine tk9 (v := (.pointer (some ⟨wq, wo + k, none⟩))) (by kernel_rfl) (by kernel_rfl) (by kernel_rfl) (fun _ _ _ h => h) (Or.inl ⟨by kernel_rfl, fun w' hSw => by (go_simp; first | done | (intro hh; omega))⟩) hSa ?_
  try simp only [Act.put, List.setIfInBounds_toArray, List.set_cons_zero, List.set_cons_succ]
  refine tk10 (v := (.int .i64 (s : Nat))) (by kernel_rfl) (by kernel_rfl) (by kernel_rfl) (fun _ _ _ h => h) (Or.inl ⟨by kernel_rfl, fun w' hSw => by (have h0 := hSw.2.2; go_simp)⟩) hSa ?_
  try simp only [Act.put, List.setIfInBounds_toArray, List.set_cons_zero, List.set_cons_succ]
  refine tk11 (v := (.int .i64 (s : Nat))) (by kernel_rfl) (by kernel_rfl) (by kernel_rfl) (fun _ _ _ h => h) (Or.inl ⟨by kernel_rfl, fun w' hSw => by go_simp⟩) hSa ?_
  try simp only [Act.put, List.setIfInBounds_toArray, List.set_cons_zero, List.set_cons_succ]
  refine wpAnyH_done (by kernel_rfl) ?_ _
  have HBd : Hid (Below w.heap.size w wa) := Lib.hid (HBc.out.trans ((hBd.trans (hba.mono hBd.size)).mono HBc.out.size))
  have HRd := Lib.hid hSa.1
  clear hSa hS0 hBd hba HBc HRc HQc1 HQc4 hwr hk1 hwk hkk hkl
  have t2 := HRd.out.at.2.2
  obtain ⟨uq, uo, uc, u1, u4⟩ := HRd.out.rp.next hu hls
  obtain ⟨xq, xo, xc, x1, x4⟩ := HRd.out.rp.next hx hls
  rw [HUX.out] at u4
  rw [HXX.out] at x4
  go_wp2_with fail
  go_quiet (fail)
  have HBe : Hid (Below w.heap.size w (wa.drewN nq)) := Lib.hid (below_drewN HBd.out nq)
  have HRe := Lib.hid (HRd.out.below (below_drewN (Below.refl _ _) nq))
  clear HBd HRd t2 u1 u4 x1 x4
  generalize wa.drewN nq = we at *
  go_wp2_with fail
  refine wp_region_held_drew (S := fun W => RB W w.heap.size g b0 c0 b1 c1 b2 c2) (by kernel_rfl) (HRe.out.below (below_drew (Below.refl _ _))) (fun hS0 => ?_)
  have hBd : Below we.heap.size we we.drew := below_drew (Below.refl _ _)
  refine tk0 (v := (.agg #[.slice (some ⟨b0, 0, none⟩) (nE g) c0, .slice (some ⟨b1, 0, none⟩) (nE g) c1, .slice (some ⟨b2, 0, none⟩) (nE g) c2])) (by kernel_rfl) (by kernel_rfl) (by kernel_rfl) (fun _ _ _ h => h) (Or.inl ⟨by kernel_rfl, (fun w' hSw => by have h0 := hSw.at.1; have h1 := hSw.at.2.1; have h2 := hSw.at.2.2; go_simp)⟩) hS0 ?_
  try simp only [Act.put, List.setIfInBounds_toArray, List.set_cons_zero, List.set_cons_succ]
  refine tk1 (v := (.int .i64 (us : Nat))) (by kernel_rfl) (by kernel_rfl) (by kernel_rfl) (fun _ _ _ h => h) (Or.inl ⟨by kernel_rfl, fun w' hSw => by go_simp⟩) hS0 ?_
  try simp only [Act.put, List.setIfInBounds_toArray, List.set_cons_zero, List.set_cons_succ]
  refine tk3 (v := (.agg #[.slice (some ⟨b0, 0, none⟩) (nE g) c0, .slice (some ⟨b1, 0, none⟩) (nE g) c1, .slice (some ⟨b2, 0, none⟩) (nE g) c2])) (by kernel_rfl) (by kernel_rfl) (by kernel_rfl) (fun _ _ _ h => h) (Or.inl ⟨by kernel_rfl, (fun w' hSw => by have h0 := hSw.at.1; have h1 := hSw.at.2.1; have h2 := hSw.at.2.2; go_simp)⟩) hS0 ?_
  try simp only [Act.put, List.setIfInBounds_toArray, List.set_cons_zero, List.set_cons_succ]
  refine tk4 (v := (.int .i64 (u : Nat))) (by kernel_rfl) (by kernel_rfl) (by kernel_rfl) (fun _ _ _ h => h) (Or.inl ⟨by kernel_rfl, fun w' hSw => by go_simp⟩) hS0 ?_
  try simp only [Act.put, List.setIfInBounds_toArray, List.set_cons_zero, List.set_cons_succ]
  refine wpAnyH_ready (rs := [2]) (by kernel_rfl) (by simp) (AllReadyH.cons rfl (fun K hK => ?_) AllReadyH.nil)
  rw [if_pos (by kernel_rfl)]
  go_simp
  refine (HLv.out _ hS0.rp).mono ?_
  rintro e wa ⟨rfl, hba⟩
  have hSa := hS0.below hba
  refine hK.out _ _ hSa fun _ => ?_
  clear hK
  refine wpAnyH_ready (rs := [5]) (by kernel_rfl) (by simp) (AllReadyH.cons rfl (fun K hK => ?_) AllReadyH.nil)
  rw [if_pos (by kernel_rfl)]
  go_simp
  refine (HLu.out _ hSa.rp).mono ?_
  rintro e wb ⟨rfl, hbb⟩
  have hSb := hSa.below hbb
  refine hK.out _ _ hSb fun _ => ?_
  clear hK
  refine tk6 (v := (.bool false)) (by kernel_rfl) (by kernel_rfl) (by kernel_rfl) (fun _ _ _ h => h) (Or.inl ⟨by kernel_rfl, fun w' hSw => by (first | (go_simp; done) | (simp [execOp]; go_simp; done) | (simp [execOp]; omega))⟩) hSb ?_
  try simp only [Act.put, List.setIfInBounds_toArray, List.set_cons_zero, List.set_cons_succ]
  refine wpAnyH_done (by kernel_rfl) ?_ _
  have HBf : Hid (Below w.heap.size w wb) := Lib.hid (HBe.out.trans ((hBd.trans ((hba.mono hBd.size).trans (hbb.mono (Nat.le_trans hBd.size hba.size)))).mono HBe.out.size))
  have HRf := Lib.hid hSb
  clear hS0 hSa hSb hBd hba hbb HBe HRe HLv HLu HLx
  have t0 := HRf.out.at.1
  have t1 := HRf.out.at.2.1
  have t2 := HRf.out.at.2.2
  go_wp2_with fail
  refine (HJ.out _ HRf.out.rp).mono ?_
  rintro e w9 ⟨a9, c9, rfl, hi9, hb9⟩
  clear t0 t1 t2 HJ
  have HR9 := Lib.hid (HRf.out.below hb9)
  have HB9 : Hid (Below w.heap.size w w9) := Lib.hid (HBf.out.trans (hb9.mono HBf.out.size))
  have HI9 := Lib.hid hi9
  clear hi9 hb9 HBf HRf
  go_wp2_with fail
  refine wp_region_held_drew (S := fun W => RB W w.heap.size g b0 c0 b1 c1 b2 c2) (by kernel_rfl) (HR9.out.below (below_drew (Below.refl _ _))) (fun hS0 => ?_)
  have hBd : Below w9.heap.size w9 w9.drew := below_drew (Below.refl _ _)
  refine tk0 (v := (.slice a9 AA.length c9)) (by kernel_rfl) (by kernel_rfl) (by kernel_rfl) (fun _ _ _ h => h) (Or.inl ⟨by kernel_rfl, fun w' hSw => by go_simp⟩) hS0 ?_
  try simp only [Act.put, List.setIfInBounds_toArray, List.set_cons_zero, List.set_cons_succ]
  refine tk2 (v := (.slice a9 AA.length c9)) (by kernel_rfl) (by kernel_rfl) (by kernel_rfl) (fun _ _ _ h => h) (Or.inl ⟨by kernel_rfl, fun w' hSw => by go_simp⟩) hS0 ?_
  try simp only [Act.put, List.setIfInBounds_toArray, List.set_cons_zero, List.set_cons_succ]
  refine tk4 (v := (.agg #[.slice (some ⟨b0, 0, none⟩) (nE g) c0, .slice (some ⟨b1, 0, none⟩) (nE g) c1, .slice (some ⟨b2, 0, none⟩) (nE g) c2])) (by kernel_rfl) (by kernel_rfl) (by kernel_rfl) (fun _ _ _ h => h) (Or.inl ⟨by kernel_rfl, (fun w' hSw => by have h0 := hSw.at.1; have h1 := hSw.at.2.1; have h2 := hSw.at.2.2; go_simp)⟩) hS0 ?_
  try simp only [Act.put, List.setIfInBounds_toArray, List.set_cons_zero, List.set_cons_succ]
  refine tk5 (v := (.int .i64 (us : Nat))) (by kernel_rfl) (by kernel_rfl) (by kernel_rfl) (fun _ _ _ h => h) (Or.inl ⟨by kernel_rfl, fun w' hSw => by go_simp⟩) hS0 ?_
  try simp only [Act.put, List.setIfInBounds_toArray, List.set_cons_zero, List.set_cons_succ]
  refine tk6 (v := (.int .i64 (xs : Nat))) (by kernel_rfl) (by kernel_rfl) (by kernel_rfl) (fun _ _ _ h => h) (Or.inl ⟨by kernel_rfl, fun w' hSw => by go_simp⟩) hS0 ?_
  try simp only [Act.put, List.setIfInBounds_toArray, List.set_cons_zero, List.set_cons_succ]
  have hI0 := HI9.out.below hBd (Nat.le_refl _)
  refine wpAnyH_ready (rs := [1]) (by kernel_rfl) (by simp) (AllReadyH.cons rfl (fun K hK => ?_) AllReadyH.nil)
  rw [if_pos (by kernel_rfl)]
  go_simp
  refine (HA1.out _ _ hI0).mono ?_
  rintro e wa ⟨a1, d1, rfl, hi1, hba⟩
  have hSa := hS0.below hba
  refine hK.out _ _ hSa fun _ => ?_
  clear hK
  have hI1 := hI0.below hba (Nat.le_refl _)
  refine wpAnyH_ready (rs := [3]) (by kernel_rfl) (by simp) (AllReadyH.cons rfl (fun K hK => ?_) AllReadyH.nil)
  rw [if_pos (by kernel_rfl)]
  go_simp
  refine (HA2.out _ _ _ hi1 hI1).mono ?_
  rintro e wb ⟨a2, d2, rfl, hi2, hbb⟩
  have hSb := hSa.below hbb
  refine hK.out _ _ hSb fun _ => ?_
  clear hK
  refine wpAnyH_ready (rs := [7]) (by kernel_rfl) (by simp) (AllReadyH.cons rfl (fun K hK => ?_) AllReadyH.nil)
  rw [if_pos (by kernel_rfl)]
  go_simp
  refine (HI.out _ hSb.rp).mono ?_
  rintro e wc ⟨a3, d3, rfl, hi3, hbc⟩
  have hSc := hSb.below hbc
  refine hK.out _ _ hSc fun _ => ?_
  clear hK
  refine wpAnyH_ready (rs := [8]) (by kernel_rfl) (by simp) (AllReadyH.cons rfl (fun K hK => ?_) AllReadyH.nil)
  rw [if_pos (by kernel_rfl)]
  go_simp
  refine (HA3.out _ _ _ (hi2.below hbc (Nat.le_refl _)) hi3).mono ?_
  rintro e wd ⟨a4, d4, rfl, hi4, hbd⟩
  have hSd := hSc.below hbd
  refine hK.out _ _ hSd fun _ => ?_
  clear hK
  refine tk9 (v := (.slice a4 A3.length d4)) (by kernel_rfl) (by kernel_rfl) (by kernel_rfl) (fun _ _ _ h => h) (Or.inl ⟨by kernel_rfl, fun w' hSw => by go_simp⟩) hSd ?_
  try simp only [Act.put, List.setIfInBounds_toArray, List.set_cons_zero, List.set_cons_succ]
  refine wpAnyH_done (by kernel_rfl) ?_ _
  have HBz : Hid (Below w.heap.size w wd) := Lib.hid (HB9.out.trans ((hBd.trans ((hba.mono hBd.size).trans ((hbb.mono (Nat.le_trans hBd.size hba.size)).trans ((hbc.mono (Nat.le_trans hBd.size (Nat.le_trans hba.size hbb.size))).trans (hbd.mono (Nat.le_trans hBd.size (Nat.le_trans hba.size (Nat.le_trans hbb.size hbc.size)))))))).mono HB9.out.size))
  clear hS0 hSa hSb hSc hSd hBd hba hbb hbc hbd hI0 hI1 hi1 hi2 hi3
  go_wp2_with fail
  go_ret
  exact ⟨_, _, rfl, hi4, HBz.out⟩

theorem RR_any (g : Nat) (hg : g < 17) (h3 : g ≠ 3) (b0 c0 b1 c1 b2 c2 : Nat) : ∀ (n x u : Nat) (w : World), ln g x < n → x < nE g → u < nE g → RP w g b0 b1 b2 →
    Calls Try.prog 54 #[rV g b0 c0 b1 c1 b2 c2, .int .i64 u, .int .i64 x] w fun e w' => ∃ a c, e = .returned (.slice a (dR g u x).length c) ∧ Ints w' (.slice a (dR g u x).length c) (dR g u x) ∧ Below w.heap.size w w'
  | 0, x, u, w, h, _, _, _ => absurd h (Nat.not_lt_zero _)
  | n + 1, x, u, w, h, hx, hu, hR => by
    by_cases e0 : u = x
    · exact RR_eq g b0 c0 b1 c1 b2 c2 u x hg h3 w hu hx e0
    · by_cases hge : ln g x ≤ ln g u
      · exact RR_ge g b0 c0 b1 c1 b2 c2 u x hg h3 w hR hu hx e0 hge
      · have hlt : ln g u < ln g x := by omega
        cases hlo : loB g u x with
        | false => exact RR_no g b0 c0 b1 c1 b2 c2 u x hg h3 w hR hu hx e0 hlt hlo
        | true =>
          have h0 : x ≠ 0 := fun q => by rw [q, ln_zero hg] at hlt; omega
          have hls := (last_ok hg hx h0).2.1
          have hlx := (last_ok hg hx h0).2.2
          have hus := (tb hg hu hls).2.1
          have hxs := (tb hg hx hls).2.1
          have hI := fun W (hW : RP W g b0 b1 b2) => RR_any g hg h3 b0 c0 b1 c1 b2 c2 n (rt g x (lastL g x)) (rt g u (lastL g x)) W (by omega) hxs hus hW
          by_cases hf : ln g (rt g u (lastL g x)) < ln g u
          · exact RR_fall g b0 c0 b1 c1 b2 c2 u x hg h3 w hR hu hx e0 hlt hlo hf hI
          · exact RR_step g b0 c0 b1 c1 b2 c2 u x hg h3 w hR hu hx e0 hlt hlo hf hI (fun W hW => RR_any g hg h3 b0 c0 b1 c1 b2 c2 n (rt g x (lastL g x)) u W (by omega) hxs hu hW)
end Go.Proofs.Ytlnbodpdgebflaa
