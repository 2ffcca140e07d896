/- the reference: Coset -/
import Derived.Test.YtlnbodpdgebflaaEh
import Derived.Test.YtlnbodpdgebflaaTk
namespace Go.Proofs.Ytlnbodpdgebflaa
open Go.RowKit

set_option maxRecDepth 20000 in
set_option maxHeartbeats 2000000 in
theorem RCoset_any (g b0 c0 b1 c1 b2 c2 x m : Nat) (hg : g < 17) (w : World) (h : RP w g b0 b1 b2) (hx : x < nE g) (h16 : m < 16) :
    Calls Try.prog 51 #[rV g b0 c0 b1 c1 b2 c2, .int .i64 x, .int .i64 m] w fun e w' => e = .returned (.int .i64 (shB g m x : Nat)) ∧ Below w.heap.size w w' := by
  have HR := Lib.hid (h.box c0 c1 c2)
  have HLn := Lib.hid (fun y W hW hy => Len_any g b0 c0 b1 c1 b2 c2 y hg W hW hy)
  have hE := (tE hg).2
  have hk4 := (tg hg).2.2.2.1
  clear h
  obtain ⟨R, hR⟩ : ∃ R, R = shB g m x := ⟨_, rfl⟩
  rw [← hR]
  have HSh := Lib.hid hR
  clear hR
  unfold rV at HLn ⊢
  go_enter Try.func51, Try.ntmps51
  go_wp2_with fail
  go_loopw [7, 1] (fun bb i wr => ∃ (y : Nat) (q : Bool), y < nE g ∧ bb = .bool q ∧ i = .int .i64 y ∧ R = shB g m y ∧ (q = false → shS g m y = none) ∧ RB wr w.heap.size g b0 c0 b1 c1 b2 c2 ∧ Below w.heap.size w wr) (fun bb i _ => 2 * ln g (intOf i).toNat + (match bb with | .bool true => 1 | _ => 0))
  case atStart => exact ⟨x, true, hx, rfl, rfl, HSh.out, fun e => (by cases e), HR.out, a1 _ _⟩
  case round =>
    clear HR HSh
    obtain ⟨y, q, hy, rfl, rfl, hRy, hq, hR, hb⟩ := hrel
    have HRy := Lib.hid hRy
    have HQ := Lib.hid hq
    have HR := Lib.hid hR
    have HB := Lib.hid hb
    clear hRy hq hR hb
    cases q with
    | false =>
      have HE : Hid (R = y) := Lib.hid (by rw [HRy.out]; exact shB_none (HQ.out rfl))
      clear HRy HQ
      go_wp2_with fail
      go_ret
      exact ⟨by rw [HE.out]; rfl, HB.out⟩
    | true =>
      clear HQ
      obtain ⟨rq, ro, rc, r1, r4⟩ := HR.out.rp.row hg hy
      have HR4 := Lib.hid r4
      have t2 := HR.out.at.2.2
      clear r4
      go_wp2_with fail
      go_loopw [17, 7, 1] (fun i b7 tb1 wi => ∃ k : Nat, k ≤ kM g ∧ i = .int .i64 k ∧ b7 = .bool false ∧ tb1 = .int .i64 y ∧ (∀ t, t < k → (m.testBit t && flB g y t) = false) ∧ RB wi w.heap.size g b0 c0 b1 c1 b2 c2 ∧ Below w.heap.size w wi ∧ (∀ s, s < kM g → wi.cell? ⟨rq, ro + s, none⟩ = some (.int .i64 (rt g y s : Nat)))) (fun i _ _ _ => kM g - (intOf i).toNat)
      case atStart => exact ⟨0, Nat.zero_le _, rfl, rfl, rfl, fun t ht => absurd ht (by omega), HR.out, HB.out, HR4.out⟩
      case round =>
        rename World => wi
        clear HR HB HR4 r1 t2
        obtain ⟨k, hk, rfl, rfl, rfl, hall, hR, hb, hr4⟩ := hrel
        have HA := Lib.hid hall
        have HRi := Lib.hid hR
        have HBi := Lib.hid hb
        have HR4 := Lib.hid hr4
        clear hall hR hb hr4
        by_cases hl : k < kM g
        · have r4 := HR4.out k hl
          have hbit := bit_and1 m k (by omega)
          have HS : Hid ((m.testBit k && flB g y k) = false → ∀ t, t < k + 1 → (m.testBit t && flB g y t) = false) := Lib.hid (fun e t ht => if q : t = k then q ▸ e else HA.out t (by omega))
          have hr2 := (tb hg hy hl).2.1
          have hr128 : rt g y k < 128 := by omega
          have hln1 := (tx hg hy).2.1
          have hln2 := (tx hg hr2).2.1
          cases hbk : m.testBit k with
          | false =>
            rw [hbk] at hbit HS
            have hbit' : bits .and .i64 ((m:Int) / 2 ^ k) 1 = 0 := hbit
            have HE := Lib.hid (HS.out rfl)
            clear hbit hbk HS HLn hln2
            generalize rt g y k = r at *
            go_wp2_with fail
            refine wp_region_held_drew (S := fun _ => True) (by kernel_rfl) trivial (fun hS0 => ?_)
            refine tk0 (v := (.int .i64 m)) (by kernel_rfl) (by kernel_rfl) (by kernel_rfl) (fun _ _ _ h => h) (Or.inl ⟨by kernel_rfl, fun w' hSw => by go_simp⟩) hS0 ?_
            try simp only [Act.put, List.setIfInBounds_toArray, List.set_cons_zero, List.set_cons_succ]
            refine tk1 (v := (.int .i64 k)) (by kernel_rfl) (by kernel_rfl) (by kernel_rfl) (fun _ _ _ h => h) (Or.inl ⟨by kernel_rfl, fun w' hSw => by go_simp⟩) hS0 ?_
            try simp only [Act.put, List.setIfInBounds_toArray, List.set_cons_zero, List.set_cons_succ]
            refine tk2 (v := (.int .i64 ((m : Int) / 2 ^ k))) (by kernel_rfl) (by kernel_rfl) (by kernel_rfl) (fun _ _ _ h => h) (Or.inl ⟨by kernel_rfl, fun w' hSw => by go_simp⟩) hS0 ?_
            try simp only [Act.put, List.setIfInBounds_toArray, List.set_cons_zero, List.set_cons_succ]
            refine tk3 (v := (.int .i64 0)) (by kernel_rfl) (by kernel_rfl) (by kernel_rfl) (fun _ _ _ h => h) (Or.inl ⟨by kernel_rfl, fun w' hSw => by go_simp⟩) hS0 ?_
            try simp only [Act.put, List.setIfInBounds_toArray, List.set_cons_zero, List.set_cons_succ]
            refine tk4 (v := (.bool false)) (by kernel_rfl) (by kernel_rfl) (by kernel_rfl) (fun _ _ _ h => h) (Or.inl ⟨by kernel_rfl, fun w' hSw => by go_simp⟩) hS0 ?_
            try simp only [Act.put, List.setIfInBounds_toArray, List.set_cons_zero, List.set_cons_succ]
            refine tk5 (v := (.bool false)) (by kernel_rfl) (by kernel_rfl) (by kernel_rfl) (fun _ _ _ h => h) (Or.inl ⟨by kernel_rfl, fun w' hSw => by go_simp⟩) hS0 ?_
            try simp only [Act.put, List.setIfInBounds_toArray, List.set_cons_zero, List.set_cons_succ]
            refine tk6 (v := (undef)) (by kernel_rfl) (by kernel_rfl) (by kernel_rfl) (fun _ _ _ h => h) (Or.inr ⟨by kernel_rfl, rfl⟩) hS0 ?_
            try simp only [Act.put, List.setIfInBounds_toArray, List.set_cons_zero, List.set_cons_succ]
            refine tk7 (v := (undef)) (by kernel_rfl) (by kernel_rfl) (by kernel_rfl) (fun _ _ _ h => h) (Or.inr ⟨by kernel_rfl, rfl⟩) hS0 ?_
            try simp only [Act.put, List.setIfInBounds_toArray, List.set_cons_zero, List.set_cons_succ]
            refine tk8 (v := (undef)) (by kernel_rfl) (by kernel_rfl) (by kernel_rfl) (fun _ _ _ h => h) (Or.inr ⟨by kernel_rfl, rfl⟩) hS0 ?_
            try simp only [Act.put, List.setIfInBounds_toArray, List.set_cons_zero, List.set_cons_succ]
            refine tk9 (v := (undef)) (by kernel_rfl) (by kernel_rfl) (by kernel_rfl) (fun _ _ _ h => h) (Or.inr ⟨by kernel_rfl, rfl⟩) hS0 ?_
            try simp only [Act.put, List.setIfInBounds_toArray, List.set_cons_zero, List.set_cons_succ]
            refine tk10 (v := (undef)) (by kernel_rfl) (by kernel_rfl) (by kernel_rfl) (fun _ _ _ h => h) (Or.inr ⟨by kernel_rfl, rfl⟩) hS0 ?_
            try simp only [Act.put, List.setIfInBounds_toArray, List.set_cons_zero, List.set_cons_succ]
            refine tk11 (v := (undef)) (by kernel_rfl) (by kernel_rfl) (by kernel_rfl) (fun _ _ _ h => h) (Or.inr ⟨by kernel_rfl, rfl⟩) hS0 ?_
            try simp only [Act.put, List.setIfInBounds_toArray, List.set_cons_zero, List.set_cons_succ]
            refine tk12 (v := (undef)) (by kernel_rfl) (by kernel_rfl) (by kernel_rfl) (fun _ _ _ h => h) (Or.inr ⟨by kernel_rfl, rfl⟩) hS0 ?_
            try simp only [Act.put, List.setIfInBounds_toArray, List.set_cons_zero, List.set_cons_succ]
            refine tk13 (v := (.bool false)) (by kernel_rfl) (by kernel_rfl) (by kernel_rfl) (fun _ _ _ h => h) (Or.inl ⟨by kernel_rfl, fun w' hSw => by go_simp⟩) hS0 ?_
            try simp only [Act.put, List.setIfInBounds_toArray, List.set_cons_zero, List.set_cons_succ]
            refine wpAnyH_done (by kernel_rfl) ?_ _
            go_wp2_with fail
            (go_roundw; (case rel => exact ⟨k + 1, by omega, by go_num, rfl, rfl, HE.out, HRi.out.below (below_drew (Below.refl _ _)), below_drew HBi.out, fun s hs => HR4.out s hs⟩); (case measure => simp [intOf]; omega))
          | true =>
            rw [hbk] at hbit HS
            have hbit' : bits .and .i64 ((m:Int) / 2 ^ k) 1 = 1 := hbit
            clear hbit
            go_wp2_with fail
            refine wp_region_held_drew (S := fun W => RB W w.heap.size g b0 c0 b1 c1 b2 c2) (by kernel_rfl) (HRi.out.below (below_drew (Below.refl _ _))) (fun hS0 => ?_)
            have hBd : Below wi.heap.size wi wi.drew := below_drew (Below.refl _ _)
            refine tk0 (v := (.int .i64 m)) (by kernel_rfl) (by kernel_rfl) (by kernel_rfl) (fun _ _ _ h => h) (Or.inl ⟨by kernel_rfl, fun w' hSw => by go_simp⟩) hS0 ?_
            try simp only [Act.put, List.setIfInBounds_toArray, List.set_cons_zero, List.set_cons_succ]
            refine tk1 (v := (.int .i64 k)) (by kernel_rfl) (by kernel_rfl) (by kernel_rfl) (fun _ _ _ h => h) (Or.inl ⟨by kernel_rfl, fun w' hSw => by go_simp⟩) hS0 ?_
            try simp only [Act.put, List.setIfInBounds_toArray, List.set_cons_zero, List.set_cons_succ]
            refine tk2 (v := (.int .i64 ((m : Int) / 2 ^ k))) (by kernel_rfl) (by kernel_rfl) (by kernel_rfl) (fun _ _ _ h => h) (Or.inl ⟨by kernel_rfl, fun w' hSw => by go_simp⟩) hS0 ?_
            try simp only [Act.put, List.setIfInBounds_toArray, List.set_cons_zero, List.set_cons_succ]
            refine tk3 (v := (.int .i64 1)) (by kernel_rfl) (by kernel_rfl) (by kernel_rfl) (fun _ _ _ h => h) (Or.inl ⟨by kernel_rfl, fun w' hSw => by go_simp⟩) hS0 ?_
            try simp only [Act.put, List.setIfInBounds_toArray, List.set_cons_zero, List.set_cons_succ]
            refine tk4 (v := (.bool true)) (by kernel_rfl) (by kernel_rfl) (by kernel_rfl) (fun _ _ _ h => h) (Or.inl ⟨by kernel_rfl, fun w' hSw => by go_simp⟩) hS0 ?_
            try simp only [Act.put, List.setIfInBounds_toArray, List.set_cons_zero, List.set_cons_succ]
            refine tk5 (v := (.bool true)) (by kernel_rfl) (by kernel_rfl) (by kernel_rfl) (fun _ _ _ h => h) (Or.inl ⟨by kernel_rfl, fun w' hSw => by go_simp⟩) hS0 ?_
            try simp only [Act.put, List.setIfInBounds_toArray, List.set_cons_zero, List.set_cons_succ]
            refine tk6 (v := (.agg #[.slice (some ⟨b0, 0, none⟩) (nE g) c0, .slice (some ⟨b1, 0, none⟩) (nE g) c1, .slice (some ⟨b2, 0, none⟩) (nE g) c2])) (by kernel_rfl) (by kernel_rfl) (by kernel_rfl) (fun _ _ _ h => h) (Or.inl ⟨by kernel_rfl, (fun w' hSw => by have h0 := hSw.at.1; have h1 := hSw.at.2.1; have h2 := hSw.at.2.2; go_simp)⟩) hS0 ?_
            try simp only [Act.put, List.setIfInBounds_toArray, List.set_cons_zero, List.set_cons_succ]
            refine tk7 (v := (.int .i64 (rt g y k : Nat))) (by kernel_rfl) (by kernel_rfl) (by kernel_rfl) (fun _ _ _ h => h) (Or.inl ⟨by kernel_rfl, fun w' hSw => by go_simp⟩) hS0 ?_
            try simp only [Act.put, List.setIfInBounds_toArray, List.set_cons_zero, List.set_cons_succ]
            refine tk9 (v := (.agg #[.slice (some ⟨b0, 0, none⟩) (nE g) c0, .slice (some ⟨b1, 0, none⟩) (nE g) c1, .slice (some ⟨b2, 0, none⟩) (nE g) c2])) (by kernel_rfl) (by kernel_rfl) (by kernel_rfl) (fun _ _ _ h => h) (Or.inl ⟨by kernel_rfl, (fun w' hSw => by have h0 := hSw.at.1; have h1 := hSw.at.2.1; have h2 := hSw.at.2.2; go_simp)⟩) hS0 ?_
            try simp only [Act.put, List.setIfInBounds_toArray, List.set_cons_zero, List.set_cons_succ]
            refine tk10 (v := (.int .i64 y)) (by kernel_rfl) (by kernel_rfl) (by kernel_rfl) (fun _ _ _ h => h) (Or.inl ⟨by kernel_rfl, fun w' hSw => by go_simp⟩) hS0 ?_
            try simp only [Act.put, List.setIfInBounds_toArray, List.set_cons_zero, List.set_cons_succ]
            refine wpAnyH_ready (rs := [8]) (by kernel_rfl) (by simp) (AllReadyH.cons rfl (fun K hK => ?_) AllReadyH.nil)
            rw [if_pos (by kernel_rfl)]
            go_simp
            refine (HLn.out _ _ hS0.rp hr2).mono ?_
            rintro e wa ⟨rfl, hba⟩
            have hSa := hS0.below hba
            refine hK.out _ _ hSa fun _ => ?_
            clear hK
            refine wpAnyH_ready (rs := [11]) (by kernel_rfl) (by simp) (AllReadyH.cons rfl (fun K hK => ?_) AllReadyH.nil)
            rw [if_pos (by kernel_rfl)]
            go_simp
            refine (HLn.out _ _ hSa.rp hy).mono ?_
            rintro e wb ⟨rfl, hbb⟩
            have hSb := hSa.below hbb
            refine hK.out _ _ hSb fun _ => ?_
            clear hK
            refine tk12 (v := (.bool (decide (ln g (rt g y k) < ln g y)))) (by kernel_rfl) (by kernel_rfl) (by kernel_rfl) (fun _ _ _ h => h) (Or.inl ⟨by kernel_rfl, fun w' hSw => by go_simp⟩) hSb ?_
            try simp only [Act.put, List.setIfInBounds_toArray, List.set_cons_zero, List.set_cons_succ]
            refine tk13 (v := (.bool (decide (ln g (rt g y k) < ln g y)))) (by kernel_rfl) (by kernel_rfl) (by kernel_rfl) (fun _ _ _ h => h) (Or.inl ⟨by kernel_rfl, fun w' hSw => by go_simp⟩) hSb ?_
            try simp only [Act.put, List.setIfInBounds_toArray, List.set_cons_zero, List.set_cons_succ]
            refine wpAnyH_done (by kernel_rfl) ?_ _
            have HRb := Lib.hid hSb
            have HBw : Hid (Below wi.heap.size wi wb) := Lib.hid (hBd.trans ((hba.mono hBd.size).trans (hbb.mono (Nat.le_trans hBd.size hba.size))))
            have HBb : Hid (Below w.heap.size w wb) := Lib.hid (HBi.out.trans (HBw.out.mono HBi.out.size))
            clear hS0 hSa hSb hba hbb hBd
            by_cases hf : ln g (rt g y k) < ln g y
            · have hfb : flB g y k = true := decide_eq_true hf
              have HE := Lib.hid (shB_some hg hy hl (shS_some hl HA.out (by rw [hbk, hfb]; rfl)) hfb)
              have HE2 : Hid (R = shB g m (rt g y k)) := Lib.hid (by rw [HRy.out, HE.out])
              clear hfb HE HS hbk
              go_wp2_with fail
              go_roundw
              case rel => exact ⟨rt g y k, true, hr2, rfl, rfl, HE2.out, fun e => (by cases e), HRb.out, HBb.out⟩
              case measure => simp [intOf]; omega
            · have hfb : flB g y k = false := decide_eq_false hf
              have HE := Lib.hid (HS.out (by rw [hfb]; rfl))
              have HR4b : Hid (∀ s, s < kM g → wb.cell? ⟨rq, ro + s, none⟩ = some (.int .i64 (rt g y s : Nat))) := Lib.hid (fun s hs => ck (HR4.out s hs) HBw.out)
              clear hfb HS hbk
              go_wp2_with fail
              go_roundw
              case rel => exact ⟨k + 1, by omega, by go_num, rfl, rfl, HE.out, HRb.out, HBb.out, HR4b.out⟩
              case measure => simp [intOf]; omega
        · have hkk : k = kM g := by omega
          have HE : Hid (shS g m y = none) := Lib.hid (shS_none (by rw [← hkk]; exact HA.out))
          clear hkk
          go_wp2_with fail
          go_roundw
          case rel => exact ⟨y, false, hy, rfl, rfl, HRy.out, fun _ => HE.out, HRi.out, HBi.out⟩
          case measure => simp [intOf]
end Go.Proofs.Ytlnbodpdgebflaa
