/- the reference: Leave -/
import Derived.Test.YtlnbodpdgebflaaOv
namespace Go.Proofs.Ytlnbodpdgebflaa
open Go.RowKit

theorem fl_bit_chk : ((List.range 17).all fun g => (List.range (nE g)).all fun x => (List.range (kM g)).all fun s => ((flS g x (kM g)).testBit s == flB g x s) && decide (ln g (rt g x s) ≤ ln g x + 1)) = true := by decide +kernel
theorem fl_bit {g x s : Nat} (hg : g < 17) (hx : x < nE g) (hs : s < kM g) : (flS g x (kM g)).testBit s = flB g x s ∧ ln g (rt g x s) ≤ ln g x + 1 := by
  have h1 := List.all_eq_true.1 (List.all_eq_true.1 (List.all_eq_true.1 fl_bit_chk g (List.mem_range.2 hg)) x (List.mem_range.2 hx)) s (List.mem_range.2 hs)
  simpa using h1
theorem ln_fol {g : Nat} (hg : g < 17) : ∀ (l : List Nat) (x : Nat), x < nE g → (∀ s ∈ l, s < kM g) → ln g (fol g x l) ≤ ln g x + l.length
  | [], _, _, _ => Nat.le_refl _
  | s :: l, x, hx, hl => by
    have hs := hl s (by simp)
    have h1 := ln_fol hg l (rt g x s) (tb hg hx hs).2.1 fun t ht => hl t (by simp [ht])
    have h2 := (fl_bit hg hx hs).2
    show ln g (fol g (rt g x s) l) ≤ _
    simp only [List.length_cons]
    omega
theorem ln_zero {g : Nat} (hg : g < 17) : ln g 0 = 0 := by unfold ln; rw [(tg hg).2.2.2.2.2.2.2.1]; rfl
theorem lv_none {g y s : Nat} {l : List Nat} (hg : g < 17) (hl : ∀ x ∈ l, x < kM g) (hs : ln g y = l.length) (hf : flB g y s = false) : lvO g y s l = none := by
  refine lvO_none fun k hk e => ?_
  have h1 := ln_fol hg (wo_ l k) 0 (tE hg).1 (fun x hx => hl x (wo_mem hx))
  rw [ln_zero hg, wo_len l k hk, e] at h1
  have h2 : ¬ ln g (rt g y s) < ln g y := of_decide_eq_false hf
  omega

set_option maxRecDepth 20000 in
set_option maxHeartbeats 4000000 in
theorem RLeave_any (g b0 c0 b1 c1 b2 c2 : Nat) (hg : g < 17) (v : Value) (l : List Nat) (s : Nat) (w : World) (h : RP w g b0 b1 b2) (hv : Nats w v l) (hl : ∀ x ∈ l, x < kM g) (h40 : l.length ≤ 40) (hsh : ln g (fol g 0 l) = l.length) (hs : s < kM g) :
    Calls Try.prog 45 #[rV g b0 c0 b1 c1 b2 c2, v, .int .i64 (s : Nat)] w fun e w' => e = .returned (lvV (lvO g (fol g 0 l) s l)) ∧ Below w.heap.size w w' := by
  have HR := Lib.hid (h.box c0 c1 c2)
  have hE := tE hg
  have hk4 := (tg hg).2.2.2.1
  have HNu := Lib.hid (fun x v L W hW (hx : x < nE g) hv hL => Number_any g b0 c0 b1 c1 b2 c2 x hg v L W hW hx hv hL)
  have hy := fol_lt hg l 0 hE.1 hl
  have HRf := Lib.hid (fun W hW => RFalls_any g b0 c0 b1 c1 b2 c2 (fol g 0 l) hg W hW hy)
  have HL := Lib.hid hl
  obtain ⟨va, vc, rfl, hvc, _, _⟩ := hv.open
  have HV := Lib.hid hv
  have hf16 : flS g (fol g 0 l) (kM g) < 16 := Nat.lt_of_lt_of_le (flS_lt g (fol g 0 l) (kM g)) (Nat.pow_le_pow_right (n := 2) (by decide) hk4)
  have hbit := bit_and1 (flS g (fol g 0 l) (kM g)) s (by omega)
  rw [(fl_bit hg hy hs).1] at hbit
  have hr := (tb hg hy hs).2.1
  obtain ⟨T, hT⟩ : ∃ T, T = lvV (lvO g (fol g 0 l) s l) := ⟨_, rfl⟩
  rw [← hT]
  have HFn : Hid (flB g (fol g 0 l) s = false → T = .tuple #[.int .i64 0, .int .i64 4]) := Lib.hid (fun hf => by rw [hT, lv_none hg hl hsh hf]; rfl)
  have HSo : Hid (∀ k, k < l.length → (∀ t, t < k → fol g 0 (wo_ l t) ≠ rt g (fol g 0 l) s) → fol g 0 (wo_ l k) = rt g (fol g 0 l) s → T = .tuple #[.int .i64 (k : Nat), .int .i64 0]) := Lib.hid (fun k hk h1 h2 => by
    rw [hT, lvO_some hk h1 h2]; rfl)
  have HNo : Hid ((∀ t, t < l.length → fol g 0 (wo_ l t) ≠ rt g (fol g 0 l) s) → T = .tuple #[.int .i64 0, .int .i64 4]) := Lib.hid (fun h1 => by
    rw [hT, lvO_none h1]; rfl)
  have HN0 : Hid (∀ W, RP W g b0 b1 b2 → Nats W (.slice va l.length vc) l → Calls Try.prog 27 #[rV g b0 c0 b1 c1 b2 c2, .int .i64 0, .slice va l.length vc] W fun e w' => e = .returned (.int .i64 (fol g 0 l : Nat)) ∧ Below W.heap.size W w') := Lib.hid (fun W h hv => HNu.out 0 _ l W h hE.1 hv HL.out)
  have HN1 : Hid (∀ k v W, RP W g b0 b1 b2 → Nats W v (l.take k) → Calls Try.prog 27 #[rV g b0 c0 b1 c1 b2 c2, .int .i64 0, v] W fun e w' => e = .returned (.int .i64 (fol g 0 (l.take k) : Nat)) ∧ Below W.heap.size W w') := Lib.hid (fun k v W h hv => HNu.out 0 v _ W h hE.1 hv (fun x hx => HL.out x (List.mem_of_mem_take hx)))
  have HN2 : Hid (∀ k v W, RP W g b0 b1 b2 → Nats W v (l.drop (k + 1)) → Calls Try.prog 27 #[rV g b0 c0 b1 c1 b2 c2, .int .i64 (fol g 0 (l.take k) : Nat), v] W fun e w' => e = .returned (.int .i64 (fol g 0 (wo_ l k) : Nat)) ∧ Below W.heap.size W w') := Lib.hid (fun k v W h hv => by
    have h1 := HNu.out (fol g 0 (l.take k)) v _ W h (fol_lt hg _ 0 hE.1 fun x hx => HL.out x (List.mem_of_mem_take hx)) hv (fun x hx => HL.out x (List.mem_of_mem_drop hx))
    rwa [← fol_app] at h1)
  clear h hv hl hT HNu hsh
  obtain ⟨rq, ro, rc, r1, r4⟩ := HR.out.rp.next hy hs
  generalize fol g 0 l = y at *
  generalize flS g y (kM g) = fs at *
  generalize hrr : rt g y s = r at *
  clear hrr
  unfold rV at HN0 HN1 HN2 HRf ⊢
  go_enter Try.func45, Try.ntmps45
  go_wp2_with fail
  refine (HN0.out _ HR.out.rp (HV.out.alloc _)).mono ?_
  rintro e w1 ⟨rfl, hb1⟩
  have HR1 := Lib.hid (HR.out.below hb1)
  have HV1 := Lib.hid ((HV.out.alloc (.cells #[.slice (some ⟨b0, 0, none⟩) (nE g) c0, .slice (some ⟨b1, 0, none⟩) (nE g) c1, .slice (some ⟨b2, 0, none⟩) (nE g) c2] 39)).below hb1 (Nat.le_refl _))
  have HB1 : Hid (Below w.heap.size w w1) := Lib.hid ((a1 w _).trans (hb1.mono (by simp)))
  have r1' := ck r1 hb1
  have r4' := ck r4 hb1
  clear hb1 HR HV HN0 r1 r4
  have t0 := HR1.out.at.1
  have t1 := HR1.out.at.2.1
  have t2 := HR1.out.at.2.2
  go_wp2_with fail
  refine (HRf.out _ HR1.out.rp).mono ?_
  rintro e w2 ⟨rfl, hb2⟩
  have HR2 := Lib.hid (HR1.out.below hb2)
  have HV2 := Lib.hid (HV1.out.below hb2 (Nat.le_refl _))
  have HB2 : Hid (Below w.heap.size w w2) := Lib.hid (HB1.out.trans (hb2.mono HB1.out.size))
  have r12 := ck r1' hb2
  have r42 := ck r4' hb2
  clear hb2 HR1 HV1 HB1 r1' r4' t0 t1 t2 HRf
  cases hf : flB g y s with
  | false =>
    have HE := Lib.hid (HFn.out hf)
    rw [hf] at hbit
    have hbit' : bits .and .i64 ((fs:Int) / 2 ^ s) 1 = 0 := hbit
    clear hbit HFn HSo HNo hf
    go_wp2_with fail
    refine bodyPost_ret (results_tmp2 rfl _ _ _) rfl ?_
    rw [HE.out]
    exact ⟨rfl, HB2.out⟩
  | true =>
    rw [hf] at hbit
    have hbit' : bits .and .i64 ((fs:Int) / 2 ^ s) 1 = 1 := hbit
    clear hbit HFn hf
    go_wp2_with fail
    clear hbit' hf16
    go_loopw [22] (fun i wr => ∃ k : Nat, k ≤ l.length ∧ i = .int .i64 k ∧ (∀ t, t < k → fol g 0 (wo_ l t) ≠ r) ∧ Below w2.heap.size w2 wr) (fun i _ => l.length - (intOf i).toNat)
    case atStart => exact ⟨0, Nat.zero_le _, rfl, fun t ht => absurd ht (by omega), Below.refl _ _⟩
    case round =>
      obtain ⟨k, hk, rfl, hall, hb⟩ := hrel
      have HA := Lib.hid hall
      have HB := Lib.hid hb
      clear hall hb
      have HBr : Hid (Below w.heap.size w wr) := Lib.hid (HB2.out.trans (HB.out.mono HB2.out.size))
      by_cases hlk : k < l.length
      · have HRr := Lib.hid (HR2.out.below HB.out)
        have HVr := Lib.hid (HV2.out.below HB.out (Nat.le_refl _))
        obtain ⟨_, _, ee, _, _, hxx⟩ := Nats.open HVr.out
        cases ee
        obtain ⟨ab, ao, rfl, _⟩ := hxx k hlk
        clear hxx
        obtain ⟨xa, hxa⟩ : ∃ xa : Addr, (if vc = k + 1 then some (⟨ab, ao, none⟩ : Addr) else (some (⟨ab, ao, none⟩ : Addr)).map (·.add (k + 1))) = some xa := by
          by_cases e : vc = k + 1
          · exact ⟨_, if_pos e⟩
          · exact ⟨_, by rw [if_neg e]; rfl⟩
        have r1 := ck r12 HB.out
        have r4 := ck r42 HB.out
        have t0 := HRr.out.at.1
        have t1 := HRr.out.at.2.1
        have t2 := HRr.out.at.2.2
        have HKS : Hid (∀ W, Below wr.heap.size wr W → (Below wr.heap.size wr W ∧ W.cell? ⟨w.heap.size, 0, none⟩ = some (.slice (some ⟨b0, 0, none⟩) (nE g) c0) ∧ W.cell? ⟨w.heap.size, 1, none⟩ = some (.slice (some ⟨b1, 0, none⟩) (nE g) c1) ∧ W.cell? ⟨w.heap.size, 2, none⟩ = some (.slice (some ⟨b2, 0, none⟩) (nE g) c2) ∧ W.cell? ⟨b2, y, none⟩ = some (.slice (some ⟨rq, ro, none⟩) (kM g) rc) ∧ W.cell? ⟨rq, ro + s, none⟩ = some (.int .i64 (r : Nat)))) := Lib.hid (fun W hb => ⟨hb, ck t0 hb, ck t1 hb, ck t2 hb, ck r1 hb, ck r4 hb⟩)
        have HTk : Hid (∀ W, Below wr.heap.size wr W → Nats W (.slice (some ⟨ab, ao, none⟩) k vc) (l.take k)) := Lib.hid (fun W hb => Nats.take (HVr.out.below hb (Nat.le_refl _)) (by omega))
        have HDk : Hid (∀ W, Below wr.heap.size wr W → Nats W (.slice (some xa) (l.length - (k + 1)) (vc - (k + 1))) (l.drop (k + 1))) := Lib.hid (fun W hb => by
          have h1 := Nats.drop (HVr.out.below hb (Nat.le_refl _)) (k := k + 1) (by omega)
          rwa [hxa] at h1)
        simp only [Option.map_some, Addr.add_lit] at hxa
        have HSk := Lib.hid (HSo.out k hlk HA.out)
        have HAn : Hid (fol g 0 (wo_ l k) ≠ r → ∀ t, t < k + 1 → fol g 0 (wo_ l t) ≠ r) := Lib.hid (fun h t ht => if q : t = k then q ▸ h else HA.out t (by omega))
        have HN1k := Lib.hid (fun v W h hv => HN1.out k v W h hv)
        have HN2k := Lib.hid (fun v W h hv => HN2.out k v W h hv)
        have h1 : (0:Int) ≤ (k:Int) := by omega
        have h2 : (k:Int) ≤ (vc:Int) := by omega
        have h3 : ((k:Int) + 1) ≤ (l.length:Int) := by omega
        have h4 : (l.length:Int) ≤ (vc:Int) := by omega
        have h5 : (0:Int) ≤ (k:Int) + 1 := by omega
        have h6 : IntKind.i64.wrap ((k:Int) + 1) = (k:Int) + 1 := i64_of (by omega) (by omega)
        clear r1 r4 t0 t1 t2
        generalize hfk : fol g 0 (wo_ l k) = fk at *
        clear hfk
        generalize fol g 0 (l.take k) = fa at *
        go_wp2_with fail
        go_region_held3 (fun W => Below wr.heap.size wr W ∧ W.cell? ⟨w.heap.size, 0, none⟩ = some (.slice (some ⟨b0, 0, none⟩) (nE g) c0) ∧ W.cell? ⟨w.heap.size, 1, none⟩ = some (.slice (some ⟨b1, 0, none⟩) (nE g) c1) ∧ W.cell? ⟨w.heap.size, 2, none⟩ = some (.slice (some ⟨b2, 0, none⟩) (nE g) c2) ∧ W.cell? ⟨b2, y, none⟩ = some (.slice (some ⟨rq, ro, none⟩) (kM g) rc) ∧ W.cell? ⟨rq, ro + s, none⟩ = some (.int .i64 (r : Nat)))
          (first | assumption | exact HKS.out _ (below_drew (Below.refl _ _)) | exact HKS.out _ ((‹Below wr.heap.size wr _ ∧ _›).1.trans (hb.mono (‹Below wr.heap.size wr _ ∧ _›).1.size)))
          (first
            | (go_at_call 27; with_reducible refine (HN1k.out _ _ (HRr.out.below (‹Below wr.heap.size wr _ ∧ _›).1).rp (HTk.out _ (‹Below wr.heap.size wr _ ∧ _›).1)).mono ?_; rintro e wv ⟨rfl, hb⟩)
            | (go_at_call 27; with_reducible refine (HN2k.out _ _ (HRr.out.below (‹Below wr.heap.size wr _ ∧ _›).1).rp (HDk.out _ (‹Below wr.heap.size wr _ ∧ _›).1)).mono ?_; rintro e wv ⟨rfl, hb⟩))
        rename_i hHz
        have HBz : Hid (Below w2.heap.size w2 wv) := Lib.hid (HB.out.trans (hHz.1.mono HB.out.size))
        have HBw : Hid (Below w.heap.size w wv) := Lib.hid (HBr.out.trans (hHz.1.mono HBr.out.size))
        clear hHz hb HKS HTk HDk HN1k HN2k HRr HVr
        by_cases hq : fk = r
        · have HE := Lib.hid (HSk.out hq)
          subst hq
          clear HAn HSk HA
          go_wp2_with fail
          refine bodyPost_ret (results_tmp2 rfl _ _ _) rfl ?_
          rw [HE.out]
          exact ⟨rfl, HBw.out⟩
        · have HE := Lib.hid (HAn.out hq)
          have hqi : ((fk : Int) == (r : Int)) = false := beq_eq_false_iff_ne.2 (by omega)
          clear HAn HSk HA
          go_wp2_with fail
          go_roundw
          case rel => exact ⟨k + 1, by omega, by go_num, HE.out, HBz.out⟩
          case measure => simp [intOf]; omega
      · have hkk : k = l.length := by omega
        have HE := Lib.hid (HNo.out (by rw [← hkk]; exact HA.out))
        clear hkk HA
        go_wp2_with fail
        refine bodyPost_ret (results_tmp2 rfl _ _ _) rfl ?_
        rw [HE.out]
        exact ⟨rfl, HBr.out⟩
end Go.Proofs.Ytlnbodpdgebflaa
