/- Leave -/
import Derived.Test.YtlnbodpdgebflaaOj
import Derived.Test.YtlnbodpdgebflaaEj
namespace Go.Proofs.Ytlnbodpdgebflaa
open Go.RowKit

/-- The first letter without which the word is one of the product. -/
def lvO (g y s : Nat) (l : List Nat) : Option Nat := (List.range l.length).find? fun k => fol g 0 (wo_ l k) == rt g y s
def lvV (o : Option Nat) : Value := match o with
  | some k => .tuple #[.int .i64 (k : Nat), .int .i64 0]
  | none => .tuple #[.int .i64 0, .int .i64 4]
theorem lvO_none {g y s : Nat} {l : List Nat} (h : ∀ k, k < l.length → fol g 0 (wo_ l k) ≠ rt g y s) : lvO g y s l = none := by
  unfold lvO
  rw [List.find?_eq_none]
  intro k hk
  simpa using h k (List.mem_range.1 hk)
theorem lvO_some {g y s k : Nat} {l : List Nat} (hk : k < l.length) (h : ∀ t, t < k → fol g 0 (wo_ l t) ≠ rt g y s) (h1 : fol g 0 (wo_ l k) = rt g y s) : lvO g y s l = some k := by
  unfold lvO
  rw [List.find?_range_eq_some]
  exact ⟨by simpa using h1, List.mem_range.2 hk, fun j hj => by simpa using h j hj⟩

set_option maxHeartbeats 400000 in
theorem Leave_bad (k n : Int) (v : Value) (l : List Int) (s : Int) (w : World) (h : Ints w v l) (hb : Bad k n [l]) : Calls Try.prog 42 #[gV k n, v, .int .i64 s] w fun e w' => e = .returned (.tuple #[.int .i64 0, .int .i64 2]) ∧ Below w.heap.size w w' := by
  obtain ⟨va, vc, rfl, _, _, _⟩ := h.open
  have HV := Lib.hid h
  clear h
  have HO := Lib.hid (fun v W h => open_bad k n v [l] W h (by simp) hb)
  clear hb
  go_enter Try.func42, Try.ntmps42
  go_wp2_with fail
  refine (HO.out _ _ (rows1 (blk_at (by simp)) ((HV.out.alloc _).alloc _))).mono ?_
  rintro e w1 ⟨rfl, hb1⟩
  have HB1 : Hid (Below w.heap.size w w1) := Lib.hid ((a2 w _ _).trans (hb1.mono (by simp; try omega)))
  clear hb1 HO
  go_wp2_with fail
  exact bodyPost_ret (results_tmp2 rfl _ _ _) rfl ⟨rfl, HB1.out⟩

set_option maxRecDepth 20000 in
set_option maxHeartbeats 2000000 in
theorem Leave_ok (g : Nat) (hg : g < 17) (v : Value) (l : List Int) (s : Nat) (w : World) (h : Ints w v l) (hw : wordB g l = true) (hsh : ln g (folI g l) = l.length) (hs : s < kM g) :
    Calls Try.prog 42 #[gV (kd g) (nm g), v, .int .i64 (s : Nat)] w fun e w' => e = .returned (lvV (lvO g (folI g l) s (toN l))) ∧ Below w.heap.size w w' := by
  have hl30 : l.length ≤ 30 := by simp [wordB] at hw; omega
  have htl : (toN l).length = l.length := by simp [toN]
  have HLt := Lib.hid (toN_lt (word_let hw))
  have HNv := Lib.hid (fun v W (h : Ints W v l) => h.toN (word_let hw))
  have HO := Lib.hid (fun W b hc h => open1_ok g hg (v := v) (l := l) W b hc h hw)
  have hlt := folI_lt hg hw
  have hk4 := (tg hg).2.2.2.1
  have hE := (tE hg)
  have HM := Lib.hid (fun W => isMirror_any g hg (s : Int) W)
  have hmir : mirB g (s : Int) = true := by simp [mirB]; omega
  rw [hmir] at HM
  obtain ⟨va, vc, rfl, _, _, _⟩ := h.open
  have HV := Lib.hid h
  clear h hw hmir
  obtain ⟨T, hT⟩ : ∃ T, T = lvV (lvO g (folI g l) s (toN l)) := ⟨_, rfl⟩
  rw [← hT]
  have HTe := Lib.hid hT
  clear hT
  have hnl : ∀ k, k < l.length → ∀ x ∈ wo_ (toN l) k, x < kM g := fun k _ x hx => HLt.out x (wo_mem hx)
  have HWo : Hid (∀ k v W, k < l.length → Nats W v (toN l) → Calls Try.prog 82 #[v, .int .i64 (k : Nat)] W fun e w' => ∃ a c, e = .returned (.slice a (l.length - 1) c) ∧ Nats w' (.slice a (l.length - 1) c) (wo_ (toN l) k) ∧ Below W.heap.size W w') := Lib.hid (fun k v W hk h => by
    have h1 := without_any v (toN l) k W h (by omega) (by omega) (fun x hx => by have := HLt.out x hx; omega)
    rwa [htl] at h1)
  have HFo := Lib.hid (fun T0 k v W (hk : k < l.length) h hv => follow_any g T0 0 hg v (wo_ (toN l) k) W h hE.1 hv (hnl k hk))
  have HRy := (tb hg hlt hs).2.1
  have HY : Hid (∀ k, k ≤ l.length → k < l.length → fol g 0 (wo_ (toN l) k) < nE g) := Lib.hid (fun k _ hk => fol_lt hg _ 0 hE.1 (hnl k hk))
  have HSo : Hid (∀ k, k < l.length → (∀ t, t < k → fol g 0 (wo_ (toN l) t) ≠ rt g (folI g l) s) → fol g 0 (wo_ (toN l) k) = rt g (folI g l) s → T = .tuple #[.int .i64 (k : Nat), .int .i64 0]) := Lib.hid (fun k hk h1 h2 => by
    rw [HTe.out, lvO_some (by omega) h1 h2]; rfl)
  have HNo : Hid ((∀ t, t < l.length → fol g 0 (wo_ (toN l) t) ≠ rt g (folI g l) s) → T = .tuple #[.int .i64 0, .int .i64 4]) := Lib.hid (fun h1 => by
    rw [HTe.out, lvO_none (by rw [htl]; exact h1)]; rfl)
  clear hnl HTe HLt htl
  go_enter Try.func42, Try.ntmps42
  go_wp2_with fail
  refine (HO.out _ _ (blk_at (by simp)) ((HV.out.alloc _).alloc _)).mono ?_
  rintro e w1 ⟨T0, eb, eo, ec, rfl, hT, hx, hb1, hec⟩
  have HB1 : Hid (Below w.heap.size w w1) := Lib.hid ((a2 w _ _).trans (hb1.mono (by simp; try omega)))
  have HT := Lib.hid hT
  have HG : Hid (Blk 28 w1 w.heap.size #[.int .u8 (kd g), .int .i64 (nm g)]) := Lib.hid ((hb1.block _ (by simp; try omega)).trans ((Blk.new _ _ _).alloc _))
  have HVn := Lib.hid (HNv.out _ _ (HV.out.below HB1.out (Nat.le_refl _)))
  clear hb1 HO hT HNv
  have HLe := Lib.hid (length_any g T0 (folI g l) hg w1 HT.out hlt)
  rw [hsh] at HLe
  have g0 := HG.out.at0.1
  have g1 := HG.out.at0.2
  clear hsh
  generalize folI g l = y at *
  generalize hll : l.length = ll at *
  go_wp2_with fail
  refine HLe.out.mono ?_
  rintro e w2 ⟨rfl, rfl⟩
  go_wp2_with fail
  refine (HM.out _).mono ?_
  rintro e w2 ⟨rfl, hb2⟩
  have HT2 := Lib.hid (HT.out.below hb2)
  have HV2 := Lib.hid (HVn.out.below hb2 (Nat.le_refl _))
  have HB2 : Hid (Below w.heap.size w w2) := Lib.hid (HB1.out.trans (hb2.mono HB1.out.size))
  have hx2 := ck hx hb2
  clear hb2 g0 g1 HM HG hx HT HVn HB1 HLe
  go_wp2_with fail
  generalize hrr : rt g y s = r at *
  have HRr := Lib.hid hrr
  clear hrr
  go_loopw [39] (fun i wr => ∃ k : Nat, k ≤ ll ∧ i = .int .i64 k ∧ (∀ t, t < k → fol g 0 (wo_ (toN l) t) ≠ r) ∧ Below w2.heap.size w2 wr) (fun i _ => ll - (intOf i).toNat)
  case atStart => exact ⟨0, Nat.zero_le _, rfl, fun t ht => absurd ht (by omega), Below.refl _ _⟩
  case round =>
    obtain ⟨k, hk, rfl, hall, hb⟩ := hrel
    have HA := Lib.hid hall
    have HB := Lib.hid hb
    clear hall hb
    have HBr : Hid (Below w.heap.size w wr) := Lib.hid (HB2.out.trans (HB.out.mono HB2.out.size))
    by_cases hlk : k < ll
    · have HTr := Lib.hid (HT2.out.below HB.out)
      have HVr := Lib.hid (HV2.out.below HB.out (Nat.le_refl _))
      have hxr := ck hx2 HB.out
      obtain ⟨wb, cw, rb, cr, ws, R, C, ht⟩ := HTr.out.open hg
      have c1 := ht.c1
      obtain ⟨r1, r2, r3⟩ := ht.right _ hlt
      have r4 := r3 s hs
      rw [HRr.out] at r4
      have hcap := ht.cap.2
      clear ht r3
      generalize R y = Ry at *
      generalize C y = Cy at *
      have HKS : Hid (∀ W, Below wr.heap.size wr W → (Below wr.heap.size wr W ∧ W.cell? ⟨T0, 1, none⟩ = some (.slice (some ⟨rb, 0, none⟩) (nE g) cr) ∧ W.cell? ⟨eb, eo, none⟩ = some (.int .i64 (y : Nat)) ∧ W.cell? ⟨rb, y, none⟩ = some (.slice (some ⟨Ry, 0, none⟩) (kM g) Cy) ∧ W.cell? ⟨Ry, s, none⟩ = some (.int .i64 (r : Nat)))) := Lib.hid (fun W hb => ⟨hb, ck c1 hb, ck hxr hb, ck r1 hb, ck r4 hb⟩)
      have HWk := Lib.hid (fun v W h => HWo.out k v W hlk h)
      have HFk := Lib.hid (fun v W h hv => HFo.out T0 k v W hlk h hv)
      have HSk := Lib.hid (HSo.out k hlk HA.out)
      have HAn : Hid (fol g 0 (wo_ (toN l) k) ≠ r → ∀ t, t < k + 1 → fol g 0 (wo_ (toN l) t) ≠ r) := Lib.hid (fun h t ht => if q : t = k then q ▸ h else HA.out t (by omega))
      have hyk := HY.out k (by omega) hlk
      clear c1 r1 r4 hxr
      generalize hfk : fol g 0 (wo_ (toN l) k) = fk at *
      clear hfk
      go_wp2_with fail
      go_region_held3 (fun W => Below wr.heap.size wr W ∧ W.cell? ⟨T0, 1, none⟩ = some (.slice (some ⟨rb, 0, none⟩) (nE g) cr) ∧ W.cell? ⟨eb, eo, none⟩ = some (.int .i64 (y : Nat)) ∧ W.cell? ⟨rb, y, none⟩ = some (.slice (some ⟨Ry, 0, none⟩) (kM g) Cy) ∧ W.cell? ⟨Ry, s, none⟩ = some (.int .i64 (r : Nat)))
        (first | assumption | exact HKS.out _ (below_drew (Below.refl _ _)) | exact HKS.out _ ((‹Below wr.heap.size wr _ ∧ _›).1.trans (hb.mono (‹Below wr.heap.size wr _ ∧ _›).1.size)))
        (first
          | (go_at_call 82; refine (HWk.out _ _ (HVr.out.below (‹Below wr.heap.size wr _ ∧ _›).1 (Nat.le_refl _))).mono ?_; rintro e wv ⟨ua, uc, rfl, hu, hb⟩)
          | (go_at_call 72; refine (HFk.out _ _ (HTr.out.below (‹Below wr.heap.size wr _ ∧ _›).1) hu).mono ?_; rintro e wv2 ⟨rfl, rfl⟩))
      rename_i hHz
      have HBz : Hid (Below w2.heap.size w2 wv) := Lib.hid (HB.out.trans (hHz.1.mono HB.out.size))
      have HBw : Hid (Below w.heap.size w wv) := Lib.hid (HBr.out.trans (hHz.1.mono HBr.out.size))
      clear hHz hb hu HKS HWk HFk HTr HVr
      by_cases hq : fk = r
      · have HE := Lib.hid (HSk.out hq)
        subst hq
        clear HAn HSk HA
        go_wp2_with fail
        refine bodyPost_ret (results_tmp2 rfl _ _ _) rfl ?_
        rw [HE.out]
        exact ⟨rfl, HBw.out⟩
      · have HE := Lib.hid (HAn.out hq)
        have hqi : ((fk : Int) == (r : Int)) = false := beq_eq_false_iff_ne.2 (by omega)
        clear HAn HSk HA
        go_wp2_with fail
        go_roundw
        case rel => exact ⟨k + 1, by omega, by go_num, HE.out, HBz.out⟩
        case measure => simp [intOf]; omega
    · have hkk : k = ll := by omega
      have HE := Lib.hid (HNo.out (by rw [← hkk]; exact HA.out))
      clear hkk HA
      go_wp2_with fail
      refine bodyPost_ret (results_tmp2 rfl _ _ _) rfl ?_
      rw [HE.out]
      exact ⟨rfl, HBr.out⟩
end Go.Proofs.Ytlnbodpdgebflaa
