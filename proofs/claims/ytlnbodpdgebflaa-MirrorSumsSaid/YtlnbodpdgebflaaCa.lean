/- Covers -/
import Derived.Test.YtlnbodpdgebflaaCv
import Derived.Test.YtlnbodpdgebflaaQs
namespace Go.Proofs.Ytlnbodpdgebflaa
open Go.RowKit

/-- A row of words that grows in a block of its own; the words lie in memory that was there before. -/
def RowsN (W0 W : World) (B : Nat) (v : Value) (L : List (List Nat)) : Prop := ∃ vs, W.ownsRow B 24 1 v L.length vs ∧ ∀ (j : Nat) (u : Value) (l : List Nat), vs[j]? = some u → L[j]? = some l → Nats W0 u l
theorem RowsN.nil (W0 W : World) (B : Nat) : RowsN W0 W B (.slice none 0 0) [] := ⟨[], World.ownsRow_nil _ _ _ _, fun j u l h => by simp at h⟩
theorem RowsN.push {W0 W' : World} {B : Nat} {v' u : Value} {vs : List Value} {L : List (List Nat)} {l : List Nat} (hv : vs.length = L.length) (h : ∀ (j : Nat) (u : Value) (l : List Nat), vs[j]? = some u → L[j]? = some l → Nats W0 u l) (hu : Nats W0 u l)
    (ho : W'.ownsRow B 24 1 v' (L.length + 1) (vs ++ [u])) : RowsN W0 W' B v' (L ++ [l]) := by
  refine ⟨vs ++ [u], by simpa using ho, fun j x q hx hq => ?_⟩
  rcases Nat.lt_or_ge j vs.length with hj | hj
  · rw [List.getElem?_append_left hj] at hx
    rw [List.getElem?_append_left (by omega)] at hq
    exact h j x q hx hq
  · rw [List.getElem?_append_right hj] at hx
    rw [List.getElem?_append_right (by omega)] at hq
    have e0 := (List.getElem?_eq_some_iff.1 hx).1
    simp at e0
    have e : j - vs.length = 0 := by omega
    have e' : j - L.length = 0 := by omega
    rw [e] at hx; rw [e'] at hq
    simp at hx hq
    subst hx hq; exact hu
theorem RowsN.read {W0 W : World} {B : Nat} {v : Value} {L : List (List Nat)} (h : RowsN W0 W B v L) (hb : Below W0.heap.size W0 W) (hn : L.length ≤ 17592186044416) : NatRows W v L := by
  obtain ⟨vs, h1, h2⟩ := h
  exact natRows_own h1 rfl hn fun i u l a b => Ints.below (h2 i u l a b) hb (Nat.le_refl _)
theorem RowsN.below {W0 W W' : World} {B : Nat} {v : Value} {L : List (List Nat)} (h : RowsN W0 W B v L) (hb : Below W.heap.size W W') : RowsN W0 W' B v L := by
  obtain ⟨vs, h1, h2⟩ := h
  exact ⟨vs, owns_below h1 hb (Nat.le_refl _), h2⟩
theorem RowsN.form {W0 W : World} {B : Nat} {v : Value} {L : List (List Nat)} (h : RowsN W0 W B v L) : ∃ a c, v = .slice a L.length c := by
  obtain ⟨vs, h1, _⟩ := h
  exact owns_form h1
theorem RowsN.form' {W0 W : World} {B : Nat} {v : Value} {L : List (List Nat)} (h : RowsN W0 W B v L) : ∃ a c n, v = .slice a n c ∧ L.length = n := by
  obtain ⟨a, c, e⟩ := h.form
  exact ⟨a, c, _, e, rfl⟩
theorem cov_len (g x k : Nat) : ((cvL g x k).map (wd g)).length = (cvL g x k).length := by simp

set_option maxHeartbeats 400000 in
theorem Covers_bad (k n : Int) (v : Value) (l : List Int) (w : World) (h : Ints w v l) (hb : Bad k n [l]) : Calls Try.prog 47 #[gV k n, v] w fun e w' => e = .returned (.tuple #[.slice none 0 0, .int .i64 2]) ∧ Below w.heap.size w w' := by
  obtain ⟨va, vc, rfl, _, _, _⟩ := h.open
  have HV := Lib.hid h
  clear h
  have HO := Lib.hid (fun v W h => open_bad k n v [l] W h (by simp) hb)
  clear hb
  go_enter Try.func47, Try.ntmps47
  go_wp2_with fail
  refine (HO.out _ _ (rows1 (blk_at (by simp)) ((HV.out.alloc _).alloc _))).mono ?_
  rintro e w1 ⟨rfl, hb1⟩
  have HB1 : Hid (Below w.heap.size w w1) := Lib.hid ((a2 w _ _).trans (hb1.mono (by simp; try omega)))
  clear hb1 HO
  go_wp2_with fail
  exact bodyPost_ret (results_tmp2 rfl _ _ _) rfl ⟨rfl, HB1.out⟩

set_option maxHeartbeats 2000000 in
theorem Covers_ok (g : Nat) (hg : g < 17) (v : Value) (l : List Int) (w : World) (h : Ints w v l) (hw : wordB g l = true) : Calls Try.prog 47 #[gV (kd g) (nm g), v] w fun e w' =>
    ∃ a c, e = .returned (.tuple #[.slice a (cvL g (folI g l) (nE g)).length c, .int .i64 0]) ∧ NatRows w' (.slice a (cvL g (folI g l) (nE g)).length c) ((cvL g (folI g l) (nE g)).map (wd g)) ∧ Below w.heap.size w w' := by
  obtain ⟨va, vc, rfl, _, _, _⟩ := h.open
  have HV := Lib.hid h
  clear h
  have HO := Lib.hid (fun W b hc h => open1_ok g hg (v := .slice va l.length vc) (l := l) W b hc h hw)
  have hlt := folI_lt hg hw
  have hE := (tE hg).2
  obtain ⟨i24, hi24, hy0, hy1, hy2⟩ := info_parts Try.info24
  obtain ⟨y, hy⟩ : ∃ y, y = folI g l := ⟨_, rfl⟩
  rw [← hy] at HO hlt ⊢
  clear hy hw
  have hly := (tx hg hlt).2.1
  go_enter Try.func47, Try.ntmps47
  go_wp2_with fail
  refine (HO.out _ _ (blk_at (by simp)) ((HV.out.alloc _).alloc _)).mono ?_
  rintro e w1 ⟨T0, eb, eo, ec, rfl, hT, hx, hb1, hec⟩
  have HB1 : Hid (Below w.heap.size w w1) := Lib.hid ((a2 w _ _).trans (hb1.mono (by simp; try omega)))
  have HT := Lib.hid hT
  clear hb1 HO hT
  obtain ⟨wb, cw, rb, cr, ws, R, C, ht⟩ := HT.out.open hg
  have c0 := ht.c0
  have hcap := ht.cap
  have HWd := Lib.hid ht.word
  have HX := Lib.hid hx
  clear ht hx
  go_wp2_with fail
  clear c0
  go_loopw [28, 9] (fun i u wr => ∃ k : Nat, k ≤ nE g ∧ i = .int .i64 k ∧ RowsN w1 wr w1.heap.size u ((cvL g y k).map (wd g)) ∧ Below w1.heap.size w1 wr) (fun i _ _ => nE g - (intOf i).toNat)
  case atStart => exact ⟨0, Nat.zero_le _, rfl, RowsN.nil _ _ _, Below.refl _ _⟩
  case round =>
    obtain ⟨k, hk, rfl, hR, hb⟩ := hrel
    obtain ⟨ua, uc, cn, rfl, hcn⟩ := hR.form'
    have hcl : cn ≤ k := by rw [← hcn, cov_len]; exact cvL_len g y k
    have HCN := Lib.hid hcn
    have HR := Lib.hid hR
    have HB := Lib.hid hb
    clear hR hb hcn
    by_cases hl : k < nE g
    · obtain ⟨a, c, _, hc, hn, _⟩ := HWd.out k hl
      have hcr := ck hc HB.out
      have hxr := ck HX.out HB.out
      have HN := Lib.hid hn
      have HTr := Lib.hid (HT.out.below HB.out)
      have HL1 := Lib.hid (fun n => length_any g T0 k hg (wr.drewN n) (HTr.out.drewN n) hl)
      have HL2 := Lib.hid (fun n => length_any g T0 y hg (wr.drewN n) (HTr.out.drewN n) hlt)
      have HLo := Lib.hid (fun n => below_any g T0 k y hg (wr.drewN n) (HTr.out.drewN n) hl hlt)
      have HS := Lib.hid (cvL_succ g y k)
      have hlk := (tx hg hl).2.1
      obtain ⟨vs, hown, hvs⟩ := HR.out
      have HO := Lib.hid hown
      have HVS := Lib.hid hvs
      have HVL : Hid (vs.length = ((cvL g y k).map (wd g)).length) := Lib.hid (by have := hown.1; omega)
      rw [HCN.out] at HO
      have hW0 := HB.out.size
      have HR2 := HR
      clear hc hn hown hvs HR
      by_cases hq : ln g k + 1 = ln g y
      · have hqe : ((ln g k : Int) == (ln g y : Int) - 1) = true := beq_iff_eq.2 (by omega)
        have hqs : (ln g k + 1 == ln g y) = true := beq_iff_eq.2 hq
        rw [hqs, Bool.true_and] at HS
        clear hqs hq
        obtain ⟨B, hB⟩ : ∃ B, B = loB g k y := ⟨_, rfl⟩
        rw [← hB] at HLo HS
        have HNy : Hid (Nats w1 (.slice a (ln g k) c) (wd g k)) := HN
        clear hB HN
        generalize ln g k = p at *
        generalize ln g y = q at *
        cases B with
        | true =>
          have HNx : Hid (((cvL g y (k + 1)).map (wd g)) = (cvL g y k).map (wd g) ++ [wd g k]) := Lib.hid (by rw [HS.out, if_pos rfl]; simp)
          clear HS
          go_wp2_with fail
          go_quiet (first | (go_at_call 70; first | with_reducible exact quiet_eq (HL1.out _) | with_reducible exact quiet_eq (HL2.out _)) | (go_at_call 83; exact quiet_lo (HLo.out _)))
          have HBq : Hid (Below w1.heap.size w1 (wr.drewN nq)) := Lib.hid (below_drewN HB.out nq)
          have HOq : Hid ((wr.drewN nq).ownsRow w1.heap.size 24 1 (.slice ua cn uc) cn vs) := HO
          generalize wr.drewN nq = wq at *
          have hWq := HBq.out.size
          clear HL1 HL2 HLo HO HB
          go_wp2_with (first | (at_builtin; refine wpList_append_own _ rfl _ _ 33 rfl w1.heap.size 24 i24 (.slice none 0 0) 1 24 Try.underlying33 hi24 hy0 hy1 hy2 rfl (by decide) _ _ _ rfl (HOq.out.alloc _) ⟨wq.heap.size, 0, none⟩ 1 1 [.slice a p c] rfl rfl (newOne _ _ _) (by intro u hu; simp at hu; subst hu; rfl) (by unfold maxLen; omega) (by omega) (by simp; omega) ?_; intro v9 w9 hown9 hg9 _) | fail)
          have HR9 : Hid (RowsN w1 w9 w1.heap.size v9 ((cvL g y (k + 1)).map (wd g))) := Lib.hid (by
            rw [HNx.out]
            exact RowsN.push HVL.out HVS.out HNy.out (by rw [HCN.out]; exact hown9))
          have HB9 : Hid (Below w1.heap.size w1 w9) := Lib.hid ((HBq.out.alloc hWq _).grown hg9 (by simp; omega) fun q e => (HOq.out.lt q e).1)
          obtain ⟨a9, c9, rfl⟩ := owns_form hown9
          clear hown9 hg9
          go_roundw
          case rel => exact ⟨k + 1, by omega, by go_num, HR9.out, HB9.out⟩
          case measure => simp [intOf]; omega
        | false =>
          have HNx : Hid (RowsN w1 wr w1.heap.size (.slice ua cn uc) ((cvL g y (k + 1)).map (wd g))) := Lib.hid (by rw [HS.out, if_neg (by decide)]; exact HR2.out)
          clear HS
          go_wp2_with fail
          go_quiet (first | (go_at_call 70; first | with_reducible exact quiet_eq (HL1.out _) | with_reducible exact quiet_eq (HL2.out _)) | (go_at_call 83; exact quiet_lo (HLo.out _)))
          go_wp2_with fail
          go_roundw
          case rel => exact ⟨k + 1, by omega, by go_num, HNx.out.below (below_drewN (Below.refl _ _) _), below_drewN HB.out _⟩
          case measure => simp [intOf]; omega
      · have hqe : ((ln g k : Int) == (ln g y : Int) - 1) = false := beq_eq_false_iff_ne.2 (by omega)
        have HNx : Hid (RowsN w1 wr w1.heap.size (.slice ua cn uc) ((cvL g y (k + 1)).map (wd g))) := Lib.hid (by rw [HS.out, if_neg (by simp [hq])]; exact HR2.out)
        clear HS hq HN
        generalize ln g k = p at *
        generalize ln g y = q at *
        go_wp2_with fail
        go_quiet (first | (go_at_call 70; first | with_reducible exact quiet_eq (HL1.out _) | with_reducible exact quiet_eq (HL2.out _)))
        go_wp2_with fail
        go_roundw
        case rel => exact ⟨k + 1, by omega, by go_num, HNx.out.below (below_drewN (Below.refl _ _) _), below_drewN HB.out _⟩
        case measure => simp [intOf]; omega
    · have hkk : k = nE g := by omega
      have HE : Hid (NatRows wr (.slice ua cn uc) ((cvL g y (nE g)).map (wd g))) := Lib.hid (by rw [← hkk]; exact HR.out.read HB.out (by rw [HCN.out]; omega))
      have HL : Hid (cn = (cvL g y (nE g)).length) := Lib.hid (by rw [← hkk, ← HCN.out, cov_len])
      clear hkk HR
      go_wp2_with fail
      refine bodyPost_ret (results_tmp2 rfl _ _ _) rfl ?_
      rw [← HL.out]
      exact ⟨_, _, rfl, HE.out, HB1.out.trans (HB.out.mono HB1.out.size)⟩
end Go.Proofs.Ytlnbodpdgebflaa
