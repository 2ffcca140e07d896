/- the reference: Lower, Covers -/
import Derived.Test.YtlnbodpdgebflaaCa
import Derived.Deep.OwnRows
namespace Go.Proofs.Ytlnbodpdgebflaa
open Go.RowKit

def bools (n : Nat) (F : Nat → Bool) : List Value := (List.range n).map fun i => .bool (F i)
theorem bools_len (n : Nat) (F : Nat → Bool) : (bools n F).length = n := by simp [bools]
theorem bools_get {n j : Nat} (F : Nat → Bool) (h : j < n) : (bools n F)[j]? = some (.bool (F j)) := by simp [bools, h]
theorem bools_congr {n : Nat} {F G : Nat → Bool} (h : ∀ i, i < n → F i = G i) : bools n F = bools n G := List.map_congr_left fun i hi => by rw [h i (List.mem_range.1 hi)]
/-- A row of bools of one's own. -/
def OwnB (W : World) (B b n c : Nat) (F : Nat → Bool) : Prop := W.ownsRow B 4 1 (.slice (some ⟨b, 0, none⟩) n c) n (bools n F)
theorem OwnB.cell {W : World} {B b n c : Nat} {F : Nat → Bool} (h : OwnB W B b n c F) {j : Nat} (hj : j < n) : W.cell? ⟨b, j, none⟩ = some (.bool (F j)) := by
  rw [World.ownsRow.cellAt h j (by omega), bools_get F hj]
theorem OwnB.fr {W : World} {B b n c : Nat} {F : Nat → Bool} (h : OwnB W B b n c F) (j : Nat) : W.frozen? ⟨b, j, none⟩ = false := World.ownsRow.frozenAt h j
theorem OwnB.set {W : World} {B b n c : Nat} {F G : Nat → Bool} (h : OwnB W B b n c F) (j : Nat) (v : Bool) (hG : ∀ i, i < n → G i = if i = j then v else F i) : OwnB (W.setCell ⟨b, j, none⟩ (.bool v)) B b n c G := by
  have h1 := (World.ownsRow.stored h j (.bool v)).1
  have e : (bools n F).set j (.bool v) = bools n G := by
    apply List.ext_getElem?
    intro i
    by_cases hi : i < n
    · rw [bools_get G hi, hG i hi]
      by_cases q : j = i
      · subst q
        rw [List.getElem?_set_self (by rw [bools_len]; exact hi), if_pos rfl]
      · rw [List.getElem?_set_ne q, if_neg (Ne.symm q), bools_get F hi]
    · rw [List.getElem?_eq_none (by rw [List.length_set, bools_len]; omega), List.getElem?_eq_none (by rw [bools_len]; omega)]
  rw [e] at h1
  exact h1
theorem OwnB.congr {W : World} {B b n c : Nat} {F G : Nat → Bool} (h : OwnB W B b n c F) (hG : ∀ i, i < n → F i = G i) : OwnB W B b n c G := by
  unfold OwnB at h ⊢
  rwa [← bools_congr hG]
theorem OwnB.below {W W' : World} {B b n c C : Nat} {F : Nat → Bool} (h : OwnB W B b n c F) (hb : Below C W W') (hC : W.heap.size ≤ C) : OwnB W' B b n c F := owns_below h hb hC
theorem OwnB.ge {W : World} {B b n c : Nat} {F : Nat → Bool} (h : OwnB W B b n c F) : B ≤ b := (World.ownsRow.lt h b rfl).1
theorem OwnB.capOk {W : World} {B b n c : Nat} {F : Nat → Bool} (h : OwnB W B b n c F) : n ≤ c := by
  obtain ⟨_, h2⟩ := h
  rcases h2 with ⟨e, _⟩ | ⟨_, _, _, e, _, _, h3, _⟩
  · simp at e
  · simp only [Value.slice.injEq] at e; omega
theorem bools_one (n : Nat) (F : Nat → Bool) : ∀ u ∈ bools n F, u.oneCell' = true := by
  intro u hu
  obtain ⟨i, _, rfl⟩ := List.mem_map.1 hu
  rfl
theorem Try.info4 : (Try.prog.info? 4).map (fun i => (i.zero, i.size, i.bytes)) = some (some (.bool false), 1, 1) := by kernel_rfl
theorem run_makeB (n : Nat) (hn : n ≤ 1000) (W : World) : (Instr.makeSlice 59 (.int .i64 n) (.int .i64 n)).run Try.prog W = .ok (.slice (some ⟨W.heap.size, 0, none⟩) n n) (W.alloc (.cells (bools n fun _ => false).toArray 4)) := by
  rw [run_make_row' (P := Try.prog) 59 4 (.bool false) 1 Try.underlying59 Try.info4 rfl .i64 .i64 n (by omega) (by omega) W]
  have e : madeCells #[Value.bool false] n = (bools n fun _ => false).toArray := by
    apply Array.ext'
    rw [toList_madeCells_one]
    exact (List.eq_replicate_iff.2 ⟨by simp [bools], fun b hb => by obtain ⟨j, _, rfl⟩ := List.mem_map.1 hb; rfl⟩).symm
  rw [e]
theorem ownB_made (n : Nat) (hn : n ≤ 1000) (W : World) : OwnB (W.alloc (.cells (bools n fun _ => false).toArray 4)) W.heap.size W.heap.size n n fun _ => false := by
  have h := World.ownsRow_lit (base := W.heap.size) (e := 4) (size := 1) W (bools n fun _ => false).toArray n (Nat.le_refl _) (by unfold maxLen; omega) (by simp [bools])
  exact h
theorem Try.underlying59' : Try.prog.underlying 59 = some (.slice 4) := Try.underlying59

theorem OwnB.news {W : World} {B b n c : Nat} {F : Nat → Bool} (h : OwnB W B b n c F) (j : Nat) (u : Value) (hj : (bools n F)[j]? = some u) : W.cell? ((⟨b, 0, none⟩ : Addr).add j) = some u := by
  have hlt : j < n := by have := (List.getElem?_eq_some_iff.1 hj).1; rwa [bools_len] at this
  rw [Addr.add_lit, Nat.zero_add, h.cell hlt, ← hj, bools_get F hlt]
theorem OwnB.mono {W : World} {B C b n c : Nat} {F : Nat → Bool} (h : OwnB W B b n c F) (hC : C ≤ B) : OwnB W C b n c F := owns_mono h hC
theorem ownB_first (n : Nat) (hn : n ≤ 1000) (W : World) : OwnB (W.alloc (.cells ((bools n fun _ => false).set 0 (.bool true)).toArray 4)) W.heap.size W.heap.size n n fun j => j == 0 := by
  have e : (bools n fun _ => false).set 0 (.bool true) = bools n fun j => j == 0 := by
    apply List.ext_getElem?
    intro i
    by_cases hi : i < n
    · rw [bools_get _ hi]
      by_cases q : 0 = i
      · subst q
        rw [List.getElem?_set_self (by rw [bools_len]; exact hi)]; rfl
      · rw [List.getElem?_set_ne q, bools_get _ hi]
        simp; omega
    · rw [List.getElem?_eq_none (by rw [List.length_set, bools_len]; omega), List.getElem?_eq_none (by rw [bools_len]; omega)]
  rw [e]
  exact World.ownsRow_lit (base := W.heap.size) (e := 4) (size := 1) W (bools n _).toArray n (Nat.le_refl _) (by unfold maxLen; omega) (by simp [bools])

set_option maxRecDepth 20000 in
set_option maxHeartbeats 2000000 in
theorem Lower_any (g b0 c0 b1 c1 b2 c2 x : Nat) (hg : g < 17) (w : World) (h : RP w g b0 b1 b2) (hx : x < nE g) :
    Calls Try.prog 49 #[rV g b0 c0 b1 c1 b2 c2, .int .i64 x] w fun e w' => ∃ b c, e = .returned (.slice (some ⟨b, 0, none⟩) (nE g) c) ∧ OwnB w' w.heap.size b (nE g) c (lwF g (wd g x)) ∧ Below w.heap.size w w' := by
  have HR := Lib.hid (h.box c0 c1 c2)
  have hE := tE hg
  have hk4 := (tg hg).2.2.2.1
  have hl12 := (tx hg hx).2.1
  have hlw : (wd g x).length = ln g x := rfl
  have HLt := Lib.hid (Let.wd hg hx)
  obtain ⟨i4, hi4, hz0, hz1, hz2⟩ := info_parts Try.info4
  have hmk := run_makeB (nE g) (by omega)
  have hbz : (bools (nE g) fun _ => false)[0]? = some (.bool false) := bools_get _ hE.1
  obtain ⟨wa, wc, q1, q2⟩ := h.p0 x hx
  obtain ⟨_, _, e', hwcap, _, q3⟩ := Nats.open q2
  cases e'
  rw [hlw] at q1 hwcap q3
  have HW3 := Lib.hid q3
  unfold rV
  clear q2 q3 h
  have t0 := HR.out.at.1
  have o0 := alloc_cell' (.cells (bools (nE g) fun _ => false).toArray 4) t0
  have p0 := alloc_cell' (.cells ((bools (nE g) fun _ => false).set 0 (.bool true)).toArray 4) t0
  have p1 := alloc_cell' (.cells ((bools (nE g) fun _ => false).set 0 (.bool true)).toArray 4) (alloc_cell' (.cells #[.slice (some ⟨b0, 0, none⟩) (nE g) c0, .slice (some ⟨b1, 0, none⟩) (nE g) c1, .slice (some ⟨b2, 0, none⟩) (nE g) c2] 39) q1)
  have HK0 := Lib.hid (ownB_first (nE g) (by omega) (w.alloc (.cells #[.slice (some ⟨b0, 0, none⟩) (nE g) c0, .slice (some ⟨b1, 0, none⟩) (nE g) c1, .slice (some ⟨b2, 0, none⟩) (nE g) c2] 39)))
  have HB0 := Lib.hid (a2 w (.cells #[.slice (some ⟨b0, 0, none⟩) (nE g) c0, .slice (some ⟨b1, 0, none⟩) (nE g) c1, .slice (some ⟨b2, 0, none⟩) (nE g) c2] 39) (.cells ((bools (nE g) fun _ => false).set 0 (.bool true)).toArray 4))
  have HR0 := Lib.hid (HR.out.below (a1 (w.alloc (.cells #[.slice (some ⟨b0, 0, none⟩) (nE g) c0, .slice (some ⟨b1, 0, none⟩) (nE g) c1, .slice (some ⟨b2, 0, none⟩) (nE g) c2] 39)) (.cells ((bools (nE g) fun _ => false).set 0 (.bool true)).toArray 4)))
  clear q1 HR
  go_enter Try.func49, Try.ntmps49
  go_wp2_with fail
  clear o0 p0 p1 t0 hmk hbz
  go_loopw [23, 5] (fun i v wr => ∃ t b c, t ≤ ln g x ∧ i = .int .i64 (t : Nat) ∧ v = .slice (some ⟨b, 0, none⟩) (nE g) c ∧ OwnB wr w.heap.size b (nE g) c (lwF g ((wd g x).take t)) ∧ RB wr w.heap.size g b0 c0 b1 c1 b2 c2 ∧ Below w.heap.size w wr) (fun i _ _ => ln g x - (intOf i).toNat)
  case atStart =>
    refine ⟨0, _, _, Nat.zero_le _, rfl, rfl, ?_, HR0.out, HB0.out⟩
    have h1 := HK0.out.mono (C := w.heap.size) (by simp)
    rw [show (w.alloc (.cells #[.slice (some ⟨b0, 0, none⟩) (nE g) c0, .slice (some ⟨b1, 0, none⟩) (nE g) c1, .slice (some ⟨b2, 0, none⟩) (nE g) c2] 39)).heap.size = w.heap.size + 1 by simp] at h1
    exact h1.congr fun i _ => rfl
  case round =>
    clear HK0 HR0 HB0
    obtain ⟨t, b, c, ht, rfl, rfl, hO, hR, hb⟩ := hrel
    have HO := Lib.hid hO
    have HR := Lib.hid hR
    have HB := Lib.hid hb
    have hcap := hO.capOk
    clear hO hR hb
    by_cases hlt : t < ln g x
    · obtain ⟨sb, so, rfl, hsc⟩ := HW3.out t hlt
      have hsr := ck hsc HB.out
      have hs : (wd g x).getD t 0 < kM g := HLt.out _ (natD_mem (by rw [hlw]; exact hlt))
      have HTk : Hid ((wd g x).take (t + 1) = (wd g x).take t ++ [(wd g x).getD t 0]) := Lib.hid (natT_snoc' _ _ (by rw [hlw]; exact hlt))
      clear hsc
      generalize (wd g x).getD t 0 = s at *
      obtain ⟨L, hL⟩ : ∃ L, L = (wd g x).take t := ⟨_, rfl⟩
      rw [← hL] at HO HTk
      clear hL
      go_wp2_with (first | (at_builtin; refine wpList_append_own _ rfl _ _ 59 rfl wr.heap.size 4 i4 (.bool false) 1 1 Try.underlying59 hi4 hz0 hz1 hz2 rfl (by decide) _ _ _ rfl (World.ownsRow_made wr #[] 0 (Nat.le_refl _) (Nat.zero_le _) rfl) ⟨b, 0, none⟩ (nE g) c (bools (nE g) (lwF g L)) rfl (by simp [bools]) (fun j u hj => alloc_cell' _ (HO.out.news j u hj)) (bools_one _ _) (by unfold maxLen; omega) (by omega) (by simp) ?_; intro v9 w9 hown9 hg9 _) | fail)
      have HOw : Hid (w9.ownsRow wr.heap.size 4 1 v9 (nE g) (bools (nE g) (lwF g L))) := Lib.hid (by simpa using hown9)
      have HB9 : Hid (Below wr.heap.size wr w9) := Lib.hid ((a1 wr _).grown hg9 (by simp) fun q e => ((World.ownsRow_made (base := wr.heap.size) (e := 4) (size := 1) wr #[] 0 (Nat.le_refl _) (Nat.zero_le _) rfl).lt q e).1)
      obtain ⟨b9, c9, rfl, hc9⟩ := own_lit HOw.out hE.1
      have HO9 : Hid (OwnB w9 wr.heap.size b9 (nE g) c9 (lwI g L s 0)) := Lib.hid (OwnB.congr (F := lwF g L) HOw.out fun i _ => (lwI_zero g L s i).symm)
      clear hown9 hg9 HOw hsr
      go_loopw [32] (fun j wi => ∃ k, k ≤ nE g ∧ j = .int .i64 (k : Nat) ∧ OwnB wi wr.heap.size b9 (nE g) c9 (lwI g L s k) ∧ Below wr.heap.size wr wi) (fun j _ => nE g - (intOf j).toNat)
      case atStart => exact ⟨0, Nat.zero_le _, rfl, HO9.out, HB9.out⟩
      case round =>
        rename World => wi
        clear HO9 HB9
        obtain ⟨k, hk, rfl, hOi, hbi⟩ := hrel
        have HOi := Lib.hid hOi
        have HBi := Lib.hid hbi
        clear hOi hbi
        by_cases hl : k < nE g
        · have hck := ck (HO.out.cell hl) HBi.out
          cases hf : lwF g L k with
          | true =>
            rw [hf] at hck
            have HRi := Lib.hid (HR.out.below HBi.out)
            have t2 := HRi.out.at.2.2
            obtain ⟨rq, ro, rc, r1, r4⟩ := HRi.out.rp.next hl hs
            have hr := (tb hg hl hs).2.1
            have c9c := HOi.out.cell hr
            have c9f := HOi.out.fr (rt g k s)
            have HO10 : Hid (OwnB (wi.setCell ⟨b9, rt g k s, none⟩ (.bool true)) wr.heap.size b9 (nE g) c9 (lwI g L s (k + 1))) := Lib.hid (HOi.out.set _ true fun i hi => lwI_yes hg L hs hl hi hf)
            have HB10 : Hid (Below wr.heap.size wr (wi.setCell ⟨b9, rt g k s, none⟩ (.bool true))) := Lib.hid (below_cell HBi.out (a := ⟨b9, rt g k s, none⟩) HOi.out.ge _)
            clear hf
            generalize lwI g L s k (rt g k s) = ov at *
            generalize rt g k s = r at *
            generalize nE g = N at *
            go_wp2_with fail
            go_roundw
            case rel => exact ⟨k + 1, by omega, by go_num, HO10.out, HB10.out⟩
            case measure => simp [intOf]; omega
          | false =>
            rw [hf] at hck
            have HO10 : Hid (OwnB wi wr.heap.size b9 (nE g) c9 (lwI g L s (k + 1))) := Lib.hid (HOi.out.congr fun i _ => (lwI_no L hf).symm)
            clear hf
            go_wp2_with fail
            go_roundw
            case rel => exact ⟨k + 1, by omega, by go_num, HO10.out, HBi.out⟩
            case measure => simp [intOf]; omega
        · have hkk : k = nE g := by omega
          have HE : Hid (OwnB wi w.heap.size b9 (nE g) c9 (lwF g ((wd g x).take (t + 1)))) := Lib.hid (by
            rw [HTk.out]
            have h1 := HOi.out
            rw [hkk] at h1
            exact (h1.congr fun i hi => lwI_end hg L hs hi).mono HB.out.size)
          clear hkk
          go_wp2_with fail
          go_roundw
          case rel => exact ⟨t + 1, b9, c9, by omega, by go_num, rfl, HE.out, HR.out.below HBi.out, HB.out.trans (HBi.out.mono HB.out.size)⟩
          case measure => simp [intOf]; omega
    · have htt : t = ln g x := by omega
      have HE : Hid (OwnB wr w.heap.size b (nE g) c (lwF g (wd g x))) := Lib.hid (by
        have h1 := HO.out
        rwa [htt, ← hlw, List.take_length] at h1)
      clear htt
      go_wp2_with fail
      go_ret
      exact ⟨_, _, rfl, HE.out, HB.out⟩
end Go.Proofs.Ytlnbodpdgebflaa
