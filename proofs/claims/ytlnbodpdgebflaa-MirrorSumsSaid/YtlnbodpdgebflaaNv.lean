/- newTable -/
import Derived.Test.YtlnbodpdgebflaaNw
import Derived.Deep.RegionHeld3
namespace Go.Proofs.Ytlnbodpdgebflaa
open Go.RowKit

theorem tE {g : Nat} (hg : g < 17) : 0 < nE g ∧ nE g ≤ 120 := by
  have : ∀ g < 17, 0 < nE g ∧ nE g ≤ 120 := by decide +kernel
  exact this g hg

theorem cn_mono (g : Nat) (hg : g < 17) {x kn : Nat} (hx : x < nE g) (hk : kM g = kn) : ∀ s, s ≤ kn → cn g (x * kn) ≤ cn g (x * kn + s)
  | 0, _ => Nat.le_refl _
  | s + 1, hs => by
    have h1 := cn_mono g hg hx hk s (by omega)
    have h2 := (tb hg hx (show s < kM g by omega)).2.2.1
    rw [hk] at h2
    show _ ≤ cn g (x * kn + s + 1)
    omega
theorem hxc2 (g : Nat) (hg : g < 17) {x kn s : Nat} (hx : x < nE g) (hk : kM g = kn) (hs : s ≤ kn) : x < cn g (x * kn + s) := by
  have h1 := cn_mono g hg hx hk s hs
  have h2 := (tx hg hx).1
  rw [hk] at h2
  omega
theorem turn_rd {W : World} {B g n cap i b : Nat} (h : W.ownsRow B 117 24 (.slice (some ⟨b, 0, none⟩) n cap) n (flatT g n)) (hi : i < n) : W.rangeAt b (i * 24) (byt (tn g i)).toList := by
  obtain ⟨b', e, h2⟩ := turn_at h hi
  cases e
  exact h2

theorem Try.info24 : (Try.prog.info? 24).map (fun i => (i.zero, i.size, i.bytes)) = some (some (.slice none 0 0), 1, 24) := by kernel_rfl
theorem lit_inj {a b : Int} (h : (DataW.lit (.int .i64 a) : DataW Unit) = .lit (.int .i64 b)) : a = b := by
  simpa using h
theorem new24 (f : Nat → Nat) (w : World) : ∀ (j : Nat) (u : Value), (byt f).toList[j]? = some u → (w.alloc (.cells (byt f) 117)).cell? ((⟨w.heap.size, 0, none⟩ : Addr).add j) = some u := by
  intro j u hj
  rw [Addr.add_lit, Nat.zero_add, (Blk.new 117 w (byt f)).cell]
  simpa using hj
theorem one24 (f : Nat → Nat) : ∀ u ∈ (byt f).toList, u.oneCell' = true := by
  intro u hu
  exact Array.all_eq_true_iff_forall_mem.1 (byt_one f) u (by simpa using hu)
theorem word_bg {w7 w8 : World} {u : Value} {p q : List Nat} {s B : Nat} (h : w8.ownsRow w7.heap.size 3 1 u (p.length + 1) (ints (nats (p ++ [s])))) (hq : q = p ++ [s]) (hB : B ≤ w7.heap.size) (o : Obj) : Bg B (w8.alloc o) u q := by
  subst hq
  unfold Bg
  rw [show (p ++ [s]).length = p.length + 1 by simp]
  exact (owns_mono h hB).alloc o
theorem word_nr {w7 w8 : World} {u : Value} {n Rb : Nat} {xs : List Value} (h : w8.ownsRow w7.heap.size 3 1 u n xs) (hR : Rb < w7.heap.size) : u.ownBlock = none ∨ u.ownBlock ≠ some Rb := own_lt h hR
/-- The table of a group in block T0. -/
def TableAt (w : World) (T0 g : Nat) : Prop := ∃ (B : Nat) (vw vr : Value) (ws rs : List Value), Blk 82 w T0 #[vw, vr] ∧ w.ownsRow B 24 1 vw (nE g) ws ∧ w.ownsRow B 24 1 vr (nE g) rs ∧
  (∀ i, i < nE g → Bg B w (ws.getD i undef) (wd g i)) ∧ (∀ i, i < nE g → Bg B w (rs.getD i undef) (rw_ g i))
theorem boxr {w W W' : World} {g S M T0 nm nt nw x : Nat} {vt vw vr : Value} {ws rs : List Value} (h : NT w W g S M T0 nm nt nw x vt vw vr ws rs) (hg : W.grownBy W' vr.ownBlock) : W'.cell? ⟨T0, 1, none⟩ = some vr ∧ W'.frozen? ⟨T0, 1, none⟩ = false := by
  have h1 : Blk 82 W' T0 #[vw, vr] := (hg.block T0 h.box.lt (own_blk h.or h.box (by simp))).trans h.box
  exact ⟨h1.at0.2, h1.fr 1⟩
theorem boxw {w W W' : World} {g S M T0 nm nt nw x s kn Rb : Nat} {vt vw vr : Value} {ws rs : List Value} (h : Inn w W g S M T0 nm nt nw x s kn Rb vt vw vr ws rs) (hg : W.grownBy W' vw.ownBlock) : W'.cell? ⟨T0, 0, none⟩ = some vw ∧ W'.frozen? ⟨T0, 0, none⟩ = false := by
  have h1 : Blk 82 W' T0 #[vw, vr] := (hg.block T0 h.nt.box.lt (own_blk h.nt.ow h.nt.box (by simp))).trans h.nt.box
  exact ⟨h1.at0.1, h1.fr 0⟩

set_option maxRecDepth 100000 in
set_option maxHeartbeats 4000000 in
theorem newTable_any (g : Nat) (hg : g < 17) (w : World) : Calls Try.prog 98 #[gV (kd g) (nm g)] w fun e w' => ∃ T0, e = .returned (.pointer (some ⟨T0, 0, none⟩)) ∧ TableAt w' T0 g ∧ Below w.heap.size w w' := by
  have HM := Lib.hid (fun W => mirrorsOf_any g hg W)
  have HT := Lib.hid (fun W => still_any W)
  have HI := Lib.hid (fun (s : Nat) (hs : s < kM g) W => mirrorOf_any g s hg hs W)
  have HB := Lib.hid (fun (i j : Nat) (hi : i < nE g) (hj : j < nE g) W => before_any (tn g i) (tn g j) (tx hg hj).2.2.2.1 (tx hg hi).2.2.2.1 W)
  have hk4 := (tg hg).2.2.2.1
  have hk0 := (tg hg).2.2.1
  have hmk := run_make115 (kM g) (by omega)
  have hgV : (gV (kd g) (nm g)).cells = #[.int .u8 (kd g), .int .i64 (nm g)] := rfl
  have hE0 : Hid (0 < nE g) := Lib.hid (by have := tE hg; omega)
  have hmm := @run_makeMap Try.prog
  generalize hkn : kM g = kn at hk4 hk0 hmk HM HI
  have HK := Lib.hid hkn
  clear hkn
  go_enter Try.func98, Try.ntmps98
  go_wp2_with fail
  refine (HM.out _).mono ?_
  rintro e w1 ⟨rfl, hb1⟩
  rw [World.size_alloc] at hb1
  have HF0 := Lib.hid (Fst.start hb1 HK.out)
  clear hb1 HM
  go_wp2_with fail
  go_loopw [20] (fun i wr => ∃ k : Nat, k ≤ kn ∧ i = .int .i64 k ∧ Fst w wr g w1.heap.size k) (fun i _ => kn - (intOf i).toNat)
  case atStart => exact ⟨0, by omega, rfl, HF0.out⟩
  case round =>
    clear HF0
    obtain ⟨k, hk, rfl, hF⟩ := hrel
    have HF := Lib.hid hF
    have g0 := hF.g.at0.1
    have g1 := hF.g.at0.2
    clear hF
    by_cases hlt : k < kn
    · go_wp2_with fail
      refine (HI.out k hlt _).mono ?_
      rintro e w2 ⟨rfl, hb2⟩
      have HF2 := Lib.hid (HF.out.below hb2)
      clear hb2 g0 g1
      have hth : Hid (w2.there w1.heap.size (k * 24) 24) := Lib.hid (fun j hj => by have := HF2.out.st.th (k * 24 + j) (by rw [HK.out]; omega); rwa [Nat.zero_add] at this)
      go_wp2_with (first | (refine wpl_storeMid rfl _ _ rfl w1.heap.size (k * 24) _ rfl rfl hth.out ?_; intro W2 hW2) | fail)
      have HF3 : Hid (Fst w W2 g w1.heap.size (k + 1)) := Lib.hid (by rw [hW2.out]; exact HF2.out.step (by rw [HK.out]; exact hlt))
      clear hW2 HF2 HF hth
      go_roundw
      case rel => exact ⟨k + 1, by omega, by go_num, HF3.out⟩
      case measure => simp [intOf]; omega
    · obtain rfl : kn = k := by omega
      go_wp2_with fail
      refine (HT.out _).mono ?_
      rintro e w2 ⟨rfl, hb2⟩
      have HF2 := Lib.hid (HF.out.below hb2)
      clear hb2 g0 g1 HF HI
      obtain ⟨l0, hl0⟩ := kl_ex hg (i := 0) hE0.out
      have hl0' : Hid (keyOf Try.prog 117 (.agg (byt fun p => p)) = some l0) := Lib.hid (by
        have e1 : byt (fun p => p) = byt (tn g 0) := byt_congr fun p hp => ((tg hg).2.2.2.2.2.2.2.2 p hp).symm
        rw [e1]; exact hl0)
      have hom : Hid (World.ownsMap ((w2.alloc (.cells (byt fun p => p) 117)).alloc (.map #[] 0)) Try.prog 117 (plainElem (H := Unit) Try.prog 3) (w2.heap.size + 1) 0 (.map [])) := Lib.hid (by
        have := World.ownsMap_made (w2.alloc (.cells (byt fun p => p) 117)) Try.prog 117 (plainElem (H := Unit) Try.prog 3)
        rwa [World.size_alloc] at this)
      have hD0 := Lib.hid ((MapOk.start g).put hg hE0.out hl0)
      go_wp2_with (first | (refine wpl_build24 rfl _ rfl _ rfl ?_) | (refine wpl_load24 rfl _ rfl w2.heap.size rfl _ ((Blk.new _ _ _).alloc _) ?_) | (refine wpList_insert_own _ rfl _ _ _ 120 rfl 117 3 key117 u120 (plainElem Try.prog 3) (w2.heap.size + 1) 0 (.map []) rfl hom.out (by unfold maxLen; omega) _ _ l0 rfl rfl hl0'.out (.lit (.int .i64 0)) [] (plainElem_int Try.underlying3 (by decide)) ?_; intro W3 hm3 hg3) | fail)
      have HN0 := Lib.hid (NT.start (by rw [HK.out]; exact HF2.out) hg ⟨_, hD0.out, hm3⟩ hg3)
      clear hm3 hg3 HF2 hD0 hl0' hl0
      have hmk24 := fun x => run_make24 kn (by omega) g x
      clear hmk hmm HT hgV
      go_loopw [8, 5] (fun xx vt wo => ∃ (x : Nat) (vw vr : Value) (ws rs : List Value), x ≤ nE g ∧ xx = .int .i64 x ∧ NT w wo g w1.heap.size (w2.heap.size + 1) (W3.heap.size + 1) (cn g (x * kn)) (cn g (x * kn)) (cn g (x * kn)) x vt vw vr ws rs) (fun xx _ _ => nE g - (intOf xx).toNat)
      case atStart => exact ⟨0, _, _, _, _, Nat.zero_le _, rfl, by rw [Nat.zero_mul, (tg hg).1]; exact HN0.out⟩
      case round =>
        rename World => wo
        clear HN0
        obtain ⟨x, vw, vr, ws, rs, hx, rfl, hN⟩ := hrel
        have HN := Lib.hid hN
        obtain ⟨at_, ct, rfl⟩ := owns_form hN.t
        clear hN
        by_cases hxl : x < nE g
        · have hxc : x < cn g (x * kn) := by have := (tx hg hxl).1; rwa [HK.out] at this
          have hmx := hmk24 x
          have HJ0 := Lib.hid (Inn.start (kn := kn) HN.out)
          generalize hn0 : cn g (x * kn) = n0 at *
          have HC0 := Lib.hid hn0
          clear hn0
          go_wp2_with fail
          go_loopw [51, 5] (fun ss vt wi => ∃ (s : Nat) (vw : Value) (ws : List Value), s ≤ kn ∧ ss = .int .i64 s ∧ Inn w wi g w1.heap.size (w2.heap.size + 1) (W3.heap.size + 1) (cn g (x * kn + s)) (cn g (x * kn + s)) (cn g (x * kn + s)) x s kn wo.heap.size vt vw vr ws rs) (fun ss _ _ => kn - (intOf ss).toNat)
          case atStart => exact ⟨0, _, _, Nat.zero_le _, rfl, by rw [show cn g (x * kn + 0) = n0 from HC0.out]; exact HJ0.out⟩
          case round =>
            rename World => wi
            clear HJ0 HC0 HN hxc
            obtain ⟨s, vw, ws, hs, rfl, hI⟩ := hrel
            have HI := Lib.hid hI
            obtain ⟨at_, ct, rfl⟩ := owns_form hI.nt.t
            clear hI
            by_cases hsl : s < kn
            · have hxm : Hid (x < cn g (x * kn + s)) := Lib.hid (hxc2 g hg hxl HK.out (by omega))
              have HTb : Hid (_ ∧ _) := Lib.hid (tb hg hxl (show s < kM g by rw [HK.out]; exact hsl))
              have hrd : Hid (wi.rangeAt w1.heap.size (s * 24) (byt (tn g (rt g 0 s))).toList) := Lib.hid (HI.out.nt.st.r s (by rw [HK.out]; exact hsl))
              rw [HK.out] at HTb
              generalize hm : x * kn + s = m at *
              have HTn : Hid (∀ p, p < 24 → tn g (rt g x s) p = tn g x (tn g (rt g 0 s) p)) := Lib.hid HTb.out.2.2.2.2
              have hj : Hid (rt g 0 s < nE g) := Lib.hid (tb hg hE0.out (show s < kM g by rw [HK.out]; exact hsl)).2.1
              obtain ⟨tb, hat, _⟩ := turn_at HI.out.nt.t (hxm.out)
              subst hat
              have hxm := hxm.out
              go_wp2_with (first | (refine wpl_loadMid rfl _ rfl w1.heap.size (s * 24) _ rfl hrd.out ?_) | (refine wpl_store24 rfl _ _ rfl wi.heap.size _ rfl rfl _ (Blk.new _ _ _) rfl ?_; intro W4 hW4) | fail)
              have HB4 : Hid (Below wi.heap.size wi W4) := Lib.hid (by rw [hW4.out]; exact below_row ((Below.refl _ _).alloc (Nat.le_refl _) _) (Nat.le_refl _) _)
              have HA4 : Hid (Blk 117 W4 wi.heap.size (byt (tn g (rt g 0 s)))) := Lib.hid (by rw [hW4.out]; exact (Blk.new _ _ _).row _)
              have HI4 := Lib.hid (HI.out.below HB4.out)
              clear hW4 HB4 HI hrd
              simp only [Act.put]
              go_cut [12] (fun t12 wx => ∃ A, t12 = .pointer (some ⟨A, 0, none⟩) ∧ Blk 117 wx A (byt (tn g (rt g x s))) ∧ Inn w wx g w1.heap.size (w2.heap.size + 1) (W3.heap.size + 1) (cn g m) (cn g m) (cn g m) x s kn wo.heap.size (.slice (some ⟨tb, 0, none⟩) (cn g m) ct) vw vr ws rs)
              case first =>
                refine wp_region_held_drew (S := fun W => Inn w W g w1.heap.size (w2.heap.size + 1) (W3.heap.size + 1) (cn g m) (cn g m) (cn g m) x s kn wo.heap.size (.slice (some ⟨tb, 0, none⟩) (cn g m) ct) vw vr ws rs ∧ Blk 117 W wi.heap.size (byt (tn g (rt g 0 s)))) (by kernel_rfl) ⟨HI4.out.below (below_drew (Below.refl _ _)), HA4.out⟩ (fun hS0 => ?_)
                refine wpAnyH_take (i := 0) (v := .slice (some ⟨tb, 0, none⟩) (cn g m) ct) rfl (by kernel_rfl) (by kernel_rfl) (by kernel_rfl) (fun _ _ _ h => h) (Or.inl ⟨by rfl, fun w' hSw => by go_simp⟩) hS0 ?_
                simp only [Act.put]
                refine wpAnyH_take (i := 1) (v := .int .i64 x) rfl (by kernel_rfl) (by kernel_rfl) (by kernel_rfl) (fun _ _ _ h => h) (Or.inl ⟨by rfl, fun w' hSw => by go_simp⟩) hS0 ?_
                simp only [Act.put]
                refine wpAnyH_take (i := 2) (v := .pointer (some ⟨tb, x * 24, none⟩)) rfl (by kernel_rfl) (by kernel_rfl) (by kernel_rfl) (fun _ _ _ h => h) (Or.inl ⟨by rfl, fun w' hSw => by go_simp⟩) hS0 ?_
                simp only [Act.put]
                refine wpAnyH_take (i := 3) (v := .agg (byt (tn g x))) rfl (by kernel_rfl) (by kernel_rfl) (by kernel_rfl) (fun _ _ _ h => h) (yieldsIf_load_mid (by rfl) 117 _ rfl tb (x * 24) rfl (byt (tn g x)).toList _ (fun w' hSw => turn_rd hSw.1.nt.t hxm) u117 rfl (by rw [Array.length_toList, byt_size]; exact i117)) hS0 ?_
                simp only [Act.put]
                refine wpAnyH_take (i := 4) (v := .agg (byt (tn g (rt g 0 s)))) rfl (by kernel_rfl) (by kernel_rfl) (by kernel_rfl) (fun _ _ _ h => h) (yieldsIf_load_mid (by rfl) 117 _ rfl wi.heap.size 0 rfl (byt (tn g (rt g 0 s))).toList _ (fun w' hSw => fun j v hj => by rw [hSw.2.cell]; simpa using hj) u117 rfl (by rw [Array.length_toList, byt_size]; exact i117)) hS0 ?_
                simp only [Act.put]
                refine wpAnyH_ready (rs := [5, 6]) (by kernel_rfl) (by simp) (AllReadyH.cons rfl (fun K hK => ?_) (AllReadyH.cons rfl (fun K hK => ?_) AllReadyH.nil))
                · go_simp
                  refine (HB.out x (rt g 0 s) hxl hj.out _).mono ?_
                  rintro e w5 ⟨rfl, hb5⟩
                  refine hK.out _ _ ⟨hS0.1.below hb5, hS0.2.below hb5⟩ fun hS1 => ?_
                  clear hK hb5
                  refine wpAnyH_ready (rs := [6]) (by kernel_rfl) (by simp) (AllReadyH.cons rfl (fun K hK => ?_) AllReadyH.nil)
                  go_simp
                  refine hK.out _ _ ⟨hS1.1.below ((Below.refl _ _).alloc (Nat.le_refl _) _), hS1.2.alloc _⟩ fun hS2 => ?_
                  clear hK
                  refine wpAnyH_ready (rs := [7]) (by kernel_rfl) (by simp) (AllReadyH.cons rfl (fun K hK => ?_) AllReadyH.nil)
                  rw [if_pos (by rfl)]
                  refine wp_store_row 117 _ _ rfl w5.heap.size _ rfl rfl 117 _ (Blk.new _ _ _) (by rw [byt_size]; exact i117) (by rw [byt_size]; rfl) (byt_one _) ?_
                  have hBl : ∀ (o : Obj) (c : Array Value), Below w5.heap.size w5 ((w5.alloc o).setRow w5.heap.size c) := fun o c => below_row ((Below.refl _ _).alloc (Nat.le_refl _) o) (Nat.le_refl _) c
                  refine hK.out _ _ ⟨hS1.1.below (hBl _ _), hS1.2.below (hBl _ _)⟩ fun hS9 => ?_
                  refine wpAnyH_done (by kernel_rfl) ?_ _
                  simp only [Act.put]
                  go_wp2_with fail
                  go_meet
                  exact ⟨_, rfl, by rw [byt_congr HTn.out]; exact (Blk.new _ _ _).row _, hS9.1⟩
                · go_simp
                  have hA6 := Blk.new 117 W4 (byt fun _ => 0)
                  have hbA : ∀ o : Obj, Below W4.drew.heap.size W4.drew (W4.alloc o).drew := fun o => by
                    have h : Below W4.heap.size W4 (W4.alloc o) := (Below.refl _ _).alloc (Nat.le_refl _) o
                    exact ⟨h.os, h.tape, h.output, h.size, h.block⟩
                  refine hK.out _ _ ⟨hS0.1.below (hbA _), hS0.2.below (hbA _)⟩ fun hS1 => ?_
                  clear hK
                  refine wpAnyH_ready (rs := [5]) (by kernel_rfl) (by simp) (AllReadyH.cons rfl (fun K hK => ?_) AllReadyH.nil)
                  go_simp
                  refine (HB.out x (rt g 0 s) hxl hj.out _).mono ?_
                  rintro e w5 ⟨rfl, hb5⟩
                  have hA5 : Blk 117 w5 W4.heap.size (byt fun _ => 0) := (hb5.block _ (by simp)).trans hA6
                  refine hK.out _ _ ⟨hS1.1.below hb5, hS1.2.below hb5⟩ fun hS2 => ?_
                  clear hK
                  have hB5 : Below W4.heap.size W4 w5 := (below_drew ((Below.refl _ _).alloc (Nat.le_refl _) _)).trans (hb5.mono (by simp))
                  refine wpAnyH_ready (rs := [7]) (by kernel_rfl) (by simp) (AllReadyH.cons rfl (fun K hK => ?_) AllReadyH.nil)
                  rw [if_pos (by rfl)]
                  refine wp_store_row 117 _ _ rfl W4.heap.size _ rfl rfl 117 _ hA5 (by rw [byt_size]; exact i117) (by rw [byt_size, byt_size]) (byt_one _) ?_
                  have hBl : Below W4.heap.size W4 (w5.setRow W4.heap.size (byt fun p => tn g x (tn g (rt g 0 s) p))) := below_row hB5 (Nat.le_refl _) _
                  refine hK.out _ _ ⟨HI4.out.below hBl, HA4.out.below hBl⟩ fun hS9 => ?_
                  refine wpAnyH_done (by kernel_rfl) ?_ _
                  simp only [Act.put]
                  go_wp2_with fail
                  go_meet
                  exact ⟨_, rfl, by rw [byt_congr HTn.out]; exact hA5.row _, hS9.1⟩
              case rest =>
                rename World => wc
                obtain ⟨A, rfl, hA, hI5⟩ := hcut
                have HA := Lib.hid hA
                have HI5 := Lib.hid hI5
                obtain ⟨D, hD, hmap⟩ := hI5.nt.map
                obtain ⟨l, hl⟩ := kl_ex hg HTb.out.2.1
                have HD := Lib.hid (hD.2 _ l HTb.out.2.1 hl)
                have hrow := hI5.row.cell s
                rw [rowC_get _ _ _ _ _ hsl] at hrow
                have hrf := hI5.row.fr s
                have hz3 : ∀ W : World, (zeroValue 3).run Try.prog W = .ok (.int .i64 0) W := fun W => by kernel_rfl
                have HDk := Lib.hid hD
                have hAM : Hid (some A ≠ some (w2.heap.size + 1)) := Lib.hid (by
                  obtain ⟨es, c, hb⟩ := hI5.nt.mapBlk
                  intro e
                  cases e
                  unfold Blk at hA
                  rw [hb] at hA
                  cases hA)
                obtain ⟨wb, cw, rfl, _⟩ := own_lit hI5.nt.ow (show 0 < cn g m by omega)
                have Hl := Lib.hid hl
                clear hA hI5 hD HI4 HA4 hl
                generalize (if s < s then rt g x s else 0 : Nat) = z0 at hrow
                by_cases hr : rt g x s < cn g m
                · have hd := HD.out
                  rw [if_pos hr] at hd
                  obtain ⟨hh, hat⟩ := hd
                  have HAt := Lib.hid hat
                  have HCn : Hid (cn g (x * kn + (s + 1)) = cn g m) := Lib.hid (by
                    have := HTb.out.2.2.1
                    rw [show x * kn + (s + 1) = m + 1 by omega, this]; omega)
                  clear hat HD HB
                  go_wp2_with (first | (refine wpl_load24 rfl _ rfl A rfl _ HA.out ?_) | (at_lookup; refine wpList_lookup_own_ok_int _ rfl _ _ 120 rfl 117 3 .i64 key117 u120 Try.underlying3 (hz3 _) _ _ D rfl hmap _ l rfl Hl.out ?_; intro c hac hwc; obtain rfl : ((rt g x s : Nat) : Int) = c := lit_inj (HAt.out.symm.trans hac); clear hac hwc) | fail)
                  have HF := Lib.hid (HI5.out.set hsl rfl)
                  go_roundw
                  case rel => exact ⟨s + 1, _, _, by omega, by go_num, by rw [HCn.out]; exact HF.out⟩
                  case measure => simp [intOf]; omega
                · have hrn : rt g x s = cn g m := by have := HTb.out.1; omega
                  have hh := HD.out
                  rw [if_neg hr] at hh
                  have HRn := Lib.hid hrn
                  have hnE : cn g m < nE g := by have := HTb.out.2.1; omega
                  have hn128 : cn g m < 120 := by have := (tE hg).2; omega
                  have HCn : Hid (cn g (x * kn + (s + 1)) = cn g m + 1) := Lib.hid (by
                    have := HTb.out.2.2.1
                    rw [show x * kn + (s + 1) = m + 1 by omega, this]; omega)
                  have HWd : Hid (wd g (cn g m) = wd g x ++ [s]) := Lib.hid (by rw [← hrn]; exact HTb.out.2.2.2.1 hrn)
                  rw [hrn] at HA Hl
                  have HMp := Lib.hid (HDk.out.put hg hnE Hl.out)
                  obtain ⟨i117, hi117, hz0, hz1, hz2⟩ := info_parts Try.info117
                  obtain ⟨i24, hi24, hy0, hy1, hy2⟩ := info_parts Try.info24
                  have hn33 : Hid (cn g m + 1 ≤ maxLen ∧ (cn g m + 1) * 24 ≤ 140737488355328) := Lib.hid ⟨by unfold maxLen; omega, by omega⟩
                  have hwf : Hid ((Lit.int .i64 (cn g m : Nat)).wf = true) := Lib.hid (WalkArith.wf_i64 (by omega))
                  clear hrn HD HB hr HDk
                  go_wp2_with (first | (refine wpl_load24 rfl _ rfl A rfl _ HA.out ?_) | (at_lookup; refine wpList_lookup_own_ok_int _ rfl _ _ 120 rfl 117 3 .i64 key117 u120 Try.underlying3 (hz3 _) _ _ D rfl hmap _ l rfl Hl.out ?_; intro c hac hwc; clear hac hwc) | (at_mapUpdate; refine wpList_mapUpdate_own _ rfl _ _ _ 120 rfl 117 3 key117 u120 (plainElem Try.prog 3) _ _ D rfl hmap (by unfold maxLen; omega) _ _ l rfl rfl Hl.out _ [] (plainElem_int Try.underlying3 hwf.out) ?_; intro w6 hm6 hg6; have HI6 := Lib.hid (HI5.out.put hg6 ⟨_, HMp.out, hm6⟩); have HA6 : Hid (Blk 117 w6 A (byt (tn g (cn g m)))) := Lib.hid ((hg6.block A HA.out.lt hAM.out).trans HA.out); clear hm6 hg6) | (refine wpl_load24 rfl _ rfl A rfl _ HA6.out ?_) | (refine wpl_build24 rfl _ rfl _ rfl ?_) | (at_builtin; refine wpList_append_own _ rfl _ _ 115 rfl (w1.heap.size + 1) 117 i117 (.agg (byt fun _ => 0)) 24 24 Try.underlying115 hi117 hz0 hz1 hz2 (byt_size _) (by decide) _ _ (flatT g (cn g m)) rfl (HI6.out.alloc _).nt.t ⟨w6.heap.size, 0, none⟩ 1 1 (byt (tn g (cn g m))).toList rfl (by rw [Array.length_toList, byt_size]) (new24 _ _) (one24 _) hn33.out.1 hn33.out.2 (HI6.out.alloc _).nt.lt.2.2.2.2 ?_; intro v7 w7 hown7 hg7 _) | fail)
                  have HI7 := Lib.hid ((HI6.out.alloc _).turn hg7 (by rw [flatT_succ]; exact hown7))
                  obtain ⟨a7, c7, rfl⟩ := owns_form hown7
                  clear hown7 hg7 HI6 HA6 HI5 HA hrow hrf hmap hh HMp hwf Hl
                  have hT7 : w7.cell? ⟨W3.heap.size + 1, 0, none⟩ = some (.slice (some ⟨wb, 0, none⟩) (cn g m) cw) := HI7.out.nt.box.at0.1
                  have hT7d : w7.drew.cell? ⟨W3.heap.size + 1, 0, none⟩ = some (.slice (some ⟨wb, 0, none⟩) (cn g m) cw) := hT7
                  have hXx := HI7.out.nt.wr x hxm
                  obtain ⟨xa, xc, hxe⟩ := owns_form hXx
                  have hW7d : w7.drew.cell? ⟨wb, x, none⟩ = some (.slice xa (wd g x).length xc) := by rw [← hxe]; exact own_cell HI7.out.nt.ow hxm
                  have HWi : Hid (Calls Try.prog 73 #[.slice xa (wd g x).length xc, .int .i64 s] w7.drew fun e w' => ∃ v', e = .returned v' ∧ w'.ownsRow w7.drew.heap.size 3 1 v' ((wd g x).length + 1) (ints (nats (wd g x ++ [s]))) ∧ Below w7.drew.heap.size w7.drew w') := Lib.hid (by
                    rw [← hxe]
                    have hl := (tx hg hxl).2.1
                    unfold ln at hl
                    have hb7 : Bg (w1.heap.size + 1) w7.drew (ws.getD x undef) (wd g x) := hXx
                    exact with_any _ _ s _ (hb7.nats (by omega) (fun y hy => by have := (tx hg hxl).2.2.1 y hy; have := (tg hg).2.2.2.1; omega)) (by omega))
                  have hS7 : Hid (w1.heap.size + 1 ≤ w7.heap.size ∧ wo.heap.size < w7.heap.size) := Lib.hid ⟨HI7.out.nt.lt.2.2.2.2, HI7.out.lt.2.2.2⟩
                  clear hXx hxe
                  go_cut [94] (fun _ wx => ∃ vw' ws', Inn w wx g w1.heap.size (w2.heap.size + 1) (W3.heap.size + 1) (cn g m + 1) (cn g m + 1) (cn g m + 1) x s kn wo.heap.size (.slice a7 (cn g m + 1) c7) vw' vr ws' rs)
                  case first =>
                    refine wp_region_any (by kernel_rfl) ?_
                    change wpAny _ _ _ _ _ _ _ (World.drew _)
                    refine wpAny_take (i := 0) (v := .pointer (some ⟨W3.heap.size + 1, 0, none⟩)) rfl (by kernel_rfl) (by kernel_rfl) (by kernel_rfl) (fun _ _ _ h => h) (Or.inl ⟨by rfl, ?_⟩) ?_
                    · intro w'
                      go_simp
                    simp only [Act.put]
                    refine wpAny_take (i := 1) (v := .pointer (some ⟨W3.heap.size + 1, 0, none⟩)) rfl (by kernel_rfl) (by kernel_rfl) (by kernel_rfl) (fun _ _ _ h => h) (Or.inl ⟨by rfl, ?_⟩) ?_
                    · intro w'
                      go_simp
                    simp only [Act.put]
                    refine wpAny_take (i := 2) (v := .pointer (some ⟨W3.heap.size + 1, 0, none⟩)) rfl (by kernel_rfl) (by kernel_rfl) (by kernel_rfl) (fun _ _ _ h => h) (Or.inl ⟨by rfl, ?_⟩) ?_
                    · intro w'
                      go_simp
                    simp only [Act.put]
                    refine wpAny_take (i := 3) (v := .pointer (some ⟨W3.heap.size + 1, 0, none⟩)) rfl (by kernel_rfl) (by kernel_rfl) (by kernel_rfl) (fun _ _ _ h => h) (Or.inl ⟨by rfl, ?_⟩) ?_
                    · intro w'
                      go_simp
                    simp only [Act.put]
                    refine wpAny_take (i := 5) (v := .pointer (some ⟨W3.heap.size + 1, 0, none⟩)) rfl (by kernel_rfl) (by kernel_rfl) (by kernel_rfl) (fun _ _ _ h => h) (Or.inl ⟨by rfl, ?_⟩) ?_
                    · intro w'
                      go_simp
                    simp only [Act.put]
                    refine wpAny_take (i := 6) (v := .pointer (some ⟨W3.heap.size + 1, 0, none⟩)) rfl (by kernel_rfl) (by kernel_rfl) (by kernel_rfl) (fun _ _ _ h => h) (Or.inl ⟨by rfl, ?_⟩) ?_
                    · intro w'
                      go_simp
                    simp only [Act.put]
                    refine wpAny_take (i := 7) (v := .pointer (some ⟨W3.heap.size + 1, 0, none⟩)) rfl (by kernel_rfl) (by kernel_rfl) (by kernel_rfl) (fun _ _ _ h => h) (Or.inl ⟨by rfl, ?_⟩) ?_
                    · intro w'
                      go_simp
                    simp only [Act.put]
                    refine wpAny_take (i := 9) (v := .int .i64 x) rfl (by kernel_rfl) (by kernel_rfl) (by kernel_rfl) (fun _ _ _ h => h) (Or.inl ⟨by rfl, ?_⟩) ?_
                    · intro w'
                      go_simp
                    simp only [Act.put]
                    refine wpAny_take (i := 12) (v := .int .i64 s) rfl (by kernel_rfl) (by kernel_rfl) (by kernel_rfl) (fun _ _ _ h => h) (Or.inl ⟨by rfl, ?_⟩) ?_
                    · intro w'
                      go_simp
                    simp only [Act.put]
                    refine wpAny_ready (rs := [4, 8]) (by kernel_rfl) (by simp) (AllReady.cons rfl (fun K hK => ?_) (AllReady.cons rfl (fun K hK => ?_) AllReady.nil))
                    · go_simp
                      refine hK _ _ ?_
                      clear hK K
                      try simp only [Act.put]
                      refine wpAny_ready (rs := [8]) (by kernel_rfl) (by simp) (AllReady.cons rfl (fun K hK => ?_) AllReady.nil)
                      go_simp
                      refine hK _ _ ?_
                      clear hK K
                      try simp only [Act.put]
                      refine wpAny_take (i := 10) (v := .pointer (some ⟨wb, x, none⟩)) rfl (by kernel_rfl) (by kernel_rfl) (by kernel_rfl) (fun _ _ _ h => h) (Or.inl ⟨by rfl, ?_⟩) ?_
                      · intro w'
                        go_simp
                      simp only [Act.put]
                      refine wpAny_ready (rs := [11]) (by kernel_rfl) (by simp) (AllReady.cons rfl (fun K hK => ?_) AllReady.nil)
                      go_simp
                      refine hK _ _ ?_
                      clear hK K
                      try simp only [Act.put]
                      refine wpAny_ready (rs := [13]) (by kernel_rfl) (by simp) (AllReady.cons rfl (fun K hK => ?_) AllReady.nil)
                      go_simp
                      refine HWi.out.mono ?_
                      rintro e w8 ⟨u, rfl, hu, hb8⟩
                      obtain ⟨ua, uc, rfl⟩ := owns_form hu
                      have HU := Lib.hid hu
                      have HB8 : Hid (Below w7.heap.size w7 w8) := Lib.hid ⟨hb8.os, hb8.tape, hb8.output, hb8.size, hb8.block⟩
                      have hT8 := ck hT7 HB8.out
                      have hT8a := alloc_cell' (.cells #[.slice ua ((wd g x).length + 1) uc] 24) hT8
                      clear hu hb8
                      refine hK _ _ ?_
                      clear hK K
                      refine wpAny_ready (rs := [14]) (by kernel_rfl) (by simp) (AllReady.cons rfl (fun K hK => ?_) AllReady.nil)
                      go_simp
                      refine hK _ _ ?_
                      clear hK K
                      try simp only [Act.put]
                      refine wpAny_ready (rs := [15]) (by kernel_rfl) (by simp) (AllReady.cons rfl (fun K hK => ?_) AllReady.nil)
                      rw [if_pos (by rfl)]
                      refine wp_append_own_at _ _ 33 rfl (w1.heap.size + 1) 24 i24 (.slice none 0 0) 1 24 Try.underlying33 hi24 hy0 hy1 hy2 rfl (by decide) _ _ _ rfl ((HI7.out.below HB8.out).alloc _).nt.ow ⟨w8.heap.size, 0, none⟩ 1 1 [_] rfl rfl (newOne _ _ _) (by intro u hu; simp at hu; subst hu; rfl) hn33.out.1 hn33.out.2 ((HI7.out.below HB8.out).alloc _).nt.lt.2.2.2.2 ?_
                      intro v9 w9 hown9 hg9 hloc9
                      have HI9 := Lib.hid (((HI7.out.below HB8.out).alloc (.cells #[.slice ua ((wd g x).length + 1) uc] 24)).word (word_bg HU.out HWd.out hS7.out.1 _) (word_nr HU.out hS7.out.2) hg9 hown9 hloc9)
                      have cT9 : w9.cell? ⟨W3.heap.size + 1, 0, none⟩ = some (.slice (some ⟨wb, 0, none⟩) (cn g m) cw) ∧ w9.frozen? ⟨W3.heap.size + 1, 0, none⟩ = false := boxw ((HI7.out.below HB8.out).alloc (.cells #[.slice ua ((wd g x).length + 1) uc] 24)) hg9
                      obtain ⟨cT9, fT9⟩ := cT9
                      obtain ⟨a9, c9, rfl⟩ := owns_form hown9
                      clear hown9 hg9 hloc9
                      refine hK _ _ ?_
                      clear hK K
                      simp only [Act.put]
                      refine wpAny_ready (rs := [16]) (by kernel_rfl) (by simp) (AllReady.cons rfl (fun K hK => ?_) AllReady.nil)
                      go_simp
                      refine hK _ _ ?_
                      clear hK K
                      try simp only [Act.put]
                      refine wpAny_ready (rs := [17]) (by kernel_rfl) (by simp) (AllReady.cons rfl (fun K hK => ?_) AllReady.nil)
                      go_simp
                      refine hK _ _ ?_
                      clear hK K
                      try simp only [Act.put]
                      refine wpAny_ready (rs := [18]) (by kernel_rfl) (by simp) (AllReady.cons rfl (fun K hK => ?_) AllReady.nil)
                      go_simp
                      refine hK _ _ ?_
                      clear hK K
                      refine wpAny_done (by kernel_rfl) ?_ _
                      go_wp2_with fail
                      go_meet
                      exact ⟨_, _, HI9.out⟩
                    · go_simp
                      refine hK _ _ ?_
                      clear hK K
                      try simp only [Act.put]
                      refine wpAny_take (i := 10) (v := .pointer (some ⟨wb, x, none⟩)) rfl (by kernel_rfl) (by kernel_rfl) (by kernel_rfl) (fun _ _ _ h => h) (Or.inl ⟨by rfl, ?_⟩) ?_
                      · intro w'
                        go_simp
                      simp only [Act.put]
                      refine wpAny_ready (rs := [4, 11]) (by kernel_rfl) (by simp) (AllReady.cons rfl (fun K hK => ?_) (AllReady.cons rfl (fun K hK => ?_) AllReady.nil))
                      · go_simp
                        refine hK _ _ ?_
                        clear hK K
                        try simp only [Act.put]
                        refine wpAny_ready (rs := [11]) (by kernel_rfl) (by simp) (AllReady.cons rfl (fun K hK => ?_) AllReady.nil)
                        go_simp
                        refine hK _ _ ?_
                        clear hK K
                        try simp only [Act.put]
                        refine wpAny_ready (rs := [13]) (by kernel_rfl) (by simp) (AllReady.cons rfl (fun K hK => ?_) AllReady.nil)
                        go_simp
                        refine HWi.out.mono ?_
                        rintro e w8 ⟨u, rfl, hu, hb8⟩
                        obtain ⟨ua, uc, rfl⟩ := owns_form hu
                        have HU := Lib.hid hu
                        have HB8 : Hid (Below w7.heap.size w7 w8) := Lib.hid ⟨hb8.os, hb8.tape, hb8.output, hb8.size, hb8.block⟩
                        have hT8 := ck hT7 HB8.out
                        have hT8a := alloc_cell' (.cells #[.slice ua ((wd g x).length + 1) uc] 24) hT8
                        clear hu hb8
                        refine hK _ _ ?_
                        clear hK K
                        refine wpAny_ready (rs := [14]) (by kernel_rfl) (by simp) (AllReady.cons rfl (fun K hK => ?_) AllReady.nil)
                        go_simp
                        refine hK _ _ ?_
                        clear hK K
                        try simp only [Act.put]
                        refine wpAny_ready (rs := [15]) (by kernel_rfl) (by simp) (AllReady.cons rfl (fun K hK => ?_) AllReady.nil)
                        rw [if_pos (by rfl)]
                        refine wp_append_own_at _ _ 33 rfl (w1.heap.size + 1) 24 i24 (.slice none 0 0) 1 24 Try.underlying33 hi24 hy0 hy1 hy2 rfl (by decide) _ _ _ rfl ((HI7.out.below HB8.out).alloc _).nt.ow ⟨w8.heap.size, 0, none⟩ 1 1 [_] rfl rfl (newOne _ _ _) (by intro u hu; simp at hu; subst hu; rfl) hn33.out.1 hn33.out.2 ((HI7.out.below HB8.out).alloc _).nt.lt.2.2.2.2 ?_
                        intro v9 w9 hown9 hg9 hloc9
                        have HI9 := Lib.hid (((HI7.out.below HB8.out).alloc (.cells #[.slice ua ((wd g x).length + 1) uc] 24)).word (word_bg HU.out HWd.out hS7.out.1 _) (word_nr HU.out hS7.out.2) hg9 hown9 hloc9)
                        have cT9 : w9.cell? ⟨W3.heap.size + 1, 0, none⟩ = some (.slice (some ⟨wb, 0, none⟩) (cn g m) cw) ∧ w9.frozen? ⟨W3.heap.size + 1, 0, none⟩ = false := boxw ((HI7.out.below HB8.out).alloc (.cells #[.slice ua ((wd g x).length + 1) uc] 24)) hg9
                        obtain ⟨cT9, fT9⟩ := cT9
                        obtain ⟨a9, c9, rfl⟩ := owns_form hown9
                        clear hown9 hg9 hloc9
                        refine hK _ _ ?_
                        clear hK K
                        simp only [Act.put]
                        refine wpAny_ready (rs := [16]) (by kernel_rfl) (by simp) (AllReady.cons rfl (fun K hK => ?_) AllReady.nil)
                        go_simp
                        refine hK _ _ ?_
                        clear hK K
                        try simp only [Act.put]
                        refine wpAny_ready (rs := [17]) (by kernel_rfl) (by simp) (AllReady.cons rfl (fun K hK => ?_) AllReady.nil)
                        go_simp
                        refine hK _ _ ?_
                        clear hK K
                        try simp only [Act.put]
                        refine wpAny_ready (rs := [18]) (by kernel_rfl) (by simp) (AllReady.cons rfl (fun K hK => ?_) AllReady.nil)
                        go_simp
                        refine hK _ _ ?_
                        clear hK K
                        refine wpAny_done (by kernel_rfl) ?_ _
                        go_wp2_with fail
                        go_meet
                        exact ⟨_, _, HI9.out⟩
                      · go_simp
                        refine hK _ _ ?_
                        clear hK K
                        try simp only [Act.put]
                        refine wpAny_ready (rs := [4, 13]) (by kernel_rfl) (by simp) (AllReady.cons rfl (fun K hK => ?_) (AllReady.cons rfl (fun K hK => ?_) AllReady.nil))
                        · go_simp
                          refine hK _ _ ?_
                          clear hK K
                          try simp only [Act.put]
                          refine wpAny_ready (rs := [13]) (by kernel_rfl) (by simp) (AllReady.cons rfl (fun K hK => ?_) AllReady.nil)
                          go_simp
                          refine HWi.out.mono ?_
                          rintro e w8 ⟨u, rfl, hu, hb8⟩
                          obtain ⟨ua, uc, rfl⟩ := owns_form hu
                          have HU := Lib.hid hu
                          have HB8 : Hid (Below w7.heap.size w7 w8) := Lib.hid ⟨hb8.os, hb8.tape, hb8.output, hb8.size, hb8.block⟩
                          have hT8 := ck hT7 HB8.out
                          have hT8a := alloc_cell' (.cells #[.slice ua ((wd g x).length + 1) uc] 24) hT8
                          clear hu hb8
                          refine hK _ _ ?_
                          clear hK K
                          refine wpAny_ready (rs := [14]) (by kernel_rfl) (by simp) (AllReady.cons rfl (fun K hK => ?_) AllReady.nil)
                          go_simp
                          refine hK _ _ ?_
                          clear hK K
                          try simp only [Act.put]
                          refine wpAny_ready (rs := [15]) (by kernel_rfl) (by simp) (AllReady.cons rfl (fun K hK => ?_) AllReady.nil)
                          rw [if_pos (by rfl)]
                          refine wp_append_own_at _ _ 33 rfl (w1.heap.size + 1) 24 i24 (.slice none 0 0) 1 24 Try.underlying33 hi24 hy0 hy1 hy2 rfl (by decide) _ _ _ rfl ((HI7.out.below HB8.out).alloc _).nt.ow ⟨w8.heap.size, 0, none⟩ 1 1 [_] rfl rfl (newOne _ _ _) (by intro u hu; simp at hu; subst hu; rfl) hn33.out.1 hn33.out.2 ((HI7.out.below HB8.out).alloc _).nt.lt.2.2.2.2 ?_
                          intro v9 w9 hown9 hg9 hloc9
                          have HI9 := Lib.hid (((HI7.out.below HB8.out).alloc (.cells #[.slice ua ((wd g x).length + 1) uc] 24)).word (word_bg HU.out HWd.out hS7.out.1 _) (word_nr HU.out hS7.out.2) hg9 hown9 hloc9)
                          have cT9 : w9.cell? ⟨W3.heap.size + 1, 0, none⟩ = some (.slice (some ⟨wb, 0, none⟩) (cn g m) cw) ∧ w9.frozen? ⟨W3.heap.size + 1, 0, none⟩ = false := boxw ((HI7.out.below HB8.out).alloc (.cells #[.slice ua ((wd g x).length + 1) uc] 24)) hg9
                          obtain ⟨cT9, fT9⟩ := cT9
                          obtain ⟨a9, c9, rfl⟩ := owns_form hown9
                          clear hown9 hg9 hloc9
                          refine hK _ _ ?_
                          clear hK K
                          simp only [Act.put]
                          refine wpAny_ready (rs := [16]) (by kernel_rfl) (by simp) (AllReady.cons rfl (fun K hK => ?_) AllReady.nil)
                          go_simp
                          refine hK _ _ ?_
                          clear hK K
                          try simp only [Act.put]
                          refine wpAny_ready (rs := [17]) (by kernel_rfl) (by simp) (AllReady.cons rfl (fun K hK => ?_) AllReady.nil)
                          go_simp
                          refine hK _ _ ?_
                          clear hK K
                          try simp only [Act.put]
                          refine wpAny_ready (rs := [18]) (by kernel_rfl) (by simp) (AllReady.cons rfl (fun K hK => ?_) AllReady.nil)
                          go_simp
                          refine hK _ _ ?_
                          clear hK K
                          refine wpAny_done (by kernel_rfl) ?_ _
                          go_wp2_with fail
                          go_meet
                          exact ⟨_, _, HI9.out⟩
                        · go_simp
                          refine HWi.out.mono ?_
                          rintro e w8 ⟨u, rfl, hu, hb8⟩
                          obtain ⟨ua, uc, rfl⟩ := owns_form hu
                          have HU := Lib.hid hu
                          have HB8 : Hid (Below w7.heap.size w7 w8) := Lib.hid ⟨hb8.os, hb8.tape, hb8.output, hb8.size, hb8.block⟩
                          have hT8 := ck hT7 HB8.out
                          have hT8a := alloc_cell' (.cells #[.slice ua ((wd g x).length + 1) uc] 24) hT8
                          clear hu hb8
                          refine hK _ _ ?_
                          clear hK K
                          refine wpAny_ready (rs := [4, 14]) (by kernel_rfl) (by simp) (AllReady.cons rfl (fun K hK => ?_) (AllReady.cons rfl (fun K hK => ?_) AllReady.nil))
                          · go_simp
                            refine hK _ _ ?_
                            clear hK K
                            try simp only [Act.put]
                            refine wpAny_ready (rs := [14]) (by kernel_rfl) (by simp) (AllReady.cons rfl (fun K hK => ?_) AllReady.nil)
                            go_simp
                            refine hK _ _ ?_
                            clear hK K
                            try simp only [Act.put]
                            refine wpAny_ready (rs := [15]) (by kernel_rfl) (by simp) (AllReady.cons rfl (fun K hK => ?_) AllReady.nil)
                            rw [if_pos (by rfl)]
                            refine wp_append_own_at _ _ 33 rfl (w1.heap.size + 1) 24 i24 (.slice none 0 0) 1 24 Try.underlying33 hi24 hy0 hy1 hy2 rfl (by decide) _ _ _ rfl ((HI7.out.below HB8.out).alloc _).nt.ow ⟨w8.heap.size, 0, none⟩ 1 1 [_] rfl rfl (newOne _ _ _) (by intro u hu; simp at hu; subst hu; rfl) hn33.out.1 hn33.out.2 ((HI7.out.below HB8.out).alloc _).nt.lt.2.2.2.2 ?_
                            intro v9 w9 hown9 hg9 hloc9
                            have HI9 := Lib.hid (((HI7.out.below HB8.out).alloc (.cells #[.slice ua ((wd g x).length + 1) uc] 24)).word (word_bg HU.out HWd.out hS7.out.1 _) (word_nr HU.out hS7.out.2) hg9 hown9 hloc9)
                            have cT9 : w9.cell? ⟨W3.heap.size + 1, 0, none⟩ = some (.slice (some ⟨wb, 0, none⟩) (cn g m) cw) ∧ w9.frozen? ⟨W3.heap.size + 1, 0, none⟩ = false := boxw ((HI7.out.below HB8.out).alloc (.cells #[.slice ua ((wd g x).length + 1) uc] 24)) hg9
                            obtain ⟨cT9, fT9⟩ := cT9
                            obtain ⟨a9, c9, rfl⟩ := owns_form hown9
                            clear hown9 hg9 hloc9
                            refine hK _ _ ?_
                            clear hK K
                            simp only [Act.put]
                            refine wpAny_ready (rs := [16]) (by kernel_rfl) (by simp) (AllReady.cons rfl (fun K hK => ?_) AllReady.nil)
                            go_simp
                            refine hK _ _ ?_
                            clear hK K
                            try simp only [Act.put]
                            refine wpAny_ready (rs := [17]) (by kernel_rfl) (by simp) (AllReady.cons rfl (fun K hK => ?_) AllReady.nil)
                            go_simp
                            refine hK _ _ ?_
                            clear hK K
                            try simp only [Act.put]
                            refine wpAny_ready (rs := [18]) (by kernel_rfl) (by simp) (AllReady.cons rfl (fun K hK => ?_) AllReady.nil)
                            go_simp
                            refine hK _ _ ?_
                            clear hK K
                            refine wpAny_done (by kernel_rfl) ?_ _
                            go_wp2_with fail
                            go_meet
                            exact ⟨_, _, HI9.out⟩
                          · go_simp
                            refine hK _ _ ?_
                            clear hK K
                            try simp only [Act.put]
                            refine wpAny_ready (rs := [4]) (by kernel_rfl) (by simp) (AllReady.cons rfl (fun K hK => ?_) AllReady.nil)
                            go_simp
                            refine hK _ _ ?_
                            clear hK K
                            try simp only [Act.put]
                            refine wpAny_ready (rs := [15]) (by kernel_rfl) (by simp) (AllReady.cons rfl (fun K hK => ?_) AllReady.nil)
                            rw [if_pos (by rfl)]
                            refine wp_append_own_at _ _ 33 rfl (w1.heap.size + 1) 24 i24 (.slice none 0 0) 1 24 Try.underlying33 hi24 hy0 hy1 hy2 rfl (by decide) _ _ _ rfl ((HI7.out.below HB8.out).alloc _).nt.ow ⟨w8.heap.size, 0, none⟩ 1 1 [_] rfl rfl (newOne _ _ _) (by intro u hu; simp at hu; subst hu; rfl) hn33.out.1 hn33.out.2 ((HI7.out.below HB8.out).alloc _).nt.lt.2.2.2.2 ?_
                            intro v9 w9 hown9 hg9 hloc9
                            have HI9 := Lib.hid (((HI7.out.below HB8.out).alloc (.cells #[.slice ua ((wd g x).length + 1) uc] 24)).word (word_bg HU.out HWd.out hS7.out.1 _) (word_nr HU.out hS7.out.2) hg9 hown9 hloc9)
                            have cT9 : w9.cell? ⟨W3.heap.size + 1, 0, none⟩ = some (.slice (some ⟨wb, 0, none⟩) (cn g m) cw) ∧ w9.frozen? ⟨W3.heap.size + 1, 0, none⟩ = false := boxw ((HI7.out.below HB8.out).alloc (.cells #[.slice ua ((wd g x).length + 1) uc] 24)) hg9
                            obtain ⟨cT9, fT9⟩ := cT9
                            obtain ⟨a9, c9, rfl⟩ := owns_form hown9
                            clear hown9 hg9 hloc9
                            refine hK _ _ ?_
                            clear hK K
                            simp only [Act.put]
                            refine wpAny_ready (rs := [16]) (by kernel_rfl) (by simp) (AllReady.cons rfl (fun K hK => ?_) AllReady.nil)
                            go_simp
                            refine hK _ _ ?_
                            clear hK K
                            try simp only [Act.put]
                            refine wpAny_ready (rs := [17]) (by kernel_rfl) (by simp) (AllReady.cons rfl (fun K hK => ?_) AllReady.nil)
                            go_simp
                            refine hK _ _ ?_
                            clear hK K
                            try simp only [Act.put]
                            refine wpAny_ready (rs := [18]) (by kernel_rfl) (by simp) (AllReady.cons rfl (fun K hK => ?_) AllReady.nil)
                            go_simp
                            refine hK _ _ ?_
                            clear hK K
                            refine wpAny_done (by kernel_rfl) ?_ _
                            go_wp2_with fail
                            go_meet
                            exact ⟨_, _, HI9.out⟩
                  case rest =>
                    rename World => wd_
                    obtain ⟨vw', ws', hI10⟩ := hcut
                    have HI10 := Lib.hid hI10
                    have hrow := hI10.row.cell s
                    rw [rowC_get _ _ _ _ _ hsl] at hrow
                    have hrf := hI10.row.fr s
                    generalize (if s < s then rt g x s else 0 : Nat) = z1 at hrow
                    have HF := Lib.hid (hI10.set hsl HRn.out.symm)
                    clear hI10 HI10 HI7 hT7 hT7d hW7d HWi
                    go_wp2_with fail
                    go_roundw
                    case rel => exact ⟨s + 1, _, _, by omega, by go_num, by rw [HCn.out]; exact HF.out⟩
                    case measure => simp [intOf]; omega
            · obtain rfl : kn = s := by omega
              have HO := Lib.hid (HI.out.own HK.out hk4)
              obtain ⟨ra, rc, rfl⟩ := owns_form HI.out.nt.or
              have cT1 : wi.cell? ⟨W3.heap.size + 1, 1, none⟩ = some (.slice ra x rc) := HI.out.nt.box.at0.2
              obtain ⟨i24, hi24, hy0, hy1, hy2⟩ := info_parts Try.info24
              have hx128 : x + 1 ≤ 200 := by have := (tE hg).2; omega
              have HCn : Hid (cn g ((x + 1) * kn) = cn g (x * kn + kn)) := Lib.hid (by rw [Nat.add_mul, Nat.one_mul])
              clear HB hsl
              go_wp2_with (first | (at_builtin; refine wpList_append_own_at _ rfl _ _ 33 rfl (w1.heap.size + 1) 24 i24 (.slice none 0 0) 1 24 Try.underlying33 hi24 hy0 hy1 hy2 rfl (by decide) _ _ _ rfl (HI.out.alloc _).nt.or ⟨wi.heap.size, 0, none⟩ 1 1 [.slice (some ⟨wo.heap.size, 0, none⟩) kn kn] rfl rfl (newOne _ _ _) (by intro u hu; simp at hu; subst hu; rfl) (by unfold maxLen; omega) (by omega) (HI.out.alloc _).nt.lt.2.2.2.2 ?_; intro v9 w9 hown9 hg9 _ hloc9; have HN9 := Lib.hid ((HI.out.alloc (.cells #[.slice (some ⟨wo.heap.size, 0, none⟩) kn kn] 24)).nt.row (HO.out.alloc _) hg9 hown9 hloc9); obtain ⟨cT9, fT9⟩ := boxr (HI.out.alloc (.cells #[.slice (some ⟨wo.heap.size, 0, none⟩) kn kn] 24)).nt hg9; obtain ⟨a9, c9, rfl⟩ := owns_form hown9; clear hown9 hg9 hloc9 cT1) | fail)
              go_roundw
              case rel => exact ⟨x + 1, _, _, _, _, by omega, by go_num, by rw [HCn.out]; exact HN9.out⟩
              case measure => simp [intOf]; omega
        · obtain rfl : x = nE g := by omega
          have hend : cn g (nE g * kn) = nE g := by have := (tg hg).2.1; rwa [HK.out] at this
          rw [hend] at HN
          have HE : Hid (TableAt wo (W3.heap.size + 1) g) := Lib.hid ⟨w1.heap.size + 1, vw, vr, ws, rs, HN.out.box, HN.out.ow, HN.out.or, HN.out.wr, HN.out.rr⟩
          have HBw := Lib.hid HN.out.b
          rw [hend]
          clear HN hend HB
          go_wp2_with fail
          go_ret
          exact ⟨_, rfl, HE.out, HBw.out⟩
end Go.Proofs.Ytlnbodpdgebflaa
