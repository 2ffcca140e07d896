/- MirrorOrder -/
import Derived.Test.YtlnbodpdgebflaaPl
import Derived.Test.YtlnbodpdgebflaaMo
namespace Go.Proofs.Ytlnbodpdgebflaa
open Go.RowKit

theorem rows3 {W : World} {b : Nat} {v v' v'' : Value} {l l' l'' : List Int} (hc : Blk 24 W b #[v, v', v'']) (h : Ints W v l) (h' : Ints W v' l') (h'' : Ints W v'' l'') : IntRows W (.slice (some ⟨b, 0, none⟩) 3 3) [l, l', l''] :=
  ⟨[v, v', v''], ⟨_, 3, rfl, Nat.le_refl _, by simp, by unfold maxLen; omega, .inr ⟨b, 0, rfl, hc.lt, fun k x hx => by
    match k, hx with
    | 0, hx => simp at hx; subst hx; exact hc.cell 0
    | 1, hx => simp at hx; subst hx; exact hc.cell 1
    | 2, hx => simp at hx; subst hx; exact hc.cell 2⟩⟩, rfl, fun i u x hu hx => by
    match i, hu, hx with
    | 0, hu, hx => simp at hu hx; subst hu hx; exact h
    | 1, hu, hx => simp at hu hx; subst hu hx; exact h'
    | 2, hu, hx => simp at hu hx; subst hu hx; exact h''⟩
theorem backL {g : Nat} (hg : g < 17) {l : List Int} (hw : wordB g l = true) (v : Value) (W : World) (h : Ints W v l) : Calls Try.prog 33 #[gV (kd g) (nm g), v] W fun e w' =>
    ∃ a c, e = .returned (.tuple #[.slice a (ln g (bk g (folI g l))) c, .int .i64 0]) ∧ Wn w' (.slice a (ln g (bk g (folI g l))) c) g (bk g (folI g l)) ∧ Below W.heap.size W w' := by
  have h1 := Back_ok g hg v l W h hw
  rwa [folI_rev hg hw] at h1
/-- A word of an element. -/
structure Wo (W : World) (v : Value) (g : Nat) (l : List Int) (x : Nat) : Prop where
  i : Ints W v l
  w : wordB g l = true
  f : folI g l = x
theorem Wn.wo {W : World} {v : Value} {g y : Nat} (h : Wn W v g y) (hg : g < 17) (hy : y < nE g) : Wo W v g (nats (wd g y)) y := ⟨h, word_wd hg hy, folI_wd hg hy⟩

set_option maxRecDepth 100000 in
set_option maxHeartbeats 2000000 in
theorem ord1_any (g B : Nat) (hg : g < 17) (v v' : Value) (l l' : List Int) (x y : Nat) (w : World) (hB : Blk 23 w B #[.int .u8 (kd g), .int .i64 (nm g)]) (h : Wo w v g l x) (h' : Wo w v' g l' y) :
    Calls Try.prog 62 #[v, v', .pointer (some ⟨B, 0, none⟩)] w fun e w' => e = .returned (.bool (loB g x y)) ∧ Below w.heap.size w w' := by
  have hw := h.w
  have hw' := h'.w
  have hl : l.length ≤ 30 := by simp [wordB] at hw; omega
  have hl' : l'.length ≤ 30 := by simp [wordB] at hw'; omega
  have HOf := Lib.hid (fun W => Of_any (kd g) (nm g) W)
  have HL1 := Lib.hid (fun v W h => listOk hl v W h)
  have HL2 := Lib.hid (fun v W h => listOk hl' v W h)
  have HBe := Lib.hid (fun v v' W h h' => Below_ok g hg v v' l l' W h h' hw hw')
  rw [h.f, h'.f] at HBe
  have g0 := hB.at0.1
  have g1 := hB.at0.2
  obtain ⟨va, vc, rfl, _, _, _⟩ := h.i.open
  obtain ⟨va', vc', rfl, _, _, _⟩ := h'.i.open
  have HV := Lib.hid h.i
  have HV' := Lib.hid h'.i
  clear h h' hB hw hw'
  generalize loB g x y = r at *
  go_enter Try.func62, Try.ntmps62
  go_wp2_with fail
  refine (HOf.out _).mono ?_
  rintro e w1 ⟨rfl, hb⟩
  have HBn : Hid (Below w.heap.size w w1) := Lib.hid (hb)
  have HV_n := Lib.hid (HV.out.below HBn.out (Nat.le_refl _))
  have HV'_n := Lib.hid (HV'.out.below HBn.out (Nat.le_refl _))
  have HB := HBn
  clear HV HV'
  have HV := HV_n
  have HV' := HV'_n
  clear HV_n HV'_n HBn hb
  go_wp2_with fail
  refine (HL1.out _ _ HV.out).mono ?_
  rintro e w2 ⟨la, lc, rfl, hl1, hb⟩
  have HBn : Hid (Below w1.heap.size w1 w2) := Lib.hid (hb)
  have HV_n := Lib.hid (HV.out.below HBn.out (Nat.le_refl _))
  have HV'_n := Lib.hid (HV'.out.below HBn.out (Nat.le_refl _))
  have HB_n := Lib.hid (HB.out.trans (HBn.out.mono HB.out.size))
  clear HV HV' HB
  have HV := HV_n
  have HV' := HV'_n
  have HB := HB_n
  clear HV_n HV'_n HB_n HBn hb
  have HA1 := Lib.hid hl1
  clear hl1
  go_wp2_with fail
  refine (HL2.out _ _ HV'.out).mono ?_
  rintro e w3 ⟨la2, lc2, rfl, hl2, hb⟩
  have HBn : Hid (Below w2.heap.size w2 w3) := Lib.hid (hb)
  have HV'_n := Lib.hid (HV'.out.below HBn.out (Nat.le_refl _))
  have HA1_n := Lib.hid (HA1.out.below HBn.out (Nat.le_refl _))
  have HB_n := Lib.hid (HB.out.trans (HBn.out.mono HB.out.size))
  clear HV' HA1 HB
  have HV' := HV'_n
  have HA1 := HA1_n
  have HB := HB_n
  clear HV'_n HA1_n HB_n HBn hb
  have HA2 := Lib.hid hl2
  clear hl2
  go_wp2_with fail
  refine (HBe.out _ _ _ HA1.out HA2.out).mono ?_
  rintro e w4 ⟨rfl, hb⟩
  have HBn : Hid (Below w3.heap.size w3 w4) := Lib.hid (hb)
  have HB_n := Lib.hid (HB.out.trans (HBn.out.mono HB.out.size))
  clear HB
  have HB := HB_n
  clear HB_n HBn hb
  cases r
  · go_wp2_with fail
    go_ret
    exact ⟨rfl, HB.out⟩
  · go_wp2_with fail
    go_ret
    exact ⟨rfl, HB.out⟩

theorem ord_anti {g x z : Nat} (hg : g < 17) (hx : x < nE g) (hz : z < nE g) (h1 : loB g x z = true) (h2 : loB g z x = true) : x = z := by
  rcases ((ord_two hg hx hz).2.2 h1).2 with a | a
  · rcases ((ord_two hg hz hx).2.2 h2).2 with b | b
    · omega
    · exact b.symm
  · exact a
set_option maxRecDepth 100000 in
set_option maxHeartbeats 1000000 in
theorem order_bad (k n : Int) (v1 v2 v3 : Value) (l1 l2 l3 : List Int) (w : World) (h1 : Ints w v1 l1) (h2 : Ints w v2 l2) (h3 : Ints w v3 l3)
    (hb : ∀ v W, IntRows W v [l1, l2, l3] → Calls Try.prog 24 #[gV k n, v] W fun e w' => e = .returned (.bool false) ∧ Below W.heap.size W w') :
    Calls Try.prog 12 #[gV k n, v1, v2, v3] w fun e w' => e = .returned (.bool true) ∧ Below w.heap.size w w' := by
  have HF := Lib.hid hb
  have HAw := Lib.hid (fun W => awake_any W)
  obtain ⟨a1_, c1_, rfl, _, _, _⟩ := h1.open
  obtain ⟨a2_, c2_, rfl, _, _, _⟩ := h2.open
  obtain ⟨a3_, c3_, rfl, _, _, _⟩ := h3.open
  have H1 := Lib.hid h1
  have H2 := Lib.hid h2
  have H3 := Lib.hid h3
  clear h1 h2 h3 hb
  go_enter Try.func12, Try.ntmps12
  go_wp2_with fail
  refine (HF.out _ _ (rows3 (blk_at (by simp)) ((H1.out.alloc _).alloc _) ((H2.out.alloc _).alloc _) ((H3.out.alloc _).alloc _))).mono ?_
  rintro e w1 ⟨rfl, hb⟩
  have HB := Lib.hid (bl2 hb)
  clear hb
  go_wp2_with fail
  refine (HAw.out _).mono ?_
  rintro e w2 ⟨rfl, hb⟩
  have HB2 : Hid (Below w.heap.size w w2) := Lib.hid (HB.out.trans (hb.mono HB.out.size))
  clear hb
  go_wp2_with fail
  go_ret
  exact ⟨rfl, HB2.out⟩

set_option maxRecDepth 100000 in
set_option maxHeartbeats 4000000 in
theorem order_good (g : Nat) (hg : g < 17) (v1 v2 v3 : Value) (l1 l2 l3 : List Int) (w : World) (h1 : Ints w v1 l1) (h2 : Ints w v2 l2) (h3 : Ints w v3 l3) (hw1 : wordB g l1 = true) (hw2 : wordB g l2 = true) (hw3 : wordB g l3 = true) :
    Calls Try.prog 12 #[gV (kd g) (nm g), v1, v2, v3] w fun e w' => e = .returned (.bool true) ∧ Below w.heap.size w w' := by
  have q1 : l1.length ≤ 30 := by simp [wordB] at hw1; omega
  have q2 : l2.length ≤ 30 := by simp [wordB] at hw2; omega
  have q3 : l3.length ≤ 30 := by simp [wordB] at hw3; omega
  have HOf := Lib.hid (fun W => Of_any (kd g) (nm g) W)
  have HL1 := Lib.hid (fun v W h => listOk q1 v W h)
  have HL3 := Lib.hid (fun v W h => listOk q3 v W h)
  have HFi := Lib.hid (fun v W h => fine_any g hg v [l1, l2, l3] W h (by simp))
  rw [show [l1, l2, l3].all (wordB g) = true by simp [hw1, hw2, hw3]] at HFi
  have HAw := Lib.hid (fun W => awake_any W)
  have hE := tE hg
  have hX := folI_lt hg hw1
  have hV := folI_lt hg hw2
  have hZ := folI_lt hg hw3
  have hbX := bk_lt hg hX
  have hbZ := bk_lt hg hZ
  have hmX := mul_lt (y := nE g - 1) hg (by omega) hX
  have hmZ := mul_lt (y := nE g - 1) hg (by omega) hZ
  have HLo : Hid (∀ W, Calls Try.prog 38 #[gV (kd g) (nm g)] W fun e w' => ∃ a c, e = .returned (.tuple #[.slice a (ln g (nE g - 1)) c, .int .i64 0]) ∧ Wn w' (.slice a (ln g (nE g - 1)) c) g (nE g - 1) ∧ Below W.heap.size W w') := Lib.hid (fun W => Longest_ok g hg W)
  have HB1 := Lib.hid (fun v W h => backL hg hw1 v W h)
  have HB3 := Lib.hid (fun v W h => backL hg hw3 v W h)
  have HCl := Lib.hid (fun v W h => cloneW (y := nE g - 1) hg (by omega) v W h)
  have HT1 := Lib.hid (fun v v' W h h' => timesL (y := nE g - 1) hg (by omega) hw1 v v' W h h')
  have HT3 := Lib.hid (fun v v' W h h' => timesL (y := nE g - 1) hg (by omega) hw3 v v' W h h')
  have HN1 := Lib.hid (fun v W h => normW hg hw1 v W h)
  have HN3 := Lib.hid (fun v W h => normW hg hw3 v W h)
  have HO := Lib.hid (fun B v v' l l' x y W hB h h' => ord1_any g B hg v v' l l' x y W hB h h')
  have HNil : Hid (∀ W : World, Wo W (.slice none 0 0) g [] 0) := Lib.hid (fun W => ⟨⟨⟨none, 0, rfl, Nat.le_refl _, Nat.zero_le _, Nat.zero_le _, .inl rfl⟩, by simp⟩, rfl, rfl⟩)
  have HW1 : Hid (∀ W v, Ints W v l1 → Wo W v g l1 (folI g l1)) := Lib.hid (fun W v h => ⟨h, hw1, rfl⟩)
  have HW2 : Hid (∀ W v, Ints W v l2 → Wo W v g l2 (folI g l2)) := Lib.hid (fun W v h => ⟨h, hw2, rfl⟩)
  have HW3 : Hid (∀ W v, Ints W v l3 → Wo W v g l3 (folI g l3)) := Lib.hid (fun W v h => ⟨h, hw3, rfl⟩)
  have HWn := Lib.hid (fun W v y (h : Wn W v g y) (hy : y < nE g) => h.wo hg hy)
  have HEq : Hid (∀ v v' W x z, x < nE g → z < nE g → Wn W v g x → Wn W v' g z → Calls Try.prog 28 #[v, v'] W fun e w' => e = .returned (.bool (decide (x = z))) ∧ Below W.heap.size W w') := Lib.hid (fun v v' W x z hx hz h h' => (equal_any v v' _ _ W h h').mono fun e w' hh => ⟨by rw [hh.1, show eqB (nats (wd g x)) (nats (wd g z)) = decide (x = z) from decide_eq_decide.2 ⟨fun e => by
    have e2 := congrArg (folI g) e
    rwa [folI_wd hg hx, folI_wd hg hz] at e2, fun e => by rw [e]⟩], hh.2⟩)
  have o1 := (ord_one hg hX).1
  have o2 := (ord_one hg hX).2.1
  have o3 := (ord_one hg hX).2.2
  have o4 := (ord_two hg hX hZ).1
  have o5 := (ord_two hg hX hZ).2.1
  have OT := Lib.hid ((ord_two hg hX hZ).2.2)
  have OA := Lib.hid (fun h1 h2 => ord_anti hg hX hZ h1 h2)
  have b1 := (tx hg hX).2.1
  have b3 := (tx hg hZ).2.1
  clear hw1 hw2 hw3
  obtain ⟨va1, vc1, rfl, _, _, _⟩ := h1.open
  obtain ⟨va2, vc2, rfl, _, _, _⟩ := h2.open
  obtain ⟨va3, vc3, rfl, _, _, _⟩ := h3.open
  have H1 := Lib.hid h1
  have H2 := Lib.hid h2
  have H3 := Lib.hid h3
  clear h1 h2 h3
  generalize hLe : nE g - 1 = Le at *
  have hLe' : Le < nE g := by omega
  generalize mul g Le (folI g l1) = mX at *
  generalize mul g Le (folI g l3) = mZ at *
  generalize bk g (folI g l1) = bX at *
  generalize bk g (folI g l3) = bZ at *
  generalize folI g l1 = X at *
  generalize folI g l2 = V at *
  generalize folI g l3 = Z at *
  go_enter Try.func12, Try.ntmps12
  go_wp2_with fail
  refine (HFi.out _ _ (rows3 (blk_at (by simp)) ((H1.out.alloc _).alloc _) ((H2.out.alloc _).alloc _) ((H3.out.alloc _).alloc _))).mono ?_
  rintro e w1 ⟨rfl, hb⟩
  have HG : Hid (Blk 23 w1 w.heap.size #[.int .u8 (kd g), .int .i64 (nm g)]) := Lib.hid ((hb.block _ (by simp; omega)).trans ((Blk.new _ _ _).alloc _))
  have HB : Hid (Below w.heap.size w w1) := Lib.hid (bl2 hb)
  have H1' := Lib.hid (H1.out.below HB.out (Nat.le_refl _))
  have H2' := Lib.hid (H2.out.below HB.out (Nat.le_refl _))
  have H3' := Lib.hid (H3.out.below HB.out (Nat.le_refl _))
  clear hb H1 H2 H3
  have H1 := H1'
  have H2 := H2'
  have H3 := H3'
  clear H1' H2' H3'
  have g0 := HG.out.at0.1
  have g1 := HG.out.at0.2
  go_wp2_with fail
  clear g0 g1
  refine (HOf.out _).mono ?_
  rintro e w2 ⟨rfl, hb⟩
  have HBn : Hid (Below w1.heap.size w1 w2) := Lib.hid (hb)
  have HG_n := Lib.hid (HG.out.below HBn.out)
  have H1_n := Lib.hid (H1.out.below HBn.out (Nat.le_refl _))
  have H2_n := Lib.hid (H2.out.below HBn.out (Nat.le_refl _))
  have H3_n := Lib.hid (H3.out.below HBn.out (Nat.le_refl _))
  have HB_n := Lib.hid (HB.out.trans (HBn.out.mono HB.out.size))
  clear HG H1 H2 H3 HB
  have HG := HG_n
  have H1 := H1_n
  have H2 := H2_n
  have H3 := H3_n
  have HB := HB_n
  clear HG_n H1_n H2_n H3_n HB_n HBn hb
  have g0 := HG.out.at0.1
  have g1 := HG.out.at0.2
  go_wp2_with fail
  clear g0 g1
  refine (HLo.out _).mono ?_
  rintro e w3 ⟨oa, oc, rfl, hlst, hb⟩
  have HBn : Hid (Below w2.heap.size w2 w3) := Lib.hid (hb)
  have HG_n := Lib.hid (HG.out.below HBn.out)
  have H1_n := Lib.hid (H1.out.below HBn.out (Nat.le_refl _))
  have H2_n := Lib.hid (H2.out.below HBn.out (Nat.le_refl _))
  have H3_n := Lib.hid (H3.out.below HBn.out (Nat.le_refl _))
  have HB_n := Lib.hid (HB.out.trans (HBn.out.mono HB.out.size))
  clear HG H1 H2 H3 HB
  have HG := HG_n
  have H1 := H1_n
  have H2 := H2_n
  have H3 := H3_n
  have HB := HB_n
  clear HG_n H1_n H2_n H3_n HB_n HBn hb
  have HLST := Lib.hid hlst
  clear hlst
  have g0 := HG.out.at0.1
  have g1 := HG.out.at0.2
  go_wp2_with fail
  clear g0 g1
  refine (HOf.out _).mono ?_
  rintro e w4 ⟨rfl, hb⟩
  have HBn : Hid (Below w3.heap.size w3 w4) := Lib.hid (hb)
  have HG_n := Lib.hid (HG.out.below HBn.out)
  have H1_n := Lib.hid (H1.out.below HBn.out (Nat.le_refl _))
  have H2_n := Lib.hid (H2.out.below HBn.out (Nat.le_refl _))
  have H3_n := Lib.hid (H3.out.below HBn.out (Nat.le_refl _))
  have HLST_n := Lib.hid (HLST.out.below HBn.out (Nat.le_refl _))
  have HB_n := Lib.hid (HB.out.trans (HBn.out.mono HB.out.size))
  clear HG H1 H2 H3 HLST HB
  have HG := HG_n
  have H1 := H1_n
  have H2 := H2_n
  have H3 := H3_n
  have HLST := HLST_n
  have HB := HB_n
  clear HG_n H1_n H2_n H3_n HLST_n HB_n HBn hb
  have g0 := HG.out.at0.1
  have g1 := HG.out.at0.2
  go_wp2_with fail
  clear g0 g1
  refine (HL1.out _ _ H1.out).mono ?_
  rintro e w5 ⟨laha, lcha, rfl, hll, hb⟩
  have HBn : Hid (Below w4.heap.size w4 w5) := Lib.hid (hb)
  have HG_n := Lib.hid (HG.out.below HBn.out)
  have H1_n := Lib.hid (H1.out.below HBn.out (Nat.le_refl _))
  have H2_n := Lib.hid (H2.out.below HBn.out (Nat.le_refl _))
  have H3_n := Lib.hid (H3.out.below HBn.out (Nat.le_refl _))
  have HLST_n := Lib.hid (HLST.out.below HBn.out (Nat.le_refl _))
  have HB_n := Lib.hid (HB.out.trans (HBn.out.mono HB.out.size))
  clear HG H1 H2 H3 HLST HB
  have HG := HG_n
  have H1 := H1_n
  have H2 := H2_n
  have H3 := H3_n
  have HLST := HLST_n
  have HB := HB_n
  clear HG_n H1_n H2_n H3_n HLST_n HB_n HBn hb
  have HLL := Lib.hid hll
  clear hll
  have g0 := HG.out.at0.1
  have g1 := HG.out.at0.2
  go_wp2_with fail
  clear g0 g1
  refine (HB1.out _ _ HLL.out).mono ?_
  rintro e w6 ⟨raha, rcha, rfl, ha, hb⟩
  have HBn : Hid (Below w5.heap.size w5 w6) := Lib.hid (hb)
  have HG_n := Lib.hid (HG.out.below HBn.out)
  have H1_n := Lib.hid (H1.out.below HBn.out (Nat.le_refl _))
  have H2_n := Lib.hid (H2.out.below HBn.out (Nat.le_refl _))
  have H3_n := Lib.hid (H3.out.below HBn.out (Nat.le_refl _))
  have HLST_n := Lib.hid (HLST.out.below HBn.out (Nat.le_refl _))
  have HLL_n := Lib.hid (HLL.out.below HBn.out (Nat.le_refl _))
  have HB_n := Lib.hid (HB.out.trans (HBn.out.mono HB.out.size))
  clear HG H1 H2 H3 HLST HLL HB
  have HG := HG_n
  have H1 := H1_n
  have H2 := H2_n
  have H3 := H3_n
  have HLST := HLST_n
  have HLL := HLL_n
  have HB := HB_n
  clear HG_n H1_n H2_n H3_n HLST_n HLL_n HB_n HBn hb
  have HA := Lib.hid ha
  clear ha
  have g0 := HG.out.at0.1
  have g1 := HG.out.at0.2
  go_wp2_with fail
  clear HLL
  clear g0 g1
  refine (HOf.out _).mono ?_
  rintro e w7 ⟨rfl, hb⟩
  have HBn : Hid (Below w6.heap.size w6 w7) := Lib.hid (hb)
  have HG_n := Lib.hid (HG.out.below HBn.out)
  have H1_n := Lib.hid (H1.out.below HBn.out (Nat.le_refl _))
  have H2_n := Lib.hid (H2.out.below HBn.out (Nat.le_refl _))
  have H3_n := Lib.hid (H3.out.below HBn.out (Nat.le_refl _))
  have HLST_n := Lib.hid (HLST.out.below HBn.out (Nat.le_refl _))
  have HA_n := Lib.hid (HA.out.below HBn.out (Nat.le_refl _))
  have HB_n := Lib.hid (HB.out.trans (HBn.out.mono HB.out.size))
  clear HG H1 H2 H3 HLST HA HB
  have HG := HG_n
  have H1 := H1_n
  have H2 := H2_n
  have H3 := H3_n
  have HLST := HLST_n
  have HA := HA_n
  have HB := HB_n
  clear HG_n H1_n H2_n H3_n HLST_n HA_n HB_n HBn hb
  have g0 := HG.out.at0.1
  have g1 := HG.out.at0.2
  go_wp2_with fail
  clear g0 g1
  refine (HL3.out _ _ H3.out).mono ?_
  rintro e w8 ⟨lahbz, lchbz, rfl, hll, hb⟩
  have HBn : Hid (Below w7.heap.size w7 w8) := Lib.hid (hb)
  have HG_n := Lib.hid (HG.out.below HBn.out)
  have H1_n := Lib.hid (H1.out.below HBn.out (Nat.le_refl _))
  have H2_n := Lib.hid (H2.out.below HBn.out (Nat.le_refl _))
  have H3_n := Lib.hid (H3.out.below HBn.out (Nat.le_refl _))
  have HLST_n := Lib.hid (HLST.out.below HBn.out (Nat.le_refl _))
  have HA_n := Lib.hid (HA.out.below HBn.out (Nat.le_refl _))
  have HB_n := Lib.hid (HB.out.trans (HBn.out.mono HB.out.size))
  clear HG H1 H2 H3 HLST HA HB
  have HG := HG_n
  have H1 := H1_n
  have H2 := H2_n
  have H3 := H3_n
  have HLST := HLST_n
  have HA := HA_n
  have HB := HB_n
  clear HG_n H1_n H2_n H3_n HLST_n HA_n HB_n HBn hb
  have HLL := Lib.hid hll
  clear hll
  have g0 := HG.out.at0.1
  have g1 := HG.out.at0.2
  go_wp2_with fail
  clear g0 g1
  refine (HB3.out _ _ HLL.out).mono ?_
  rintro e w9 ⟨rahbz, rchbz, rfl, hbz, hb⟩
  have HBn : Hid (Below w8.heap.size w8 w9) := Lib.hid (hb)
  have HG_n := Lib.hid (HG.out.below HBn.out)
  have H1_n := Lib.hid (H1.out.below HBn.out (Nat.le_refl _))
  have H2_n := Lib.hid (H2.out.below HBn.out (Nat.le_refl _))
  have H3_n := Lib.hid (H3.out.below HBn.out (Nat.le_refl _))
  have HLST_n := Lib.hid (HLST.out.below HBn.out (Nat.le_refl _))
  have HA_n := Lib.hid (HA.out.below HBn.out (Nat.le_refl _))
  have HLL_n := Lib.hid (HLL.out.below HBn.out (Nat.le_refl _))
  have HB_n := Lib.hid (HB.out.trans (HBn.out.mono HB.out.size))
  clear HG H1 H2 H3 HLST HA HLL HB
  have HG := HG_n
  have H1 := H1_n
  have H2 := H2_n
  have H3 := H3_n
  have HLST := HLST_n
  have HA := HA_n
  have HLL := HLL_n
  have HB := HB_n
  clear HG_n H1_n H2_n H3_n HLST_n HA_n HLL_n HB_n HBn hb
  have HBZ := Lib.hid hbz
  clear hbz
  have g0 := HG.out.at0.1
  have g1 := HG.out.at0.2
  go_wp2_with fail
  clear HLL
  clear g0 g1
  refine (HOf.out _).mono ?_
  rintro e w10 ⟨rfl, hb⟩
  have HBn : Hid (Below w9.heap.size w9 w10) := Lib.hid (hb)
  have HG_n := Lib.hid (HG.out.below HBn.out)
  have H1_n := Lib.hid (H1.out.below HBn.out (Nat.le_refl _))
  have H2_n := Lib.hid (H2.out.below HBn.out (Nat.le_refl _))
  have H3_n := Lib.hid (H3.out.below HBn.out (Nat.le_refl _))
  have HLST_n := Lib.hid (HLST.out.below HBn.out (Nat.le_refl _))
  have HA_n := Lib.hid (HA.out.below HBn.out (Nat.le_refl _))
  have HBZ_n := Lib.hid (HBZ.out.below HBn.out (Nat.le_refl _))
  have HB_n := Lib.hid (HB.out.trans (HBn.out.mono HB.out.size))
  clear HG H1 H2 H3 HLST HA HBZ HB
  have HG := HG_n
  have H1 := H1_n
  have H2 := H2_n
  have H3 := H3_n
  have HLST := HLST_n
  have HA := HA_n
  have HBZ := HBZ_n
  have HB := HB_n
  clear HG_n H1_n H2_n H3_n HLST_n HA_n HBZ_n HB_n HBn hb
  have g0 := HG.out.at0.1
  have g1 := HG.out.at0.2
  go_wp2_with fail
  clear g0 g1
  refine (HCl.out _ _ HLST.out).mono ?_
  rintro e w11 ⟨kahc, kchc, rfl, hkk, hb⟩
  have HBn : Hid (Below w10.heap.size w10 w11) := Lib.hid (hb)
  have HG_n := Lib.hid (HG.out.below HBn.out)
  have H1_n := Lib.hid (H1.out.below HBn.out (Nat.le_refl _))
  have H2_n := Lib.hid (H2.out.below HBn.out (Nat.le_refl _))
  have H3_n := Lib.hid (H3.out.below HBn.out (Nat.le_refl _))
  have HLST_n := Lib.hid (HLST.out.below HBn.out (Nat.le_refl _))
  have HA_n := Lib.hid (HA.out.below HBn.out (Nat.le_refl _))
  have HBZ_n := Lib.hid (HBZ.out.below HBn.out (Nat.le_refl _))
  have HB_n := Lib.hid (HB.out.trans (HBn.out.mono HB.out.size))
  clear HG H1 H2 H3 HLST HA HBZ HB
  have HG := HG_n
  have H1 := H1_n
  have H2 := H2_n
  have H3 := H3_n
  have HLST := HLST_n
  have HA := HA_n
  have HBZ := HBZ_n
  have HB := HB_n
  clear HG_n H1_n H2_n H3_n HLST_n HA_n HBZ_n HB_n HBn hb
  have HKK := Lib.hid hkk
  clear hkk
  have g0 := HG.out.at0.1
  have g1 := HG.out.at0.2
  go_wp2_with fail
  clear g0 g1
  refine (HL1.out _ _ H1.out).mono ?_
  rintro e w12 ⟨lahc, lchc, rfl, hll, hb⟩
  have HBn : Hid (Below w11.heap.size w11 w12) := Lib.hid (hb)
  have HG_n := Lib.hid (HG.out.below HBn.out)
  have H1_n := Lib.hid (H1.out.below HBn.out (Nat.le_refl _))
  have H2_n := Lib.hid (H2.out.below HBn.out (Nat.le_refl _))
  have H3_n := Lib.hid (H3.out.below HBn.out (Nat.le_refl _))
  have HLST_n := Lib.hid (HLST.out.below HBn.out (Nat.le_refl _))
  have HA_n := Lib.hid (HA.out.below HBn.out (Nat.le_refl _))
  have HBZ_n := Lib.hid (HBZ.out.below HBn.out (Nat.le_refl _))
  have HKK_n := Lib.hid (HKK.out.below HBn.out (Nat.le_refl _))
  have HB_n := Lib.hid (HB.out.trans (HBn.out.mono HB.out.size))
  clear HG H1 H2 H3 HLST HA HBZ HKK HB
  have HG := HG_n
  have H1 := H1_n
  have H2 := H2_n
  have H3 := H3_n
  have HLST := HLST_n
  have HA := HA_n
  have HBZ := HBZ_n
  have HKK := HKK_n
  have HB := HB_n
  clear HG_n H1_n H2_n H3_n HLST_n HA_n HBZ_n HKK_n HB_n HBn hb
  have HLL := Lib.hid hll
  clear hll
  have g0 := HG.out.at0.1
  have g1 := HG.out.at0.2
  go_wp2_with fail
  clear g0 g1
  refine (HT1.out _ _ _ HKK.out HLL.out).mono ?_
  rintro e w13 ⟨rahc, rchc, rfl, hc, hb⟩
  have HBn : Hid (Below w12.heap.size w12 w13) := Lib.hid (hb)
  have HG_n := Lib.hid (HG.out.below HBn.out)
  have H1_n := Lib.hid (H1.out.below HBn.out (Nat.le_refl _))
  have H2_n := Lib.hid (H2.out.below HBn.out (Nat.le_refl _))
  have H3_n := Lib.hid (H3.out.below HBn.out (Nat.le_refl _))
  have HLST_n := Lib.hid (HLST.out.below HBn.out (Nat.le_refl _))
  have HA_n := Lib.hid (HA.out.below HBn.out (Nat.le_refl _))
  have HBZ_n := Lib.hid (HBZ.out.below HBn.out (Nat.le_refl _))
  have HKK_n := Lib.hid (HKK.out.below HBn.out (Nat.le_refl _))
  have HLL_n := Lib.hid (HLL.out.below HBn.out (Nat.le_refl _))
  have HB_n := Lib.hid (HB.out.trans (HBn.out.mono HB.out.size))
  clear HG H1 H2 H3 HLST HA HBZ HKK HLL HB
  have HG := HG_n
  have H1 := H1_n
  have H2 := H2_n
  have H3 := H3_n
  have HLST := HLST_n
  have HA := HA_n
  have HBZ := HBZ_n
  have HKK := HKK_n
  have HLL := HLL_n
  have HB := HB_n
  clear HG_n H1_n H2_n H3_n HLST_n HA_n HBZ_n HKK_n HLL_n HB_n HBn hb
  have HC := Lib.hid hc
  clear hc
  have g0 := HG.out.at0.1
  have g1 := HG.out.at0.2
  go_wp2_with fail
  clear HKK HLL
  clear g0 g1
  refine (HOf.out _).mono ?_
  rintro e w14 ⟨rfl, hb⟩
  have HBn : Hid (Below w13.heap.size w13 w14) := Lib.hid (hb)
  have HG_n := Lib.hid (HG.out.below HBn.out)
  have H1_n := Lib.hid (H1.out.below HBn.out (Nat.le_refl _))
  have H2_n := Lib.hid (H2.out.below HBn.out (Nat.le_refl _))
  have H3_n := Lib.hid (H3.out.below HBn.out (Nat.le_refl _))
  have HLST_n := Lib.hid (HLST.out.below HBn.out (Nat.le_refl _))
  have HA_n := Lib.hid (HA.out.below HBn.out (Nat.le_refl _))
  have HBZ_n := Lib.hid (HBZ.out.below HBn.out (Nat.le_refl _))
  have HC_n := Lib.hid (HC.out.below HBn.out (Nat.le_refl _))
  have HB_n := Lib.hid (HB.out.trans (HBn.out.mono HB.out.size))
  clear HG H1 H2 H3 HLST HA HBZ HC HB
  have HG := HG_n
  have H1 := H1_n
  have H2 := H2_n
  have H3 := H3_n
  have HLST := HLST_n
  have HA := HA_n
  have HBZ := HBZ_n
  have HC := HC_n
  have HB := HB_n
  clear HG_n H1_n H2_n H3_n HLST_n HA_n HBZ_n HC_n HB_n HBn hb
  have g0 := HG.out.at0.1
  have g1 := HG.out.at0.2
  go_wp2_with fail
  clear g0 g1
  refine (HCl.out _ _ HLST.out).mono ?_
  rintro e w15 ⟨kahd, kchd, rfl, hkk, hb⟩
  have HBn : Hid (Below w14.heap.size w14 w15) := Lib.hid (hb)
  have HG_n := Lib.hid (HG.out.below HBn.out)
  have H1_n := Lib.hid (H1.out.below HBn.out (Nat.le_refl _))
  have H2_n := Lib.hid (H2.out.below HBn.out (Nat.le_refl _))
  have H3_n := Lib.hid (H3.out.below HBn.out (Nat.le_refl _))
  have HLST_n := Lib.hid (HLST.out.below HBn.out (Nat.le_refl _))
  have HA_n := Lib.hid (HA.out.below HBn.out (Nat.le_refl _))
  have HBZ_n := Lib.hid (HBZ.out.below HBn.out (Nat.le_refl _))
  have HC_n := Lib.hid (HC.out.below HBn.out (Nat.le_refl _))
  have HB_n := Lib.hid (HB.out.trans (HBn.out.mono HB.out.size))
  clear HG H1 H2 H3 HLST HA HBZ HC HB
  have HG := HG_n
  have H1 := H1_n
  have H2 := H2_n
  have H3 := H3_n
  have HLST := HLST_n
  have HA := HA_n
  have HBZ := HBZ_n
  have HC := HC_n
  have HB := HB_n
  clear HG_n H1_n H2_n H3_n HLST_n HA_n HBZ_n HC_n HB_n HBn hb
  have HKK := Lib.hid hkk
  clear hkk
  have g0 := HG.out.at0.1
  have g1 := HG.out.at0.2
  go_wp2_with fail
  clear g0 g1
  refine (HL3.out _ _ H3.out).mono ?_
  rintro e w16 ⟨lahd, lchd, rfl, hll, hb⟩
  have HBn : Hid (Below w15.heap.size w15 w16) := Lib.hid (hb)
  have HG_n := Lib.hid (HG.out.below HBn.out)
  have H1_n := Lib.hid (H1.out.below HBn.out (Nat.le_refl _))
  have H2_n := Lib.hid (H2.out.below HBn.out (Nat.le_refl _))
  have H3_n := Lib.hid (H3.out.below HBn.out (Nat.le_refl _))
  have HLST_n := Lib.hid (HLST.out.below HBn.out (Nat.le_refl _))
  have HA_n := Lib.hid (HA.out.below HBn.out (Nat.le_refl _))
  have HBZ_n := Lib.hid (HBZ.out.below HBn.out (Nat.le_refl _))
  have HC_n := Lib.hid (HC.out.below HBn.out (Nat.le_refl _))
  have HKK_n := Lib.hid (HKK.out.below HBn.out (Nat.le_refl _))
  have HB_n := Lib.hid (HB.out.trans (HBn.out.mono HB.out.size))
  clear HG H1 H2 H3 HLST HA HBZ HC HKK HB
  have HG := HG_n
  have H1 := H1_n
  have H2 := H2_n
  have H3 := H3_n
  have HLST := HLST_n
  have HA := HA_n
  have HBZ := HBZ_n
  have HC := HC_n
  have HKK := HKK_n
  have HB := HB_n
  clear HG_n H1_n H2_n H3_n HLST_n HA_n HBZ_n HC_n HKK_n HB_n HBn hb
  have HLL := Lib.hid hll
  clear hll
  have g0 := HG.out.at0.1
  have g1 := HG.out.at0.2
  go_wp2_with fail
  clear g0 g1
  refine (HT3.out _ _ _ HKK.out HLL.out).mono ?_
  rintro e w17 ⟨rahd, rchd, rfl, hd, hb⟩
  have HBn : Hid (Below w16.heap.size w16 w17) := Lib.hid (hb)
  have HG_n := Lib.hid (HG.out.below HBn.out)
  have H1_n := Lib.hid (H1.out.below HBn.out (Nat.le_refl _))
  have H2_n := Lib.hid (H2.out.below HBn.out (Nat.le_refl _))
  have H3_n := Lib.hid (H3.out.below HBn.out (Nat.le_refl _))
  have HLST_n := Lib.hid (HLST.out.below HBn.out (Nat.le_refl _))
  have HA_n := Lib.hid (HA.out.below HBn.out (Nat.le_refl _))
  have HBZ_n := Lib.hid (HBZ.out.below HBn.out (Nat.le_refl _))
  have HC_n := Lib.hid (HC.out.below HBn.out (Nat.le_refl _))
  have HKK_n := Lib.hid (HKK.out.below HBn.out (Nat.le_refl _))
  have HLL_n := Lib.hid (HLL.out.below HBn.out (Nat.le_refl _))
  have HB_n := Lib.hid (HB.out.trans (HBn.out.mono HB.out.size))
  clear HG H1 H2 H3 HLST HA HBZ HC HKK HLL HB
  have HG := HG_n
  have H1 := H1_n
  have H2 := H2_n
  have H3 := H3_n
  have HLST := HLST_n
  have HA := HA_n
  have HBZ := HBZ_n
  have HC := HC_n
  have HKK := HKK_n
  have HLL := HLL_n
  have HB := HB_n
  clear HG_n H1_n H2_n H3_n HLST_n HA_n HBZ_n HC_n HKK_n HLL_n HB_n HBn hb
  have HD := Lib.hid hd
  clear hd
  have g0 := HG.out.at0.1
  have g1 := HG.out.at0.2
  go_wp2_with fail
  clear HKK HLL
  clear g0 g1
  refine (HOf.out _).mono ?_
  rintro e w18 ⟨rfl, hb⟩
  have HBn : Hid (Below w17.heap.size w17 w18) := Lib.hid (hb)
  have HG_n := Lib.hid (HG.out.below HBn.out)
  have H1_n := Lib.hid (H1.out.below HBn.out (Nat.le_refl _))
  have H2_n := Lib.hid (H2.out.below HBn.out (Nat.le_refl _))
  have H3_n := Lib.hid (H3.out.below HBn.out (Nat.le_refl _))
  have HLST_n := Lib.hid (HLST.out.below HBn.out (Nat.le_refl _))
  have HA_n := Lib.hid (HA.out.below HBn.out (Nat.le_refl _))
  have HBZ_n := Lib.hid (HBZ.out.below HBn.out (Nat.le_refl _))
  have HC_n := Lib.hid (HC.out.below HBn.out (Nat.le_refl _))
  have HD_n := Lib.hid (HD.out.below HBn.out (Nat.le_refl _))
  have HB_n := Lib.hid (HB.out.trans (HBn.out.mono HB.out.size))
  clear HG H1 H2 H3 HLST HA HBZ HC HD HB
  have HG := HG_n
  have H1 := H1_n
  have H2 := H2_n
  have H3 := H3_n
  have HLST := HLST_n
  have HA := HA_n
  have HBZ := HBZ_n
  have HC := HC_n
  have HD := HD_n
  have HB := HB_n
  clear HG_n H1_n H2_n H3_n HLST_n HA_n HBZ_n HC_n HD_n HB_n HBn hb
  have g0 := HG.out.at0.1
  have g1 := HG.out.at0.2
  go_wp2_with fail
  clear g0 g1
  refine (HL1.out _ _ H1.out).mono ?_
  rintro e w19 ⟨lahx, lchx, rfl, hll, hb⟩
  have HBn : Hid (Below w18.heap.size w18 w19) := Lib.hid (hb)
  have HG_n := Lib.hid (HG.out.below HBn.out)
  have H1_n := Lib.hid (H1.out.below HBn.out (Nat.le_refl _))
  have H2_n := Lib.hid (H2.out.below HBn.out (Nat.le_refl _))
  have H3_n := Lib.hid (H3.out.below HBn.out (Nat.le_refl _))
  have HLST_n := Lib.hid (HLST.out.below HBn.out (Nat.le_refl _))
  have HA_n := Lib.hid (HA.out.below HBn.out (Nat.le_refl _))
  have HBZ_n := Lib.hid (HBZ.out.below HBn.out (Nat.le_refl _))
  have HC_n := Lib.hid (HC.out.below HBn.out (Nat.le_refl _))
  have HD_n := Lib.hid (HD.out.below HBn.out (Nat.le_refl _))
  have HB_n := Lib.hid (HB.out.trans (HBn.out.mono HB.out.size))
  clear HG H1 H2 H3 HLST HA HBZ HC HD HB
  have HG := HG_n
  have H1 := H1_n
  have H2 := H2_n
  have H3 := H3_n
  have HLST := HLST_n
  have HA := HA_n
  have HBZ := HBZ_n
  have HC := HC_n
  have HD := HD_n
  have HB := HB_n
  clear HG_n H1_n H2_n H3_n HLST_n HA_n HBZ_n HC_n HD_n HB_n HBn hb
  have HLL := Lib.hid hll
  clear hll
  have g0 := HG.out.at0.1
  have g1 := HG.out.at0.2
  go_wp2_with fail
  clear g0 g1
  refine (HN1.out _ _ HLL.out).mono ?_
  rintro e w20 ⟨rahx, rchx, rfl, hx, hb⟩
  have HBn : Hid (Below w19.heap.size w19 w20) := Lib.hid (hb)
  have HG_n := Lib.hid (HG.out.below HBn.out)
  have H1_n := Lib.hid (H1.out.below HBn.out (Nat.le_refl _))
  have H2_n := Lib.hid (H2.out.below HBn.out (Nat.le_refl _))
  have H3_n := Lib.hid (H3.out.below HBn.out (Nat.le_refl _))
  have HLST_n := Lib.hid (HLST.out.below HBn.out (Nat.le_refl _))
  have HA_n := Lib.hid (HA.out.below HBn.out (Nat.le_refl _))
  have HBZ_n := Lib.hid (HBZ.out.below HBn.out (Nat.le_refl _))
  have HC_n := Lib.hid (HC.out.below HBn.out (Nat.le_refl _))
  have HD_n := Lib.hid (HD.out.below HBn.out (Nat.le_refl _))
  have HLL_n := Lib.hid (HLL.out.below HBn.out (Nat.le_refl _))
  have HB_n := Lib.hid (HB.out.trans (HBn.out.mono HB.out.size))
  clear HG H1 H2 H3 HLST HA HBZ HC HD HLL HB
  have HG := HG_n
  have H1 := H1_n
  have H2 := H2_n
  have H3 := H3_n
  have HLST := HLST_n
  have HA := HA_n
  have HBZ := HBZ_n
  have HC := HC_n
  have HD := HD_n
  have HLL := HLL_n
  have HB := HB_n
  clear HG_n H1_n H2_n H3_n HLST_n HA_n HBZ_n HC_n HD_n HLL_n HB_n HBn hb
  have HX := Lib.hid hx
  clear hx
  have g0 := HG.out.at0.1
  have g1 := HG.out.at0.2
  go_wp2_with fail
  clear HLL
  clear g0 g1
  refine (HOf.out _).mono ?_
  rintro e w21 ⟨rfl, hb⟩
  have HBn : Hid (Below w20.heap.size w20 w21) := Lib.hid (hb)
  have HG_n := Lib.hid (HG.out.below HBn.out)
  have H1_n := Lib.hid (H1.out.below HBn.out (Nat.le_refl _))
  have H2_n := Lib.hid (H2.out.below HBn.out (Nat.le_refl _))
  have H3_n := Lib.hid (H3.out.below HBn.out (Nat.le_refl _))
  have HLST_n := Lib.hid (HLST.out.below HBn.out (Nat.le_refl _))
  have HA_n := Lib.hid (HA.out.below HBn.out (Nat.le_refl _))
  have HBZ_n := Lib.hid (HBZ.out.below HBn.out (Nat.le_refl _))
  have HC_n := Lib.hid (HC.out.below HBn.out (Nat.le_refl _))
  have HD_n := Lib.hid (HD.out.below HBn.out (Nat.le_refl _))
  have HX_n := Lib.hid (HX.out.below HBn.out (Nat.le_refl _))
  have HB_n := Lib.hid (HB.out.trans (HBn.out.mono HB.out.size))
  clear HG H1 H2 H3 HLST HA HBZ HC HD HX HB
  have HG := HG_n
  have H1 := H1_n
  have H2 := H2_n
  have H3 := H3_n
  have HLST := HLST_n
  have HA := HA_n
  have HBZ := HBZ_n
  have HC := HC_n
  have HD := HD_n
  have HX := HX_n
  have HB := HB_n
  clear HG_n H1_n H2_n H3_n HLST_n HA_n HBZ_n HC_n HD_n HX_n HB_n HBn hb
  have g0 := HG.out.at0.1
  have g1 := HG.out.at0.2
  go_wp2_with fail
  clear g0 g1
  refine (HL3.out _ _ H3.out).mono ?_
  rintro e w22 ⟨lahy, lchy, rfl, hll, hb⟩
  have HBn : Hid (Below w21.heap.size w21 w22) := Lib.hid (hb)
  have HG_n := Lib.hid (HG.out.below HBn.out)
  have H1_n := Lib.hid (H1.out.below HBn.out (Nat.le_refl _))
  have H2_n := Lib.hid (H2.out.below HBn.out (Nat.le_refl _))
  have H3_n := Lib.hid (H3.out.below HBn.out (Nat.le_refl _))
  have HLST_n := Lib.hid (HLST.out.below HBn.out (Nat.le_refl _))
  have HA_n := Lib.hid (HA.out.below HBn.out (Nat.le_refl _))
  have HBZ_n := Lib.hid (HBZ.out.below HBn.out (Nat.le_refl _))
  have HC_n := Lib.hid (HC.out.below HBn.out (Nat.le_refl _))
  have HD_n := Lib.hid (HD.out.below HBn.out (Nat.le_refl _))
  have HX_n := Lib.hid (HX.out.below HBn.out (Nat.le_refl _))
  have HB_n := Lib.hid (HB.out.trans (HBn.out.mono HB.out.size))
  clear HG H1 H2 H3 HLST HA HBZ HC HD HX HB
  have HG := HG_n
  have H1 := H1_n
  have H2 := H2_n
  have H3 := H3_n
  have HLST := HLST_n
  have HA := HA_n
  have HBZ := HBZ_n
  have HC := HC_n
  have HD := HD_n
  have HX := HX_n
  have HB := HB_n
  clear HG_n H1_n H2_n H3_n HLST_n HA_n HBZ_n HC_n HD_n HX_n HB_n HBn hb
  have HLL := Lib.hid hll
  clear hll
  have g0 := HG.out.at0.1
  have g1 := HG.out.at0.2
  go_wp2_with fail
  clear g0 g1
  refine (HN3.out _ _ HLL.out).mono ?_
  rintro e w23 ⟨rahy, rchy, rfl, hy, hb⟩
  have HBn : Hid (Below w22.heap.size w22 w23) := Lib.hid (hb)
  have HG_n := Lib.hid (HG.out.below HBn.out)
  have H1_n := Lib.hid (H1.out.below HBn.out (Nat.le_refl _))
  have H2_n := Lib.hid (H2.out.below HBn.out (Nat.le_refl _))
  have H3_n := Lib.hid (H3.out.below HBn.out (Nat.le_refl _))
  have HLST_n := Lib.hid (HLST.out.below HBn.out (Nat.le_refl _))
  have HA_n := Lib.hid (HA.out.below HBn.out (Nat.le_refl _))
  have HBZ_n := Lib.hid (HBZ.out.below HBn.out (Nat.le_refl _))
  have HC_n := Lib.hid (HC.out.below HBn.out (Nat.le_refl _))
  have HD_n := Lib.hid (HD.out.below HBn.out (Nat.le_refl _))
  have HX_n := Lib.hid (HX.out.below HBn.out (Nat.le_refl _))
  have HLL_n := Lib.hid (HLL.out.below HBn.out (Nat.le_refl _))
  have HB_n := Lib.hid (HB.out.trans (HBn.out.mono HB.out.size))
  clear HG H1 H2 H3 HLST HA HBZ HC HD HX HLL HB
  have HG := HG_n
  have H1 := H1_n
  have H2 := H2_n
  have H3 := H3_n
  have HLST := HLST_n
  have HA := HA_n
  have HBZ := HBZ_n
  have HC := HC_n
  have HD := HD_n
  have HX := HX_n
  have HLL := HLL_n
  have HB := HB_n
  clear HG_n H1_n H2_n H3_n HLST_n HA_n HBZ_n HC_n HD_n HX_n HLL_n HB_n HBn hb
  have HY := Lib.hid hy
  clear hy
  have g0 := HG.out.at0.1
  have g1 := HG.out.at0.2
  go_wp2_with fail
  clear HLL
  clear g0 g1
  refine (HO.out _ _ _ _ _ _ _ _ HG.out (HW1.out _ _ H1.out) (HW3.out _ _ H3.out)).mono ?_
  rintro e w24 ⟨rfl, hb⟩
  have HBn : Hid (Below w23.heap.size w23 w24) := Lib.hid (hb)
  have HG_n := Lib.hid (HG.out.below HBn.out)
  have H1_n := Lib.hid (H1.out.below HBn.out (Nat.le_refl _))
  have H2_n := Lib.hid (H2.out.below HBn.out (Nat.le_refl _))
  have H3_n := Lib.hid (H3.out.below HBn.out (Nat.le_refl _))
  have HLST_n := Lib.hid (HLST.out.below HBn.out (Nat.le_refl _))
  have HA_n := Lib.hid (HA.out.below HBn.out (Nat.le_refl _))
  have HBZ_n := Lib.hid (HBZ.out.below HBn.out (Nat.le_refl _))
  have HC_n := Lib.hid (HC.out.below HBn.out (Nat.le_refl _))
  have HD_n := Lib.hid (HD.out.below HBn.out (Nat.le_refl _))
  have HX_n := Lib.hid (HX.out.below HBn.out (Nat.le_refl _))
  have HY_n := Lib.hid (HY.out.below HBn.out (Nat.le_refl _))
  have HB_n := Lib.hid (HB.out.trans (HBn.out.mono HB.out.size))
  clear HG H1 H2 H3 HLST HA HBZ HC HD HX HY HB
  have HG := HG_n
  have H1 := H1_n
  have H2 := H2_n
  have H3 := H3_n
  have HLST := HLST_n
  have HA := HA_n
  have HBZ := HBZ_n
  have HC := HC_n
  have HD := HD_n
  have HX := HX_n
  have HY := HY_n
  have HB := HB_n
  clear HG_n H1_n H2_n H3_n HLST_n HA_n HBZ_n HC_n HD_n HX_n HY_n HB_n HBn hb
  have g0 := HG.out.at0.1
  have g1 := HG.out.at0.2
  cases his : loB g X Z with
  | false =>
    go_wp2_with fail
    clear g0 g1
    refine (HO.out _ _ _ _ _ _ _ _ HG.out (HNil.out _) (HW1.out _ _ H1.out)).mono ?_
    rintro e w25 ⟨rfl, hb⟩
    have HBn : Hid (Below w24.heap.size w24 w25) := Lib.hid (hb)
    have HG_n := Lib.hid (HG.out.below HBn.out)
    have H1_n := Lib.hid (H1.out.below HBn.out (Nat.le_refl _))
    have H2_n := Lib.hid (H2.out.below HBn.out (Nat.le_refl _))
    have H3_n := Lib.hid (H3.out.below HBn.out (Nat.le_refl _))
    have HLST_n := Lib.hid (HLST.out.below HBn.out (Nat.le_refl _))
    have HA_n := Lib.hid (HA.out.below HBn.out (Nat.le_refl _))
    have HBZ_n := Lib.hid (HBZ.out.below HBn.out (Nat.le_refl _))
    have HC_n := Lib.hid (HC.out.below HBn.out (Nat.le_refl _))
    have HD_n := Lib.hid (HD.out.below HBn.out (Nat.le_refl _))
    have HX_n := Lib.hid (HX.out.below HBn.out (Nat.le_refl _))
    have HY_n := Lib.hid (HY.out.below HBn.out (Nat.le_refl _))
    have HB_n := Lib.hid (HB.out.trans (HBn.out.mono HB.out.size))
    clear HG H1 H2 H3 HLST HA HBZ HC HD HX HY HB
    have HG := HG_n
    have H1 := H1_n
    have H2 := H2_n
    have H3 := H3_n
    have HLST := HLST_n
    have HA := HA_n
    have HBZ := HBZ_n
    have HC := HC_n
    have HD := HD_n
    have HX := HX_n
    have HY := HY_n
    have HB := HB_n
    clear HG_n H1_n H2_n H3_n HLST_n HA_n HBZ_n HC_n HD_n HX_n HY_n HB_n HBn hb
    have g0 := HG.out.at0.1
    have g1 := HG.out.at0.2
    rw [o1]
    go_wp2_with fail
    clear g0 g1
    refine (HO.out _ _ _ _ _ _ _ _ HG.out (HW1.out _ _ H1.out) (HWn.out _ _ _ HLST.out hLe')).mono ?_
    rintro e w26 ⟨rfl, hb⟩
    have HBn : Hid (Below w25.heap.size w25 w26) := Lib.hid (hb)
    have HG_n := Lib.hid (HG.out.below HBn.out)
    have H1_n := Lib.hid (H1.out.below HBn.out (Nat.le_refl _))
    have H2_n := Lib.hid (H2.out.below HBn.out (Nat.le_refl _))
    have H3_n := Lib.hid (H3.out.below HBn.out (Nat.le_refl _))
    have HLST_n := Lib.hid (HLST.out.below HBn.out (Nat.le_refl _))
    have HA_n := Lib.hid (HA.out.below HBn.out (Nat.le_refl _))
    have HBZ_n := Lib.hid (HBZ.out.below HBn.out (Nat.le_refl _))
    have HC_n := Lib.hid (HC.out.below HBn.out (Nat.le_refl _))
    have HD_n := Lib.hid (HD.out.below HBn.out (Nat.le_refl _))
    have HX_n := Lib.hid (HX.out.below HBn.out (Nat.le_refl _))
    have HY_n := Lib.hid (HY.out.below HBn.out (Nat.le_refl _))
    have HB_n := Lib.hid (HB.out.trans (HBn.out.mono HB.out.size))
    clear HG H1 H2 H3 HLST HA HBZ HC HD HX HY HB
    have HG := HG_n
    have H1 := H1_n
    have H2 := H2_n
    have H3 := H3_n
    have HLST := HLST_n
    have HA := HA_n
    have HBZ := HBZ_n
    have HC := HC_n
    have HD := HD_n
    have HX := HX_n
    have HY := HY_n
    have HB := HB_n
    clear HG_n H1_n H2_n H3_n HLST_n HA_n HBZ_n HC_n HD_n HX_n HY_n HB_n HBn hb
    have g0 := HG.out.at0.1
    have g1 := HG.out.at0.2
    rw [o2]
    go_wp2_with fail
    clear g0 g1
    refine (HO.out _ _ _ _ _ _ _ _ HG.out (HW1.out _ _ H1.out) (HW1.out _ _ H1.out)).mono ?_
    rintro e w27 ⟨rfl, hb⟩
    have HBn : Hid (Below w26.heap.size w26 w27) := Lib.hid (hb)
    have HG_n := Lib.hid (HG.out.below HBn.out)
    have H1_n := Lib.hid (H1.out.below HBn.out (Nat.le_refl _))
    have H2_n := Lib.hid (H2.out.below HBn.out (Nat.le_refl _))
    have H3_n := Lib.hid (H3.out.below HBn.out (Nat.le_refl _))
    have HLST_n := Lib.hid (HLST.out.below HBn.out (Nat.le_refl _))
    have HA_n := Lib.hid (HA.out.below HBn.out (Nat.le_refl _))
    have HBZ_n := Lib.hid (HBZ.out.below HBn.out (Nat.le_refl _))
    have HC_n := Lib.hid (HC.out.below HBn.out (Nat.le_refl _))
    have HD_n := Lib.hid (HD.out.below HBn.out (Nat.le_refl _))
    have HX_n := Lib.hid (HX.out.below HBn.out (Nat.le_refl _))
    have HY_n := Lib.hid (HY.out.below HBn.out (Nat.le_refl _))
    have HB_n := Lib.hid (HB.out.trans (HBn.out.mono HB.out.size))
    clear HG H1 H2 H3 HLST HA HBZ HC HD HX HY HB
    have HG := HG_n
    have H1 := H1_n
    have H2 := H2_n
    have H3 := H3_n
    have HLST := HLST_n
    have HA := HA_n
    have HBZ := HBZ_n
    have HC := HC_n
    have HD := HD_n
    have HX := HX_n
    have HY := HY_n
    have HB := HB_n
    clear HG_n H1_n H2_n H3_n HLST_n HA_n HBZ_n HC_n HD_n HX_n HY_n HB_n HBn hb
    have g0 := HG.out.at0.1
    have g1 := HG.out.at0.2
    rw [o3]
    go_wp2_with fail
    clear g0 g1
    refine (HO.out _ _ _ _ _ _ _ _ HG.out (HWn.out _ _ _ HA.out hbX) (HWn.out _ _ _ HBZ.out hbZ)).mono ?_
    rintro e w28 ⟨rfl, hb⟩
    have HBn : Hid (Below w27.heap.size w27 w28) := Lib.hid (hb)
    have HG_n := Lib.hid (HG.out.below HBn.out)
    have H1_n := Lib.hid (H1.out.below HBn.out (Nat.le_refl _))
    have H2_n := Lib.hid (H2.out.below HBn.out (Nat.le_refl _))
    have H3_n := Lib.hid (H3.out.below HBn.out (Nat.le_refl _))
    have HLST_n := Lib.hid (HLST.out.below HBn.out (Nat.le_refl _))
    have HA_n := Lib.hid (HA.out.below HBn.out (Nat.le_refl _))
    have HBZ_n := Lib.hid (HBZ.out.below HBn.out (Nat.le_refl _))
    have HC_n := Lib.hid (HC.out.below HBn.out (Nat.le_refl _))
    have HD_n := Lib.hid (HD.out.below HBn.out (Nat.le_refl _))
    have HX_n := Lib.hid (HX.out.below HBn.out (Nat.le_refl _))
    have HY_n := Lib.hid (HY.out.below HBn.out (Nat.le_refl _))
    have HB_n := Lib.hid (HB.out.trans (HBn.out.mono HB.out.size))
    clear HG H1 H2 H3 HLST HA HBZ HC HD HX HY HB
    have HG := HG_n
    have H1 := H1_n
    have H2 := H2_n
    have H3 := H3_n
    have HLST := HLST_n
    have HA := HA_n
    have HBZ := HBZ_n
    have HC := HC_n
    have HD := HD_n
    have HX := HX_n
    have HY := HY_n
    have HB := HB_n
    clear HG_n H1_n H2_n H3_n HLST_n HA_n HBZ_n HC_n HD_n HX_n HY_n HB_n HBn hb
    have g0 := HG.out.at0.1
    have g1 := HG.out.at0.2
    rw [o4, his]
    go_wp2_with fail
    clear g0 g1
    refine (HO.out _ _ _ _ _ _ _ _ HG.out (HWn.out _ _ _ HD.out hmZ) (HWn.out _ _ _ HC.out hmX)).mono ?_
    rintro e w29 ⟨rfl, hb⟩
    have HBn : Hid (Below w28.heap.size w28 w29) := Lib.hid (hb)
    have HG_n := Lib.hid (HG.out.below HBn.out)
    have H1_n := Lib.hid (H1.out.below HBn.out (Nat.le_refl _))
    have H2_n := Lib.hid (H2.out.below HBn.out (Nat.le_refl _))
    have H3_n := Lib.hid (H3.out.below HBn.out (Nat.le_refl _))
    have HLST_n := Lib.hid (HLST.out.below HBn.out (Nat.le_refl _))
    have HA_n := Lib.hid (HA.out.below HBn.out (Nat.le_refl _))
    have HBZ_n := Lib.hid (HBZ.out.below HBn.out (Nat.le_refl _))
    have HC_n := Lib.hid (HC.out.below HBn.out (Nat.le_refl _))
    have HD_n := Lib.hid (HD.out.below HBn.out (Nat.le_refl _))
    have HX_n := Lib.hid (HX.out.below HBn.out (Nat.le_refl _))
    have HY_n := Lib.hid (HY.out.below HBn.out (Nat.le_refl _))
    have HB_n := Lib.hid (HB.out.trans (HBn.out.mono HB.out.size))
    clear HG H1 H2 H3 HLST HA HBZ HC HD HX HY HB
    have HG := HG_n
    have H1 := H1_n
    have H2 := H2_n
    have H3 := H3_n
    have HLST := HLST_n
    have HA := HA_n
    have HBZ := HBZ_n
    have HC := HC_n
    have HD := HD_n
    have HX := HX_n
    have HY := HY_n
    have HB := HB_n
    clear HG_n H1_n H2_n H3_n HLST_n HA_n HBZ_n HC_n HD_n HX_n HY_n HB_n HBn hb
    have g0 := HG.out.at0.1
    have g1 := HG.out.at0.2
    rw [o5, his]
    go_wp2_with fail
    clear g0 g1
    refine (HAw.out _).mono ?_
    rintro e w30 ⟨rfl, hb⟩
    have HBn : Hid (Below w29.heap.size w29 w30) := Lib.hid (hb)
    have HG_n := Lib.hid (HG.out.below HBn.out)
    have H1_n := Lib.hid (H1.out.below HBn.out (Nat.le_refl _))
    have H2_n := Lib.hid (H2.out.below HBn.out (Nat.le_refl _))
    have H3_n := Lib.hid (H3.out.below HBn.out (Nat.le_refl _))
    have HLST_n := Lib.hid (HLST.out.below HBn.out (Nat.le_refl _))
    have HA_n := Lib.hid (HA.out.below HBn.out (Nat.le_refl _))
    have HBZ_n := Lib.hid (HBZ.out.below HBn.out (Nat.le_refl _))
    have HC_n := Lib.hid (HC.out.below HBn.out (Nat.le_refl _))
    have HD_n := Lib.hid (HD.out.below HBn.out (Nat.le_refl _))
    have HX_n := Lib.hid (HX.out.below HBn.out (Nat.le_refl _))
    have HY_n := Lib.hid (HY.out.below HBn.out (Nat.le_refl _))
    have HB_n := Lib.hid (HB.out.trans (HBn.out.mono HB.out.size))
    clear HG H1 H2 H3 HLST HA HBZ HC HD HX HY HB
    have HG := HG_n
    have H1 := H1_n
    have H2 := H2_n
    have H3 := H3_n
    have HLST := HLST_n
    have HA := HA_n
    have HBZ := HBZ_n
    have HC := HC_n
    have HD := HD_n
    have HX := HX_n
    have HY := HY_n
    have HB := HB_n
    clear HG_n H1_n H2_n H3_n HLST_n HA_n HBZ_n HC_n HD_n HX_n HY_n HB_n HBn hb
    have g0 := HG.out.at0.1
    have g1 := HG.out.at0.2
    go_wp2_with fail
    go_ret
    exact ⟨rfl, HB.out⟩
  | true =>
    go_wp2_with fail
    clear g0 g1
    refine (HO.out _ _ _ _ _ _ _ _ HG.out (HNil.out _) (HW1.out _ _ H1.out)).mono ?_
    rintro e w25 ⟨rfl, hb⟩
    have HBn : Hid (Below w24.heap.size w24 w25) := Lib.hid (hb)
    have HG_n := Lib.hid (HG.out.below HBn.out)
    have H1_n := Lib.hid (H1.out.below HBn.out (Nat.le_refl _))
    have H2_n := Lib.hid (H2.out.below HBn.out (Nat.le_refl _))
    have H3_n := Lib.hid (H3.out.below HBn.out (Nat.le_refl _))
    have HLST_n := Lib.hid (HLST.out.below HBn.out (Nat.le_refl _))
    have HA_n := Lib.hid (HA.out.below HBn.out (Nat.le_refl _))
    have HBZ_n := Lib.hid (HBZ.out.below HBn.out (Nat.le_refl _))
    have HC_n := Lib.hid (HC.out.below HBn.out (Nat.le_refl _))
    have HD_n := Lib.hid (HD.out.below HBn.out (Nat.le_refl _))
    have HX_n := Lib.hid (HX.out.below HBn.out (Nat.le_refl _))
    have HY_n := Lib.hid (HY.out.below HBn.out (Nat.le_refl _))
    have HB_n := Lib.hid (HB.out.trans (HBn.out.mono HB.out.size))
    clear HG H1 H2 H3 HLST HA HBZ HC HD HX HY HB
    have HG := HG_n
    have H1 := H1_n
    have H2 := H2_n
    have H3 := H3_n
    have HLST := HLST_n
    have HA := HA_n
    have HBZ := HBZ_n
    have HC := HC_n
    have HD := HD_n
    have HX := HX_n
    have HY := HY_n
    have HB := HB_n
    clear HG_n H1_n H2_n H3_n HLST_n HA_n HBZ_n HC_n HD_n HX_n HY_n HB_n HBn hb
    have g0 := HG.out.at0.1
    have g1 := HG.out.at0.2
    rw [o1]
    go_wp2_with fail
    clear g0 g1
    refine (HO.out _ _ _ _ _ _ _ _ HG.out (HW1.out _ _ H1.out) (HWn.out _ _ _ HLST.out hLe')).mono ?_
    rintro e w26 ⟨rfl, hb⟩
    have HBn : Hid (Below w25.heap.size w25 w26) := Lib.hid (hb)
    have HG_n := Lib.hid (HG.out.below HBn.out)
    have H1_n := Lib.hid (H1.out.below HBn.out (Nat.le_refl _))
    have H2_n := Lib.hid (H2.out.below HBn.out (Nat.le_refl _))
    have H3_n := Lib.hid (H3.out.below HBn.out (Nat.le_refl _))
    have HLST_n := Lib.hid (HLST.out.below HBn.out (Nat.le_refl _))
    have HA_n := Lib.hid (HA.out.below HBn.out (Nat.le_refl _))
    have HBZ_n := Lib.hid (HBZ.out.below HBn.out (Nat.le_refl _))
    have HC_n := Lib.hid (HC.out.below HBn.out (Nat.le_refl _))
    have HD_n := Lib.hid (HD.out.below HBn.out (Nat.le_refl _))
    have HX_n := Lib.hid (HX.out.below HBn.out (Nat.le_refl _))
    have HY_n := Lib.hid (HY.out.below HBn.out (Nat.le_refl _))
    have HB_n := Lib.hid (HB.out.trans (HBn.out.mono HB.out.size))
    clear HG H1 H2 H3 HLST HA HBZ HC HD HX HY HB
    have HG := HG_n
    have H1 := H1_n
    have H2 := H2_n
    have H3 := H3_n
    have HLST := HLST_n
    have HA := HA_n
    have HBZ := HBZ_n
    have HC := HC_n
    have HD := HD_n
    have HX := HX_n
    have HY := HY_n
    have HB := HB_n
    clear HG_n H1_n H2_n H3_n HLST_n HA_n HBZ_n HC_n HD_n HX_n HY_n HB_n HBn hb
    have g0 := HG.out.at0.1
    have g1 := HG.out.at0.2
    rw [o2]
    go_wp2_with fail
    clear g0 g1
    refine (HO.out _ _ _ _ _ _ _ _ HG.out (HW1.out _ _ H1.out) (HW1.out _ _ H1.out)).mono ?_
    rintro e w27 ⟨rfl, hb⟩
    have HBn : Hid (Below w26.heap.size w26 w27) := Lib.hid (hb)
    have HG_n := Lib.hid (HG.out.below HBn.out)
    have H1_n := Lib.hid (H1.out.below HBn.out (Nat.le_refl _))
    have H2_n := Lib.hid (H2.out.below HBn.out (Nat.le_refl _))
    have H3_n := Lib.hid (H3.out.below HBn.out (Nat.le_refl _))
    have HLST_n := Lib.hid (HLST.out.below HBn.out (Nat.le_refl _))
    have HA_n := Lib.hid (HA.out.below HBn.out (Nat.le_refl _))
    have HBZ_n := Lib.hid (HBZ.out.below HBn.out (Nat.le_refl _))
    have HC_n := Lib.hid (HC.out.below HBn.out (Nat.le_refl _))
    have HD_n := Lib.hid (HD.out.below HBn.out (Nat.le_refl _))
    have HX_n := Lib.hid (HX.out.below HBn.out (Nat.le_refl _))
    have HY_n := Lib.hid (HY.out.below HBn.out (Nat.le_refl _))
    have HB_n := Lib.hid (HB.out.trans (HBn.out.mono HB.out.size))
    clear HG H1 H2 H3 HLST HA HBZ HC HD HX HY HB
    have HG := HG_n
    have H1 := H1_n
    have H2 := H2_n
    have H3 := H3_n
    have HLST := HLST_n
    have HA := HA_n
    have HBZ := HBZ_n
    have HC := HC_n
    have HD := HD_n
    have HX := HX_n
    have HY := HY_n
    have HB := HB_n
    clear HG_n H1_n H2_n H3_n HLST_n HA_n HBZ_n HC_n HD_n HX_n HY_n HB_n HBn hb
    have g0 := HG.out.at0.1
    have g1 := HG.out.at0.2
    rw [o3]
    go_wp2_with fail
    clear g0 g1
    refine (HO.out _ _ _ _ _ _ _ _ HG.out (HWn.out _ _ _ HA.out hbX) (HWn.out _ _ _ HBZ.out hbZ)).mono ?_
    rintro e w28 ⟨rfl, hb⟩
    have HBn : Hid (Below w27.heap.size w27 w28) := Lib.hid (hb)
    have HG_n := Lib.hid (HG.out.below HBn.out)
    have H1_n := Lib.hid (H1.out.below HBn.out (Nat.le_refl _))
    have H2_n := Lib.hid (H2.out.below HBn.out (Nat.le_refl _))
    have H3_n := Lib.hid (H3.out.below HBn.out (Nat.le_refl _))
    have HLST_n := Lib.hid (HLST.out.below HBn.out (Nat.le_refl _))
    have HA_n := Lib.hid (HA.out.below HBn.out (Nat.le_refl _))
    have HBZ_n := Lib.hid (HBZ.out.below HBn.out (Nat.le_refl _))
    have HC_n := Lib.hid (HC.out.below HBn.out (Nat.le_refl _))
    have HD_n := Lib.hid (HD.out.below HBn.out (Nat.le_refl _))
    have HX_n := Lib.hid (HX.out.below HBn.out (Nat.le_refl _))
    have HY_n := Lib.hid (HY.out.below HBn.out (Nat.le_refl _))
    have HB_n := Lib.hid (HB.out.trans (HBn.out.mono HB.out.size))
    clear HG H1 H2 H3 HLST HA HBZ HC HD HX HY HB
    have HG := HG_n
    have H1 := H1_n
    have H2 := H2_n
    have H3 := H3_n
    have HLST := HLST_n
    have HA := HA_n
    have HBZ := HBZ_n
    have HC := HC_n
    have HD := HD_n
    have HX := HX_n
    have HY := HY_n
    have HB := HB_n
    clear HG_n H1_n H2_n H3_n HLST_n HA_n HBZ_n HC_n HD_n HX_n HY_n HB_n HBn hb
    have g0 := HG.out.at0.1
    have g1 := HG.out.at0.2
    rw [o4, his]
    go_wp2_with fail
    clear g0 g1
    refine (HO.out _ _ _ _ _ _ _ _ HG.out (HWn.out _ _ _ HD.out hmZ) (HWn.out _ _ _ HC.out hmX)).mono ?_
    rintro e w29 ⟨rfl, hb⟩
    have HBn : Hid (Below w28.heap.size w28 w29) := Lib.hid (hb)
    have HG_n := Lib.hid (HG.out.below HBn.out)
    have H1_n := Lib.hid (H1.out.below HBn.out (Nat.le_refl _))
    have H2_n := Lib.hid (H2.out.below HBn.out (Nat.le_refl _))
    have H3_n := Lib.hid (H3.out.below HBn.out (Nat.le_refl _))
    have HLST_n := Lib.hid (HLST.out.below HBn.out (Nat.le_refl _))
    have HA_n := Lib.hid (HA.out.below HBn.out (Nat.le_refl _))
    have HBZ_n := Lib.hid (HBZ.out.below HBn.out (Nat.le_refl _))
    have HC_n := Lib.hid (HC.out.below HBn.out (Nat.le_refl _))
    have HD_n := Lib.hid (HD.out.below HBn.out (Nat.le_refl _))
    have HX_n := Lib.hid (HX.out.below HBn.out (Nat.le_refl _))
    have HY_n := Lib.hid (HY.out.below HBn.out (Nat.le_refl _))
    have HB_n := Lib.hid (HB.out.trans (HBn.out.mono HB.out.size))
    clear HG H1 H2 H3 HLST HA HBZ HC HD HX HY HB
    have HG := HG_n
    have H1 := H1_n
    have H2 := H2_n
    have H3 := H3_n
    have HLST := HLST_n
    have HA := HA_n
    have HBZ := HBZ_n
    have HC := HC_n
    have HD := HD_n
    have HX := HX_n
    have HY := HY_n
    have HB := HB_n
    clear HG_n H1_n H2_n H3_n HLST_n HA_n HBZ_n HC_n HD_n HX_n HY_n HB_n HBn hb
    have g0 := HG.out.at0.1
    have g1 := HG.out.at0.2
    rw [o5, his]
    go_wp2_with fail
    clear g0 g1
    refine (HO.out _ _ _ _ _ _ _ _ HG.out (HW2.out _ _ H2.out) (HW1.out _ _ H1.out)).mono ?_
    rintro e w30 ⟨rfl, hb⟩
    have HBn : Hid (Below w29.heap.size w29 w30) := Lib.hid (hb)
    have HG_n := Lib.hid (HG.out.below HBn.out)
    have H1_n := Lib.hid (H1.out.below HBn.out (Nat.le_refl _))
    have H2_n := Lib.hid (H2.out.below HBn.out (Nat.le_refl _))
    have H3_n := Lib.hid (H3.out.below HBn.out (Nat.le_refl _))
    have HLST_n := Lib.hid (HLST.out.below HBn.out (Nat.le_refl _))
    have HA_n := Lib.hid (HA.out.below HBn.out (Nat.le_refl _))
    have HBZ_n := Lib.hid (HBZ.out.below HBn.out (Nat.le_refl _))
    have HC_n := Lib.hid (HC.out.below HBn.out (Nat.le_refl _))
    have HD_n := Lib.hid (HD.out.below HBn.out (Nat.le_refl _))
    have HX_n := Lib.hid (HX.out.below HBn.out (Nat.le_refl _))
    have HY_n := Lib.hid (HY.out.below HBn.out (Nat.le_refl _))
    have HB_n := Lib.hid (HB.out.trans (HBn.out.mono HB.out.size))
    clear HG H1 H2 H3 HLST HA HBZ HC HD HX HY HB
    have HG := HG_n
    have H1 := H1_n
    have H2 := H2_n
    have H3 := H3_n
    have HLST := HLST_n
    have HA := HA_n
    have HBZ := HBZ_n
    have HC := HC_n
    have HD := HD_n
    have HX := HX_n
    have HY := HY_n
    have HB := HB_n
    clear HG_n H1_n H2_n H3_n HLST_n HA_n HBZ_n HC_n HD_n HX_n HY_n HB_n HBn hb
    have g0 := HG.out.at0.1
    have g1 := HG.out.at0.2
    cases hvx : loB g V X with
    | false =>
      go_wp2_with fail
      clear g0 g1
      refine (HO.out _ _ _ _ _ _ _ _ HG.out (HW3.out _ _ H3.out) (HW1.out _ _ H1.out)).mono ?_
      rintro e w31 ⟨rfl, hb⟩
      have HBn : Hid (Below w30.heap.size w30 w31) := Lib.hid (hb)
      have HG_n := Lib.hid (HG.out.below HBn.out)
      have H1_n := Lib.hid (H1.out.below HBn.out (Nat.le_refl _))
      have H2_n := Lib.hid (H2.out.below HBn.out (Nat.le_refl _))
      have H3_n := Lib.hid (H3.out.below HBn.out (Nat.le_refl _))
      have HLST_n := Lib.hid (HLST.out.below HBn.out (Nat.le_refl _))
      have HA_n := Lib.hid (HA.out.below HBn.out (Nat.le_refl _))
      have HBZ_n := Lib.hid (HBZ.out.below HBn.out (Nat.le_refl _))
      have HC_n := Lib.hid (HC.out.below HBn.out (Nat.le_refl _))
      have HD_n := Lib.hid (HD.out.below HBn.out (Nat.le_refl _))
      have HX_n := Lib.hid (HX.out.below HBn.out (Nat.le_refl _))
      have HY_n := Lib.hid (HY.out.below HBn.out (Nat.le_refl _))
      have HB_n := Lib.hid (HB.out.trans (HBn.out.mono HB.out.size))
      clear HG H1 H2 H3 HLST HA HBZ HC HD HX HY HB
      have HG := HG_n
      have H1 := H1_n
      have H2 := H2_n
      have H3 := H3_n
      have HLST := HLST_n
      have HA := HA_n
      have HBZ := HBZ_n
      have HC := HC_n
      have HD := HD_n
      have HX := HX_n
      have HY := HY_n
      have HB := HB_n
      clear HG_n H1_n H2_n H3_n HLST_n HA_n HBZ_n HC_n HD_n HX_n HY_n HB_n HBn hb
      have g0 := HG.out.at0.1
      have g1 := HG.out.at0.2
      cases hzx : loB g Z X with
      | false =>
          rcases (OT.out his).2 with hlt | heq
          · have hlt2 : ((ln g X : Nat) : Int) < (ln g Z : Nat) := by omega
            go_wp2_with fail
            clear g0 g1
            refine (HAw.out _).mono ?_
            rintro e w32 ⟨rfl, hb⟩
            have HBn : Hid (Below w31.heap.size w31 w32) := Lib.hid (hb)
            have HG_n := Lib.hid (HG.out.below HBn.out)
            have H1_n := Lib.hid (H1.out.below HBn.out (Nat.le_refl _))
            have H2_n := Lib.hid (H2.out.below HBn.out (Nat.le_refl _))
            have H3_n := Lib.hid (H3.out.below HBn.out (Nat.le_refl _))
            have HLST_n := Lib.hid (HLST.out.below HBn.out (Nat.le_refl _))
            have HA_n := Lib.hid (HA.out.below HBn.out (Nat.le_refl _))
            have HBZ_n := Lib.hid (HBZ.out.below HBn.out (Nat.le_refl _))
            have HC_n := Lib.hid (HC.out.below HBn.out (Nat.le_refl _))
            have HD_n := Lib.hid (HD.out.below HBn.out (Nat.le_refl _))
            have HX_n := Lib.hid (HX.out.below HBn.out (Nat.le_refl _))
            have HY_n := Lib.hid (HY.out.below HBn.out (Nat.le_refl _))
            have HB_n := Lib.hid (HB.out.trans (HBn.out.mono HB.out.size))
            clear HG H1 H2 H3 HLST HA HBZ HC HD HX HY HB
            have HG := HG_n
            have H1 := H1_n
            have H2 := H2_n
            have H3 := H3_n
            have HLST := HLST_n
            have HA := HA_n
            have HBZ := HBZ_n
            have HC := HC_n
            have HD := HD_n
            have HX := HX_n
            have HY := HY_n
            have HB := HB_n
            clear HG_n H1_n H2_n H3_n HLST_n HA_n HBZ_n HC_n HD_n HX_n HY_n HB_n HBn hb
            have g0 := HG.out.at0.1
            have g1 := HG.out.at0.2
            go_wp2_with fail
            go_ret
            exact ⟨rfl, HB.out⟩
          · subst heq
            go_wp2_with fail
            clear g0 g1
            refine (HEq.out _ _ _ X X hX hX HX.out HY.out).mono ?_
            rintro e w32 ⟨rfl, hb⟩
            have HBn : Hid (Below w31.heap.size w31 w32) := Lib.hid (hb)
            have HG_n := Lib.hid (HG.out.below HBn.out)
            have H1_n := Lib.hid (H1.out.below HBn.out (Nat.le_refl _))
            have H2_n := Lib.hid (H2.out.below HBn.out (Nat.le_refl _))
            have H3_n := Lib.hid (H3.out.below HBn.out (Nat.le_refl _))
            have HLST_n := Lib.hid (HLST.out.below HBn.out (Nat.le_refl _))
            have HA_n := Lib.hid (HA.out.below HBn.out (Nat.le_refl _))
            have HBZ_n := Lib.hid (HBZ.out.below HBn.out (Nat.le_refl _))
            have HC_n := Lib.hid (HC.out.below HBn.out (Nat.le_refl _))
            have HD_n := Lib.hid (HD.out.below HBn.out (Nat.le_refl _))
            have HX_n := Lib.hid (HX.out.below HBn.out (Nat.le_refl _))
            have HY_n := Lib.hid (HY.out.below HBn.out (Nat.le_refl _))
            have HB_n := Lib.hid (HB.out.trans (HBn.out.mono HB.out.size))
            clear HG H1 H2 H3 HLST HA HBZ HC HD HX HY HB
            have HG := HG_n
            have H1 := H1_n
            have H2 := H2_n
            have H3 := H3_n
            have HLST := HLST_n
            have HA := HA_n
            have HBZ := HBZ_n
            have HC := HC_n
            have HD := HD_n
            have HX := HX_n
            have HY := HY_n
            have HB := HB_n
            clear HG_n H1_n H2_n H3_n HLST_n HA_n HBZ_n HC_n HD_n HX_n HY_n HB_n HBn hb
            have g0 := HG.out.at0.1
            have g1 := HG.out.at0.2
            rw [decide_eq_true (rfl : X = X)]
            go_wp2_with fail
            clear g0 g1
            refine (HAw.out _).mono ?_
            rintro e w33 ⟨rfl, hb⟩
            have HBn : Hid (Below w32.heap.size w32 w33) := Lib.hid (hb)
            have HG_n := Lib.hid (HG.out.below HBn.out)
            have H1_n := Lib.hid (H1.out.below HBn.out (Nat.le_refl _))
            have H2_n := Lib.hid (H2.out.below HBn.out (Nat.le_refl _))
            have H3_n := Lib.hid (H3.out.below HBn.out (Nat.le_refl _))
            have HLST_n := Lib.hid (HLST.out.below HBn.out (Nat.le_refl _))
            have HA_n := Lib.hid (HA.out.below HBn.out (Nat.le_refl _))
            have HBZ_n := Lib.hid (HBZ.out.below HBn.out (Nat.le_refl _))
            have HC_n := Lib.hid (HC.out.below HBn.out (Nat.le_refl _))
            have HD_n := Lib.hid (HD.out.below HBn.out (Nat.le_refl _))
            have HX_n := Lib.hid (HX.out.below HBn.out (Nat.le_refl _))
            have HY_n := Lib.hid (HY.out.below HBn.out (Nat.le_refl _))
            have HB_n := Lib.hid (HB.out.trans (HBn.out.mono HB.out.size))
            clear HG H1 H2 H3 HLST HA HBZ HC HD HX HY HB
            have HG := HG_n
            have H1 := H1_n
            have H2 := H2_n
            have H3 := H3_n
            have HLST := HLST_n
            have HA := HA_n
            have HBZ := HBZ_n
            have HC := HC_n
            have HD := HD_n
            have HX := HX_n
            have HY := HY_n
            have HB := HB_n
            clear HG_n H1_n H2_n H3_n HLST_n HA_n HBZ_n HC_n HD_n HX_n HY_n HB_n HBn hb
            have g0 := HG.out.at0.1
            have g1 := HG.out.at0.2
            go_wp2_with fail
            go_ret
            exact ⟨rfl, HB.out⟩
      | true =>
          have heq := OA.out his hzx
          subst heq
          go_wp2_with fail
          clear g0 g1
          refine (HEq.out _ _ _ X X hX hX HX.out HY.out).mono ?_
          rintro e w32 ⟨rfl, hb⟩
          have HBn : Hid (Below w31.heap.size w31 w32) := Lib.hid (hb)
          have HG_n := Lib.hid (HG.out.below HBn.out)
          have H1_n := Lib.hid (H1.out.below HBn.out (Nat.le_refl _))
          have H2_n := Lib.hid (H2.out.below HBn.out (Nat.le_refl _))
          have H3_n := Lib.hid (H3.out.below HBn.out (Nat.le_refl _))
          have HLST_n := Lib.hid (HLST.out.below HBn.out (Nat.le_refl _))
          have HA_n := Lib.hid (HA.out.below HBn.out (Nat.le_refl _))
          have HBZ_n := Lib.hid (HBZ.out.below HBn.out (Nat.le_refl _))
          have HC_n := Lib.hid (HC.out.below HBn.out (Nat.le_refl _))
          have HD_n := Lib.hid (HD.out.below HBn.out (Nat.le_refl _))
          have HX_n := Lib.hid (HX.out.below HBn.out (Nat.le_refl _))
          have HY_n := Lib.hid (HY.out.below HBn.out (Nat.le_refl _))
          have HB_n := Lib.hid (HB.out.trans (HBn.out.mono HB.out.size))
          clear HG H1 H2 H3 HLST HA HBZ HC HD HX HY HB
          have HG := HG_n
          have H1 := H1_n
          have H2 := H2_n
          have H3 := H3_n
          have HLST := HLST_n
          have HA := HA_n
          have HBZ := HBZ_n
          have HC := HC_n
          have HD := HD_n
          have HX := HX_n
          have HY := HY_n
          have HB := HB_n
          clear HG_n H1_n H2_n H3_n HLST_n HA_n HBZ_n HC_n HD_n HX_n HY_n HB_n HBn hb
          have g0 := HG.out.at0.1
          have g1 := HG.out.at0.2
          rw [decide_eq_true (rfl : X = X)]
          go_wp2_with fail
          clear g0 g1
          refine (HEq.out _ _ _ X X hX hX HX.out HY.out).mono ?_
          rintro e w33 ⟨rfl, hb⟩
          have HBn : Hid (Below w32.heap.size w32 w33) := Lib.hid (hb)
          have HG_n := Lib.hid (HG.out.below HBn.out)
          have H1_n := Lib.hid (H1.out.below HBn.out (Nat.le_refl _))
          have H2_n := Lib.hid (H2.out.below HBn.out (Nat.le_refl _))
          have H3_n := Lib.hid (H3.out.below HBn.out (Nat.le_refl _))
          have HLST_n := Lib.hid (HLST.out.below HBn.out (Nat.le_refl _))
          have HA_n := Lib.hid (HA.out.below HBn.out (Nat.le_refl _))
          have HBZ_n := Lib.hid (HBZ.out.below HBn.out (Nat.le_refl _))
          have HC_n := Lib.hid (HC.out.below HBn.out (Nat.le_refl _))
          have HD_n := Lib.hid (HD.out.below HBn.out (Nat.le_refl _))
          have HX_n := Lib.hid (HX.out.below HBn.out (Nat.le_refl _))
          have HY_n := Lib.hid (HY.out.below HBn.out (Nat.le_refl _))
          have HB_n := Lib.hid (HB.out.trans (HBn.out.mono HB.out.size))
          clear HG H1 H2 H3 HLST HA HBZ HC HD HX HY HB
          have HG := HG_n
          have H1 := H1_n
          have H2 := H2_n
          have H3 := H3_n
          have HLST := HLST_n
          have HA := HA_n
          have HBZ := HBZ_n
          have HC := HC_n
          have HD := HD_n
          have HX := HX_n
          have HY := HY_n
          have HB := HB_n
          clear HG_n H1_n H2_n H3_n HLST_n HA_n HBZ_n HC_n HD_n HX_n HY_n HB_n HBn hb
          have g0 := HG.out.at0.1
          have g1 := HG.out.at0.2
          rw [decide_eq_true (rfl : X = X)]
          go_wp2_with fail
          clear g0 g1
          refine (HAw.out _).mono ?_
          rintro e w34 ⟨rfl, hb⟩
          have HBn : Hid (Below w33.heap.size w33 w34) := Lib.hid (hb)
          have HG_n := Lib.hid (HG.out.below HBn.out)
          have H1_n := Lib.hid (H1.out.below HBn.out (Nat.le_refl _))
          have H2_n := Lib.hid (H2.out.below HBn.out (Nat.le_refl _))
          have H3_n := Lib.hid (H3.out.below HBn.out (Nat.le_refl _))
          have HLST_n := Lib.hid (HLST.out.below HBn.out (Nat.le_refl _))
          have HA_n := Lib.hid (HA.out.below HBn.out (Nat.le_refl _))
          have HBZ_n := Lib.hid (HBZ.out.below HBn.out (Nat.le_refl _))
          have HC_n := Lib.hid (HC.out.below HBn.out (Nat.le_refl _))
          have HD_n := Lib.hid (HD.out.below HBn.out (Nat.le_refl _))
          have HX_n := Lib.hid (HX.out.below HBn.out (Nat.le_refl _))
          have HY_n := Lib.hid (HY.out.below HBn.out (Nat.le_refl _))
          have HB_n := Lib.hid (HB.out.trans (HBn.out.mono HB.out.size))
          clear HG H1 H2 H3 HLST HA HBZ HC HD HX HY HB
          have HG := HG_n
          have H1 := H1_n
          have H2 := H2_n
          have H3 := H3_n
          have HLST := HLST_n
          have HA := HA_n
          have HBZ := HBZ_n
          have HC := HC_n
          have HD := HD_n
          have HX := HX_n
          have HY := HY_n
          have HB := HB_n
          clear HG_n H1_n H2_n H3_n HLST_n HA_n HBZ_n HC_n HD_n HX_n HY_n HB_n HBn hb
          have g0 := HG.out.at0.1
          have g1 := HG.out.at0.2
          go_wp2_with fail
          go_ret
          exact ⟨rfl, HB.out⟩
    | true =>
      have hvz := (OT.out his).1 V hV hvx
      go_wp2_with fail
      clear g0 g1
      refine (HO.out _ _ _ _ _ _ _ _ HG.out (HW2.out _ _ H2.out) (HW3.out _ _ H3.out)).mono ?_
      rintro e w31 ⟨rfl, hb⟩
      have HBn : Hid (Below w30.heap.size w30 w31) := Lib.hid (hb)
      have HG_n := Lib.hid (HG.out.below HBn.out)
      have H1_n := Lib.hid (H1.out.below HBn.out (Nat.le_refl _))
      have H2_n := Lib.hid (H2.out.below HBn.out (Nat.le_refl _))
      have H3_n := Lib.hid (H3.out.below HBn.out (Nat.le_refl _))
      have HLST_n := Lib.hid (HLST.out.below HBn.out (Nat.le_refl _))
      have HA_n := Lib.hid (HA.out.below HBn.out (Nat.le_refl _))
      have HBZ_n := Lib.hid (HBZ.out.below HBn.out (Nat.le_refl _))
      have HC_n := Lib.hid (HC.out.below HBn.out (Nat.le_refl _))
      have HD_n := Lib.hid (HD.out.below HBn.out (Nat.le_refl _))
      have HX_n := Lib.hid (HX.out.below HBn.out (Nat.le_refl _))
      have HY_n := Lib.hid (HY.out.below HBn.out (Nat.le_refl _))
      have HB_n := Lib.hid (HB.out.trans (HBn.out.mono HB.out.size))
      clear HG H1 H2 H3 HLST HA HBZ HC HD HX HY HB
      have HG := HG_n
      have H1 := H1_n
      have H2 := H2_n
      have H3 := H3_n
      have HLST := HLST_n
      have HA := HA_n
      have HBZ := HBZ_n
      have HC := HC_n
      have HD := HD_n
      have HX := HX_n
      have HY := HY_n
      have HB := HB_n
      clear HG_n H1_n H2_n H3_n HLST_n HA_n HBZ_n HC_n HD_n HX_n HY_n HB_n HBn hb
      have g0 := HG.out.at0.1
      have g1 := HG.out.at0.2
      rw [hvz]
      go_wp2_with fail
      clear g0 g1
      refine (HO.out _ _ _ _ _ _ _ _ HG.out (HW3.out _ _ H3.out) (HW1.out _ _ H1.out)).mono ?_
      rintro e w32 ⟨rfl, hb⟩
      have HBn : Hid (Below w31.heap.size w31 w32) := Lib.hid (hb)
      have HG_n := Lib.hid (HG.out.below HBn.out)
      have H1_n := Lib.hid (H1.out.below HBn.out (Nat.le_refl _))
      have H2_n := Lib.hid (H2.out.below HBn.out (Nat.le_refl _))
      have H3_n := Lib.hid (H3.out.below HBn.out (Nat.le_refl _))
      have HLST_n := Lib.hid (HLST.out.below HBn.out (Nat.le_refl _))
      have HA_n := Lib.hid (HA.out.below HBn.out (Nat.le_refl _))
      have HBZ_n := Lib.hid (HBZ.out.below HBn.out (Nat.le_refl _))
      have HC_n := Lib.hid (HC.out.below HBn.out (Nat.le_refl _))
      have HD_n := Lib.hid (HD.out.below HBn.out (Nat.le_refl _))
      have HX_n := Lib.hid (HX.out.below HBn.out (Nat.le_refl _))
      have HY_n := Lib.hid (HY.out.below HBn.out (Nat.le_refl _))
      have HB_n := Lib.hid (HB.out.trans (HBn.out.mono HB.out.size))
      clear HG H1 H2 H3 HLST HA HBZ HC HD HX HY HB
      have HG := HG_n
      have H1 := H1_n
      have H2 := H2_n
      have H3 := H3_n
      have HLST := HLST_n
      have HA := HA_n
      have HBZ := HBZ_n
      have HC := HC_n
      have HD := HD_n
      have HX := HX_n
      have HY := HY_n
      have HB := HB_n
      clear HG_n H1_n H2_n H3_n HLST_n HA_n HBZ_n HC_n HD_n HX_n HY_n HB_n HBn hb
      have g0 := HG.out.at0.1
      have g1 := HG.out.at0.2
      cases hzx : loB g Z X with
      | false =>
          rcases (OT.out his).2 with hlt | heq
          · have hlt2 : ((ln g X : Nat) : Int) < (ln g Z : Nat) := by omega
            go_wp2_with fail
            clear g0 g1
            refine (HAw.out _).mono ?_
            rintro e w33 ⟨rfl, hb⟩
            have HBn : Hid (Below w32.heap.size w32 w33) := Lib.hid (hb)
            have HG_n := Lib.hid (HG.out.below HBn.out)
            have H1_n := Lib.hid (H1.out.below HBn.out (Nat.le_refl _))
            have H2_n := Lib.hid (H2.out.below HBn.out (Nat.le_refl _))
            have H3_n := Lib.hid (H3.out.below HBn.out (Nat.le_refl _))
            have HLST_n := Lib.hid (HLST.out.below HBn.out (Nat.le_refl _))
            have HA_n := Lib.hid (HA.out.below HBn.out (Nat.le_refl _))
            have HBZ_n := Lib.hid (HBZ.out.below HBn.out (Nat.le_refl _))
            have HC_n := Lib.hid (HC.out.below HBn.out (Nat.le_refl _))
            have HD_n := Lib.hid (HD.out.below HBn.out (Nat.le_refl _))
            have HX_n := Lib.hid (HX.out.below HBn.out (Nat.le_refl _))
            have HY_n := Lib.hid (HY.out.below HBn.out (Nat.le_refl _))
            have HB_n := Lib.hid (HB.out.trans (HBn.out.mono HB.out.size))
            clear HG H1 H2 H3 HLST HA HBZ HC HD HX HY HB
            have HG := HG_n
            have H1 := H1_n
            have H2 := H2_n
            have H3 := H3_n
            have HLST := HLST_n
            have HA := HA_n
            have HBZ := HBZ_n
            have HC := HC_n
            have HD := HD_n
            have HX := HX_n
            have HY := HY_n
            have HB := HB_n
            clear HG_n H1_n H2_n H3_n HLST_n HA_n HBZ_n HC_n HD_n HX_n HY_n HB_n HBn hb
            have g0 := HG.out.at0.1
            have g1 := HG.out.at0.2
            go_wp2_with fail
            go_ret
            exact ⟨rfl, HB.out⟩
          · subst heq
            go_wp2_with fail
            clear g0 g1
            refine (HEq.out _ _ _ X X hX hX HX.out HY.out).mono ?_
            rintro e w33 ⟨rfl, hb⟩
            have HBn : Hid (Below w32.heap.size w32 w33) := Lib.hid (hb)
            have HG_n := Lib.hid (HG.out.below HBn.out)
            have H1_n := Lib.hid (H1.out.below HBn.out (Nat.le_refl _))
            have H2_n := Lib.hid (H2.out.below HBn.out (Nat.le_refl _))
            have H3_n := Lib.hid (H3.out.below HBn.out (Nat.le_refl _))
            have HLST_n := Lib.hid (HLST.out.below HBn.out (Nat.le_refl _))
            have HA_n := Lib.hid (HA.out.below HBn.out (Nat.le_refl _))
            have HBZ_n := Lib.hid (HBZ.out.below HBn.out (Nat.le_refl _))
            have HC_n := Lib.hid (HC.out.below HBn.out (Nat.le_refl _))
            have HD_n := Lib.hid (HD.out.below HBn.out (Nat.le_refl _))
            have HX_n := Lib.hid (HX.out.below HBn.out (Nat.le_refl _))
            have HY_n := Lib.hid (HY.out.below HBn.out (Nat.le_refl _))
            have HB_n := Lib.hid (HB.out.trans (HBn.out.mono HB.out.size))
            clear HG H1 H2 H3 HLST HA HBZ HC HD HX HY HB
            have HG := HG_n
            have H1 := H1_n
            have H2 := H2_n
            have H3 := H3_n
            have HLST := HLST_n
            have HA := HA_n
            have HBZ := HBZ_n
            have HC := HC_n
            have HD := HD_n
            have HX := HX_n
            have HY := HY_n
            have HB := HB_n
            clear HG_n H1_n H2_n H3_n HLST_n HA_n HBZ_n HC_n HD_n HX_n HY_n HB_n HBn hb
            have g0 := HG.out.at0.1
            have g1 := HG.out.at0.2
            rw [decide_eq_true (rfl : X = X)]
            go_wp2_with fail
            clear g0 g1
            refine (HAw.out _).mono ?_
            rintro e w34 ⟨rfl, hb⟩
            have HBn : Hid (Below w33.heap.size w33 w34) := Lib.hid (hb)
            have HG_n := Lib.hid (HG.out.below HBn.out)
            have H1_n := Lib.hid (H1.out.below HBn.out (Nat.le_refl _))
            have H2_n := Lib.hid (H2.out.below HBn.out (Nat.le_refl _))
            have H3_n := Lib.hid (H3.out.below HBn.out (Nat.le_refl _))
            have HLST_n := Lib.hid (HLST.out.below HBn.out (Nat.le_refl _))
            have HA_n := Lib.hid (HA.out.below HBn.out (Nat.le_refl _))
            have HBZ_n := Lib.hid (HBZ.out.below HBn.out (Nat.le_refl _))
            have HC_n := Lib.hid (HC.out.below HBn.out (Nat.le_refl _))
            have HD_n := Lib.hid (HD.out.below HBn.out (Nat.le_refl _))
            have HX_n := Lib.hid (HX.out.below HBn.out (Nat.le_refl _))
            have HY_n := Lib.hid (HY.out.below HBn.out (Nat.le_refl _))
            have HB_n := Lib.hid (HB.out.trans (HBn.out.mono HB.out.size))
            clear HG H1 H2 H3 HLST HA HBZ HC HD HX HY HB
            have HG := HG_n
            have H1 := H1_n
            have H2 := H2_n
            have H3 := H3_n
            have HLST := HLST_n
            have HA := HA_n
            have HBZ := HBZ_n
            have HC := HC_n
            have HD := HD_n
            have HX := HX_n
            have HY := HY_n
            have HB := HB_n
            clear HG_n H1_n H2_n H3_n HLST_n HA_n HBZ_n HC_n HD_n HX_n HY_n HB_n HBn hb
            have g0 := HG.out.at0.1
            have g1 := HG.out.at0.2
            go_wp2_with fail
            go_ret
            exact ⟨rfl, HB.out⟩
      | true =>
          have heq := OA.out his hzx
          subst heq
          go_wp2_with fail
          clear g0 g1
          refine (HEq.out _ _ _ X X hX hX HX.out HY.out).mono ?_
          rintro e w33 ⟨rfl, hb⟩
          have HBn : Hid (Below w32.heap.size w32 w33) := Lib.hid (hb)
          have HG_n := Lib.hid (HG.out.below HBn.out)
          have H1_n := Lib.hid (H1.out.below HBn.out (Nat.le_refl _))
          have H2_n := Lib.hid (H2.out.below HBn.out (Nat.le_refl _))
          have H3_n := Lib.hid (H3.out.below HBn.out (Nat.le_refl _))
          have HLST_n := Lib.hid (HLST.out.below HBn.out (Nat.le_refl _))
          have HA_n := Lib.hid (HA.out.below HBn.out (Nat.le_refl _))
          have HBZ_n := Lib.hid (HBZ.out.below HBn.out (Nat.le_refl _))
          have HC_n := Lib.hid (HC.out.below HBn.out (Nat.le_refl _))
          have HD_n := Lib.hid (HD.out.below HBn.out (Nat.le_refl _))
          have HX_n := Lib.hid (HX.out.below HBn.out (Nat.le_refl _))
          have HY_n := Lib.hid (HY.out.below HBn.out (Nat.le_refl _))
          have HB_n := Lib.hid (HB.out.trans (HBn.out.mono HB.out.size))
          clear HG H1 H2 H3 HLST HA HBZ HC HD HX HY HB
          have HG := HG_n
          have H1 := H1_n
          have H2 := H2_n
          have H3 := H3_n
          have HLST := HLST_n
          have HA := HA_n
          have HBZ := HBZ_n
          have HC := HC_n
          have HD := HD_n
          have HX := HX_n
          have HY := HY_n
          have HB := HB_n
          clear HG_n H1_n H2_n H3_n HLST_n HA_n HBZ_n HC_n HD_n HX_n HY_n HB_n HBn hb
          have g0 := HG.out.at0.1
          have g1 := HG.out.at0.2
          rw [decide_eq_true (rfl : X = X)]
          go_wp2_with fail
          clear g0 g1
          refine (HEq.out _ _ _ X X hX hX HX.out HY.out).mono ?_
          rintro e w34 ⟨rfl, hb⟩
          have HBn : Hid (Below w33.heap.size w33 w34) := Lib.hid (hb)
          have HG_n := Lib.hid (HG.out.below HBn.out)
          have H1_n := Lib.hid (H1.out.below HBn.out (Nat.le_refl _))
          have H2_n := Lib.hid (H2.out.below HBn.out (Nat.le_refl _))
          have H3_n := Lib.hid (H3.out.below HBn.out (Nat.le_refl _))
          have HLST_n := Lib.hid (HLST.out.below HBn.out (Nat.le_refl _))
          have HA_n := Lib.hid (HA.out.below HBn.out (Nat.le_refl _))
          have HBZ_n := Lib.hid (HBZ.out.below HBn.out (Nat.le_refl _))
          have HC_n := Lib.hid (HC.out.below HBn.out (Nat.le_refl _))
          have HD_n := Lib.hid (HD.out.below HBn.out (Nat.le_refl _))
          have HX_n := Lib.hid (HX.out.below HBn.out (Nat.le_refl _))
          have HY_n := Lib.hid (HY.out.below HBn.out (Nat.le_refl _))
          have HB_n := Lib.hid (HB.out.trans (HBn.out.mono HB.out.size))
          clear HG H1 H2 H3 HLST HA HBZ HC HD HX HY HB
          have HG := HG_n
          have H1 := H1_n
          have H2 := H2_n
          have H3 := H3_n
          have HLST := HLST_n
          have HA := HA_n
          have HBZ := HBZ_n
          have HC := HC_n
          have HD := HD_n
          have HX := HX_n
          have HY := HY_n
          have HB := HB_n
          clear HG_n H1_n H2_n H3_n HLST_n HA_n HBZ_n HC_n HD_n HX_n HY_n HB_n HBn hb
          have g0 := HG.out.at0.1
          have g1 := HG.out.at0.2
          rw [decide_eq_true (rfl : X = X)]
          go_wp2_with fail
          clear g0 g1
          refine (HAw.out _).mono ?_
          rintro e w35 ⟨rfl, hb⟩
          have HBn : Hid (Below w34.heap.size w34 w35) := Lib.hid (hb)
          have HG_n := Lib.hid (HG.out.below HBn.out)
          have H1_n := Lib.hid (H1.out.below HBn.out (Nat.le_refl _))
          have H2_n := Lib.hid (H2.out.below HBn.out (Nat.le_refl _))
          have H3_n := Lib.hid (H3.out.below HBn.out (Nat.le_refl _))
          have HLST_n := Lib.hid (HLST.out.below HBn.out (Nat.le_refl _))
          have HA_n := Lib.hid (HA.out.below HBn.out (Nat.le_refl _))
          have HBZ_n := Lib.hid (HBZ.out.below HBn.out (Nat.le_refl _))
          have HC_n := Lib.hid (HC.out.below HBn.out (Nat.le_refl _))
          have HD_n := Lib.hid (HD.out.below HBn.out (Nat.le_refl _))
          have HX_n := Lib.hid (HX.out.below HBn.out (Nat.le_refl _))
          have HY_n := Lib.hid (HY.out.below HBn.out (Nat.le_refl _))
          have HB_n := Lib.hid (HB.out.trans (HBn.out.mono HB.out.size))
          clear HG H1 H2 H3 HLST HA HBZ HC HD HX HY HB
          have HG := HG_n
          have H1 := H1_n
          have H2 := H2_n
          have H3 := H3_n
          have HLST := HLST_n
          have HA := HA_n
          have HBZ := HBZ_n
          have HC := HC_n
          have HD := HD_n
          have HX := HX_n
          have HY := HY_n
          have HB := HB_n
          clear HG_n H1_n H2_n H3_n HLST_n HA_n HBZ_n HC_n HD_n HX_n HY_n HB_n HBn hb
          have g0 := HG.out.at0.1
          have g1 := HG.out.at0.2
          go_wp2_with fail
          go_ret
          exact ⟨rfl, HB.out⟩

/-- THE LAW MirrorOrder. -/
theorem mirrorOrder_law (k n : Int) (v1 v2 v3 : Value) (l1 l2 l3 : List Int) (w : World) (h1 : Ints w v1 l1) (h2 : Ints w v2 l2) (h3 : Ints w v3 l3) :
    Calls Try.prog 12 #[gV k n, v1, v2, v3] w fun e w' => e = .returned (.bool true) ∧ Below w.heap.size w w' := by
  by_cases hk : grpB k n = true
  · obtain ⟨g, hg, rfl, rfl⟩ := grp_of hk
    by_cases ha : [l1, l2, l3].all (wordB g) = true
    · simp only [List.all_cons, List.all_nil, Bool.and_true, Bool.and_eq_true] at ha
      exact order_good g hg v1 v2 v3 l1 l2 l3 w h1 h2 h3 ha.1 ha.2.1 ha.2.2
    · refine order_bad _ _ v1 v2 v3 l1 l2 l3 w h1 h2 h3 fun v W h => ?_
      have := fine_any g hg v [l1, l2, l3] W h (by simp)
      rwa [Bool.eq_false_iff.2 ha] at this
  · exact order_bad _ _ v1 v2 v3 l1 l2 l3 w h1 h2 h3 fun v W _ => fine_none k n (Bool.eq_false_iff.2 hk) v W
end Go.Proofs.Ytlnbodpdgebflaa
