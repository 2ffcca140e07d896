/- open, as its callers meet it; Normal, Length, Longest, Times -/
import Derived.Test.YtlnbodpdgebflaaOc
namespace Go.Proofs.Ytlnbodpdgebflaa
open Go.RowKit

theorem rows1 {W : World} {b : Nat} {v : Value} {l : List Int} (hc : Blk 24 W b #[v]) (h : Ints W v l) : IntRows W (.slice (some ⟨b, 0, none⟩) 1 1) [l] :=
  ⟨[v], ⟨_, 1, rfl, Nat.le_refl _, by simp, by unfold maxLen; omega, .inr ⟨b, 0, rfl, hc.lt, fun k x hx => by
    match k, hx with
    | 0, hx => simp at hx; subst hx; exact hc.cell 0⟩⟩, rfl, fun i u x hu hx => by
    match i, hu, hx with
    | 0, hu, hx => simp at hu hx; subst hu hx; exact h⟩
theorem rows2 {W : World} {b : Nat} {v v' : Value} {l l' : List Int} (hc : Blk 24 W b #[v, v']) (h : Ints W v l) (h' : Ints W v' l') : IntRows W (.slice (some ⟨b, 0, none⟩) 2 2) [l, l'] :=
  ⟨[v, v'], ⟨_, 2, rfl, Nat.le_refl _, by simp, by unfold maxLen; omega, .inr ⟨b, 0, rfl, hc.lt, fun k x hx => by
    match k, hx with
    | 0, hx => simp at hx; subst hx; exact hc.cell 0
    | 1, hx => simp at hx; subst hx; exact hc.cell 1⟩⟩, rfl, fun i u x hu hx => by
    match i, hu, hx with
    | 0, hu, hx => simp at hu hx; subst hu hx; exact h
    | 1, hu, hx => simp at hu hx; subst hu hx; exact h'⟩
theorem rows0 (W : World) : IntRows W (.slice none 0 0) [] := ⟨[], ⟨none, 0, rfl, Nat.le_refl _, by simp, by simp, .inl rfl⟩, rfl, fun i u x hu => by simp at hu⟩

theorem open0_ok (g : Nat) (hg : g < 17) (W : World) : Calls Try.prog 69 #[gV (kd g) (nm g), .slice none 0 0] W fun e w' => ∃ T0 ea ec, e = .returned (.tuple #[.pointer (some ⟨T0, 0, none⟩), .slice ea 0 ec, .int .i64 0]) ∧ TableAt w' T0 g ∧ Below W.heap.size W w' :=
  (open_any g hg _ [] W (rows0 W) (by simp)).mono fun e w' h => by
    obtain ⟨hb, h⟩ := h
    rw [if_pos (by rfl)] at h
    obtain ⟨T0, a, c, rfl, hT, _⟩ := h
    exact ⟨T0, a, c, rfl, hT, hb⟩
theorem open1_ok (g : Nat) (hg : g < 17) {v : Value} {l : List Int} (W : World) (b : Nat) (hc : Blk 24 W b #[v]) (h : Ints W v l) (hw : wordB g l = true) :
    Calls Try.prog 69 #[gV (kd g) (nm g), .slice (some ⟨b, 0, none⟩) 1 1] W fun e w' => ∃ T0 eb eo ec, e = .returned (.tuple #[.pointer (some ⟨T0, 0, none⟩), .slice (some ⟨eb, eo, none⟩) 1 ec, .int .i64 0]) ∧ TableAt w' T0 g ∧ w'.cell? ⟨eb, eo, none⟩ = some (.int .i64 (folI g l : Nat)) ∧ Below W.heap.size W w' ∧ 1 ≤ ec :=
  (open_any g hg _ [l] W (rows1 hc h) (by simp)).mono fun e w' h => by
    obtain ⟨hb, h⟩ := h
    rw [if_pos (by simp [hw])] at h
    obtain ⟨T0, a, c, rfl, hT, hn⟩ := h
    obtain ⟨_, _, e, hc, _, hx⟩ := Nats.open hn
    cases e
    obtain ⟨eb, eo, rfl, hx0⟩ := hx 0 (by simp)
    exact ⟨T0, eb, eo, c, rfl, hT, hx0, hb, hc⟩
theorem open2_ok (g : Nat) (hg : g < 17) {v v' : Value} {l l' : List Int} (W : World) (b : Nat) (hc : Blk 24 W b #[v, v']) (h : Ints W v l) (h' : Ints W v' l') (hw : wordB g l = true) (hw' : wordB g l' = true) :
    Calls Try.prog 69 #[gV (kd g) (nm g), .slice (some ⟨b, 0, none⟩) 2 2] W fun e w' => ∃ T0 eb eo ec, e = .returned (.tuple #[.pointer (some ⟨T0, 0, none⟩), .slice (some ⟨eb, eo, none⟩) 2 ec, .int .i64 0]) ∧ TableAt w' T0 g ∧ w'.cell? ⟨eb, eo, none⟩ = some (.int .i64 (folI g l : Nat)) ∧ w'.cell? ⟨eb, eo + 1, none⟩ = some (.int .i64 (folI g l' : Nat)) ∧ Below W.heap.size W w' ∧ 2 ≤ ec :=
  (open_any g hg _ [l, l'] W (rows2 hc h h') (by simp)).mono fun e w' h => by
    obtain ⟨hb, h⟩ := h
    rw [if_pos (by simp [hw, hw'])] at h
    obtain ⟨T0, a, c, rfl, hT, hn⟩ := h
    obtain ⟨_, _, e, hc, _, hx⟩ := Nats.open hn
    cases e
    obtain ⟨eb, eo, rfl, hx0⟩ := hx 0 (by simp)
    obtain ⟨_, _, e, hx1⟩ := hx 1 (by simp)
    cases e
    exact ⟨T0, eb, eo, c, rfl, hT, hx0, hx1, hb, hc⟩

set_option maxHeartbeats 400000 in
theorem open_none (k n : Int) (v : Value) (w : World) (hk : grpB k n = false) : Calls Try.prog 69 #[gV k n, v] w fun e w' => e = .returned (.tuple #[.pointer none, .slice none 0 0, .int .i64 2]) ∧ Below w.heap.size w w' := by
  have HG := Lib.hid (fun W => isGroup_any k n W)
  rw [hk] at HG
  clear hk
  go_enter Try.func69, Try.ntmps69
  go_wp2_with fail
  refine (HG.out _).mono ?_
  rintro e w1 ⟨rfl, hb1⟩
  have HB1 : Hid (Below w.heap.size w w1) := Lib.hid (((Below.refl _ _).alloc (Nat.le_refl _) _).trans (hb1.mono (by simp)))
  clear hb1 HG
  go_wp2_with fail
  exact bodyPost_ret (results_tmp3 rfl _ _ _) rfl ⟨rfl, HB1.out⟩
/-- No group, or no word of it. -/
def Bad (k n : Int) (Ls : List (List Int)) : Prop := grpB k n = false ∨ ∃ g, g < 17 ∧ k = (kd g : Nat) ∧ n = (nm g : Nat) ∧ Ls.all (wordB g) = false
theorem open_bad (k n : Int) (v : Value) (Ls : List (List Int)) (w : World) (h : IntRows w v Ls) (h3 : Ls.length ≤ 3) (hb : Bad k n Ls) :
    Calls Try.prog 69 #[gV k n, v] w fun e w' => e = .returned (.tuple #[.pointer none, .slice none 0 0, .int .i64 2]) ∧ Below w.heap.size w w' := by
  rcases hb with hb | ⟨g, hg, rfl, rfl, hb⟩
  · exact open_none k n v w hb
  · refine (open_any g hg v Ls w h h3).mono fun e w' hh => ?_
    obtain ⟨h1, h2⟩ := hh
    rw [if_neg (by rw [hb]; decide)] at h2
    exact ⟨h2, h1⟩
theorem Ints.alloc {w : World} {v : Value} {l : List Int} (h : Ints w v l) (o : Obj) : Ints (w.alloc o) v l := h.below ((Below.refl _ _).alloc (Nat.le_refl _) o) (Nat.le_refl _)
theorem a1 (w : World) (o : Obj) : Below w.heap.size w (w.alloc o) := (Below.refl _ _).alloc (Nat.le_refl _) o
theorem a2 (w : World) (o p : Obj) : Below w.heap.size w ((w.alloc o).alloc p) := ((Below.refl _ _).alloc (Nat.le_refl _) o).alloc (by simp) p
theorem a3 (w : World) (o p q : Obj) : Below w.heap.size w (((w.alloc o).alloc p).alloc q) := (a2 w o p).alloc (by simp; omega) q

set_option maxHeartbeats 400000 in
theorem Normal_bad (k n : Int) (v : Value) (l : List Int) (w : World) (h : Ints w v l) (hb : Bad k n [l]) : Calls Try.prog 19 #[gV k n, v] w fun e w' => e = .returned (.tuple #[.slice none 0 0, .int .i64 2]) ∧ Below w.heap.size w w' := by
  obtain ⟨va, vc, rfl, _, _, _⟩ := h.open
  have HV := Lib.hid h
  clear h
  have HO := Lib.hid (fun v W h => open_bad k n v [l] W h (by simp) hb)
  clear hb
  go_enter Try.func19, Try.ntmps19
  go_wp2_with fail
  refine (HO.out _ _ (rows1 (blk_at (by simp)) ((HV.out.alloc _).alloc _))).mono ?_
  rintro e w1 ⟨rfl, hb1⟩
  have HB1 : Hid (Below w.heap.size w w1) := Lib.hid ((a2 w _ _).trans (hb1.mono (by simp; try omega)))
  clear hb1 HO
  go_wp2_with fail
  exact bodyPost_ret (results_tmp2 rfl _ _ _) rfl ⟨rfl, HB1.out⟩

set_option maxHeartbeats 400000 in
theorem Normal_ok (g : Nat) (hg : g < 17) (v : Value) (l : List Int) (w : World) (h : Ints w v l) (hw : wordB g l = true) : Calls Try.prog 19 #[gV (kd g) (nm g), v] w fun e w' => ∃ a c, e = .returned (.tuple #[.slice a (ln g (folI g l)) c, .int .i64 0]) ∧ Nats w' (.slice a (ln g (folI g l)) c) (wd g (folI g l)) ∧ Below w.heap.size w w' := by
  obtain ⟨va, vc, rfl, _, _, _⟩ := h.open
  have HV := Lib.hid h
  clear h
  have HO := Lib.hid (fun W b hc h => open1_ok g hg (v := .slice va l.length vc) (l := l) W b hc h hw)
  have hlt := folI_lt hg hw
  go_enter Try.func19, Try.ntmps19
  go_wp2_with fail
  refine (HO.out _ _ (blk_at (by simp)) ((HV.out.alloc _).alloc _)).mono ?_
  rintro e w1 ⟨T0, eb, eo, ec, rfl, hT, hx, hb1, hec⟩
  have HB1 : Hid (Below w.heap.size w w1) := Lib.hid ((a2 w _ _).trans (hb1.mono (by simp; try omega)))
  have HT := Lib.hid hT
  clear hb1 HO hT
  obtain ⟨wb, cw, rb, cr, ws, R, C, ht⟩ := HT.out.open hg
  have c0 := ht.c0
  have c1 := ht.c1
  have hcap := ht.cap
  obtain ⟨a, c, _, hc, hn, hlc⟩ := ht.word _ hlt
  have HN := Lib.hid hn
  clear ht hn
  generalize hy : folI g l = y at *
  have HY := Lib.hid hy
  clear hy
  go_wp2_with fail
  go_quiet (fail)
  go_wp2_with fail
  refine bodyPost_ret (results_tmp2 rfl _ _ _) rfl ?_
  rw [HY.out]
  exact ⟨_, _, rfl, HN.out.below (below_drewN (Below.refl _ _) _) (Nat.le_refl _), below_drewN HB1.out _⟩

set_option maxHeartbeats 400000 in
theorem Length_bad (k n : Int) (v : Value) (l : List Int) (w : World) (h : Ints w v l) (hb : Bad k n [l]) : Calls Try.prog 22 #[gV k n, v] w fun e w' => e = .returned (.tuple #[.int .i64 0, .int .i64 2]) ∧ Below w.heap.size w w' := by
  obtain ⟨va, vc, rfl, _, _, _⟩ := h.open
  have HV := Lib.hid h
  clear h
  have HO := Lib.hid (fun v W h => open_bad k n v [l] W h (by simp) hb)
  clear hb
  go_enter Try.func22, Try.ntmps22
  go_wp2_with fail
  refine (HO.out _ _ (rows1 (blk_at (by simp)) ((HV.out.alloc _).alloc _))).mono ?_
  rintro e w1 ⟨rfl, hb1⟩
  have HB1 : Hid (Below w.heap.size w w1) := Lib.hid ((a2 w _ _).trans (hb1.mono (by simp; try omega)))
  clear hb1 HO
  go_wp2_with fail
  exact bodyPost_ret (results_tmp2 rfl _ _ _) rfl ⟨rfl, HB1.out⟩

set_option maxHeartbeats 400000 in
theorem Length_ok (g : Nat) (hg : g < 17) (v : Value) (l : List Int) (w : World) (h : Ints w v l) (hw : wordB g l = true) : Calls Try.prog 22 #[gV (kd g) (nm g), v] w fun e w' => e = .returned (.tuple #[.int .i64 (ln g (folI g l) : Nat), .int .i64 0]) ∧ Below w.heap.size w w' := by
  obtain ⟨va, vc, rfl, _, _, _⟩ := h.open
  have HV := Lib.hid h
  clear h
  have HO := Lib.hid (fun W b hc h => open1_ok g hg (v := .slice va l.length vc) (l := l) W b hc h hw)
  have hlt := folI_lt hg hw
  go_enter Try.func22, Try.ntmps22
  go_wp2_with fail
  refine (HO.out _ _ (blk_at (by simp)) ((HV.out.alloc _).alloc _)).mono ?_
  rintro e w1 ⟨T0, eb, eo, ec, rfl, hT, hx, hb1, hec⟩
  have HB1 : Hid (Below w.heap.size w w1) := Lib.hid ((a2 w _ _).trans (hb1.mono (by simp; try omega)))
  have HT := Lib.hid hT
  clear hb1 HO hT
  have HL := Lib.hid (length_any g T0 (folI g l) hg w1 HT.out hlt)
  generalize hy : folI g l = y at *
  have HY := Lib.hid hy
  clear hy
  go_wp2_with fail
  refine HL.out.mono ?_
  rintro e w2 ⟨rfl, rfl⟩
  go_wp2_with fail
  refine bodyPost_ret (results_tmp2 rfl _ _ _) rfl ?_
  rw [HY.out]
  exact ⟨rfl, HB1.out⟩

set_option maxHeartbeats 400000 in
theorem Longest_bad (k n : Int) (w : World) (hb : Bad k n []) : Calls Try.prog 38 #[gV k n] w fun e w' => e = .returned (.tuple #[.slice none 0 0, .int .i64 2]) ∧ Below w.heap.size w w' := by
  have HO := Lib.hid (fun v W h => open_bad k n v [] W h (by simp) hb)
  clear hb
  go_enter Try.func38, Try.ntmps38
  go_wp2_with fail
  refine (HO.out _ _ (rows0 _)).mono ?_
  rintro e w1 ⟨rfl, hb1⟩
  have HB1 : Hid (Below w.heap.size w w1) := Lib.hid ((a1 w _).trans (hb1.mono (by simp; try omega)))
  clear hb1 HO
  go_wp2_with fail
  exact bodyPost_ret (results_tmp2 rfl _ _ _) rfl ⟨rfl, HB1.out⟩

set_option maxHeartbeats 400000 in
theorem Longest_ok (g : Nat) (hg : g < 17) (w : World) : Calls Try.prog 38 #[gV (kd g) (nm g)] w fun e w' => ∃ a c, e = .returned (.tuple #[.slice a (ln g (nE g - 1)) c, .int .i64 0]) ∧ Nats w' (.slice a (ln g (nE g - 1)) c) (wd g (nE g - 1)) ∧ Below w.heap.size w w' := by
  have HO := Lib.hid (fun W => open0_ok g hg W)
  go_enter Try.func38, Try.ntmps38
  go_wp2_with fail
  refine (HO.out _).mono ?_
  rintro e w1 ⟨T0, ea, ec, rfl, hT, hb1⟩
  have HB1 : Hid (Below w.heap.size w w1) := Lib.hid ((a1 w _).trans (hb1.mono (by simp; try omega)))
  have HT := Lib.hid hT
  clear hb1 HO hT
  obtain ⟨wb, cw, rb, cr, ws, R, C, ht⟩ := HT.out.open hg
  have c0 := ht.c0
  have c1 := ht.c1
  have hcap := ht.cap
  have hE := tE hg
  obtain ⟨a, c, _, hc, hn, hlc⟩ := ht.word (nE g - 1) (by omega)
  have HN := Lib.hid hn
  have ht1 : ((nE g : Int) - 1).toNat = nE g - 1 := by omega
  have ht2 : (nE g : Int) - 1 = ((nE g - 1 : Nat) : Int) := by omega
  clear ht hn
  go_wp2_with fail
  go_quiet (fail)
  go_wp2_with fail
  exact bodyPost_ret (results_tmp2 rfl _ _ _) rfl ⟨_, _, rfl, HN.out.below (below_drewN (Below.refl _ _) _) (Nat.le_refl _), below_drewN HB1.out _⟩

set_option maxHeartbeats 400000 in
theorem Times_bad (k n : Int) (v v' : Value) (l l' : List Int) (w : World) (h : Ints w v l) (h' : Ints w v' l') (hb : Bad k n [l, l']) : Calls Try.prog 32 #[gV k n, v, v'] w fun e w' => e = .returned (.tuple #[.slice none 0 0, .int .i64 2]) ∧ Below w.heap.size w w' := by
  obtain ⟨va, vc, rfl, _, _, _⟩ := h.open
  obtain ⟨va', vc', rfl, _, _, _⟩ := h'.open
  have HV := Lib.hid h
  have HV' := Lib.hid h'
  clear h h'
  have HO := Lib.hid (fun v W h => open_bad k n v [l, l'] W h (by simp) hb)
  clear hb
  go_enter Try.func32, Try.ntmps32
  go_wp2_with fail
  refine (HO.out _ _ (rows2 (blk_at (by simp)) ((HV.out.alloc _).alloc _) ((HV'.out.alloc _).alloc _))).mono ?_
  rintro e w1 ⟨rfl, hb1⟩
  have HB1 : Hid (Below w.heap.size w w1) := Lib.hid ((a2 w _ _).trans (hb1.mono (by simp; try omega)))
  clear hb1 HO
  go_wp2_with fail
  exact bodyPost_ret (results_tmp2 rfl _ _ _) rfl ⟨rfl, HB1.out⟩

set_option maxHeartbeats 400000 in
theorem Times_ok (g : Nat) (hg : g < 17) (v v' : Value) (l l' : List Int) (w : World) (h : Ints w v l) (h' : Ints w v' l') (hw : wordB g l = true) (hw' : wordB g l' = true) : Calls Try.prog 32 #[gV (kd g) (nm g), v, v'] w fun e w' => ∃ a c, e = .returned (.tuple #[.slice a (ln g (fol g (folI g l) (toN l'))) c, .int .i64 0]) ∧ Nats w' (.slice a (ln g (fol g (folI g l) (toN l'))) c) (wd g (fol g (folI g l) (toN l'))) ∧ Below w.heap.size w w' := by
  obtain ⟨va, vc, rfl, _, _, _⟩ := h.open
  obtain ⟨va', vc', rfl, _, _, _⟩ := h'.open
  have HV := Lib.hid h
  have HV' := Lib.hid h'
  clear h h'
  have HO := Lib.hid (fun W b hc h h' => open2_ok g hg (v := .slice va l.length vc) (v' := .slice va' l'.length vc') (l := l) (l' := l') W b hc h h' hw hw')
  have hlt := folI_lt hg hw
  have hlt' := folI_lt hg hw'
  go_enter Try.func32, Try.ntmps32
  go_wp2_with fail
  refine (HO.out _ _ (blk_at (by simp)) ((HV.out.alloc _).alloc _) ((HV'.out.alloc _).alloc _)).mono ?_
  rintro e w1 ⟨T0, eb, eo, ec, rfl, hT, hx, hx', hb1, hec⟩
  have HB1 : Hid (Below w.heap.size w w1) := Lib.hid ((a2 w _ _).trans (hb1.mono (by simp; try omega)))
  have HT := Lib.hid hT
  clear hb1 HO hT
  obtain ⟨wb, cw, rb, cr, ws, R, C, ht⟩ := HT.out.open hg
  have c0 := ht.c0
  have c1 := ht.c1
  have hcap := ht.cap
  have hy2 := fol_lt hg (toN l') _ hlt (toN_lt (word_let hw'))
  obtain ⟨a, c, _, hc, hn, hlc⟩ := ht.word _ hy2
  have HN := Lib.hid hn
  have HN1 : Hid (Nats w1 (.slice va' l'.length vc') (toN l')) := Lib.hid ((HV'.out.below HB1.out (Nat.le_refl _)).toN (word_let hw'))
  have HF := Lib.hid (fun n => follow_any g T0 (folI g l) hg (.slice va' l'.length vc') (toN l') (w1.drewN n) (HT.out.drewN n) hlt (HN1.out.below (below_drewN (Below.refl _ _) _) (Nat.le_refl _)) (toN_lt (word_let hw')))
  clear ht hn
  generalize hz : fol g (folI g l) (toN l') = z at *
  have HZ := Lib.hid hz
  clear hz
  generalize hy : folI g l = y at *
  have HY := Lib.hid hy
  clear hy
  go_wp2_with fail
  go_quiet ((go_at_call 72; exact quiet_eq (HF.out _)))
  go_wp2_with fail
  refine bodyPost_ret (results_tmp2 rfl _ _ _) rfl ?_
  rw [HY.out, HZ.out]
  exact ⟨_, _, rfl, HN.out.below (below_drewN (Below.refl _ _) _) (Nat.le_refl _), below_drewN HB1.out _⟩
end Go.Proofs.Ytlnbodpdgebflaa
