/- SignsDesign: the walk -/
import Derived.Test.YtopmdmafameknaaRw
import Derived.Test.YtopmdmafameknaaSo
import Derived.Test.YtopmdmafameknaaMb
namespace Go.Proofs.Ytopmdmafameknaa
open Go.RowKit

theorem design_none {w w' : World} {xs : List Int} {e : Ending} (hk : ¬ (matB 16 xs = true ∧ 4 ≤ xs.length)) (h : DesignPost w xs e w') : e = .returned (.tuple #[.slice none 0 0, .int .i64 2]) ∧ Below w.heap.size w w' := by
  unfold DesignPost at h; rw [if_neg hk] at h; exact h
theorem design_not {w w' : World} {n : Nat} {a : List Nat} {e : Ending} (hm : Mat n a) (h4 : 4 ≤ n) (hb : balB n a = false) (h : DesignPost w (nats a) e w') : e = .returned (.tuple #[.slice none 0 0, .int .i64 5]) ∧ Below w.heap.size w w' := by
  unfold DesignPost at h
  rw [nats_length, hm.len, nats_toNat, if_pos ⟨matB_mk hm hm.le, h4⟩, hb] at h
  exact h
theorem design_fine {w w' : World} {n : Nat} {a : List Nat} {e : Ending} (hm : Mat n a) (h4 : 4 ≤ n) (hb : balB n a = true) (h : DesignPost w (nats a) e w') : ∃ v, e = .returned (.tuple #[v, .int .i64 0]) ∧ Nats w' v (dsgL n a) ∧ Below w.heap.size w w' := by
  unfold DesignPost at h
  rw [nats_length, hm.len, nats_toNat, if_pos ⟨matB_mk hm hm.le, h4⟩, if_pos hb] at h
  obtain ⟨⟨v, he, hv⟩, hb⟩ := h
  exact ⟨v, he, hv, hb⟩
theorem words_none {w w' : World} {xs : List Int} {e : Ending} (hk : matB 16 xs = false) (h : WordsPost w xs e w') : e = .returned (.tuple #[.slice none 0 0, .int .i64 2]) ∧ Below w.heap.size w w' := by
  unfold WordsPost at h; rw [hk] at h; exact h
theorem words_not {w w' : World} {n : Nat} {a : List Nat} {e : Ending} (hm : Mat n a) (hb : balB n a = false) (h : WordsPost w (nats a) e w') : e = .returned (.tuple #[.slice none 0 0, .int .i64 5]) ∧ Below w.heap.size w w' := by
  unfold WordsPost at h
  rw [nats_length, hm.len, nats_toNat, if_pos (matB_mk hm hm.le), hb] at h
  exact h
theorem words_fine {w w' : World} {n : Nat} {a : List Nat} {e : Ending} (hm : Mat n a) (hb : balB n a = true) (h : WordsPost w (nats a) e w') : ∃ v, e = .returned (.tuple #[v, .int .i64 0]) ∧ Ints w' v (wordsL n a) ∧ Below w.heap.size w w' := by
  unfold WordsPost at h
  rw [nats_length, hm.len, nats_toNat, if_pos (matB_mk hm hm.le), if_pos hb] at h
  obtain ⟨⟨v, he, hv⟩, hb⟩ := h
  exact ⟨v, he, hv, hb⟩
theorem eq_ints (v v' : Value) (xs : List Int) (w : World) (h : Ints w v xs) (h' : Ints w v' xs) :
    Calls Try.prog 23 #[v, v'] w fun e w' => e = .returned (.bool true) ∧ Below w.heap.size w w' :=
  (equal_any v v' _ _ w h h').mono fun e w' ⟨he, hb⟩ => ⟨by rw [he, show eqB xs xs = true from decide_eq_true rfl], hb⟩

set_option maxHeartbeats 1000000 in
set_option maxRecDepth 100000 in
theorem sdesign_bad (v : Value) (xs : List Int) (w : World) (h : Ints w v xs) (hs : matB 16 xs = false) :
    Calls Try.prog 7 #[v] w fun e w' => e = .returned (.bool true) ∧ Below w.heap.size w w' := by
  have HL := Lib.hid (fun w' (hb : Below w.heap.size w w') => list_any v xs w' (h.below hb (Nat.le_refl _)))
  have HM := Lib.hid (fun w' (hb : Below w.heap.size w w') => matrix_any v xs 16 w' (Nat.le_refl _) (h.below hb (Nat.le_refl _)))
  have HDe := Lib.hid (fun v' w' (h' : Ints w' v' (xs.take 20)) => design_any v' (xs.take 20) w' h')
  have HWo := Lib.hid (fun v' w' (h' : Ints w' v' (xs.take 20)) => words_any sort_said v' (xs.take 20) w' h')
  have PD := Lib.hid (fun w w' e (h : DesignPost w (xs.take 20) e w') => design_none (fun h => by rw [matB_take 16 xs (Nat.le_refl _), hs] at h; cases h.1) h)
  have PW := Lib.hid (fun w w' e (h : WordsPost w (xs.take 20) e w') => words_none (by rw [matB_take 16 xs (Nat.le_refl _), hs]) h)
  rw [hs] at HM
  clear h hs
  have HB0 := Lib.hid (Below.refl w.heap.size w)
  go_enter Try.func7, Try.ntmps7
  go_wp2_with fail
  refine (HL.out w HB0.out).mono ?_
  rintro e w1 ⟨v1, rfl, hv1, hb1⟩
  have HB1 := Lib.hid (HB0.out.trans (hb1.mono HB0.out.size))
  have A_1 := Lib.hid (hv1)
  clear hb1 hv1
  go_wp2_with fail
  refine (HDe.out v1 w1 A_1.out).mono ?_
  intro e w2 hq
  obtain ⟨rfl, hb2⟩ := PD.out _ _ _ hq
  have HB2 := Lib.hid (HB1.out.trans (hb2.mono HB1.out.size))
  have A_2 := Lib.hid (A_1.out.below hb2 (Nat.le_refl _))
  clear hb2
  clear hq
  clear A_2
  go_wp2_with fail
  refine (HL.out w2 HB2.out).mono ?_
  rintro e w3 ⟨v3, rfl, hv3, hb3⟩
  have HB3 := Lib.hid (HB2.out.trans (hb3.mono HB2.out.size))
  have A_3 := Lib.hid (hv3)
  clear hb3 hv3
  go_wp2_with fail
  refine (HWo.out v3 w3 A_3.out).mono ?_
  intro e w4 hq
  obtain ⟨rfl, hb4⟩ := PW.out _ _ _ hq
  have HB4 := Lib.hid (HB3.out.trans (hb4.mono HB3.out.size))
  have A_4 := Lib.hid (A_3.out.below hb4 (Nat.le_refl _))
  clear hb4
  clear hq
  clear A_4
  go_wp2_with fail
  refine (HM.out w4 HB4.out).mono ?_
  rintro e w' ⟨rfl, rfl⟩
  go_wp2_with fail
  refine (awake_any w4).mono ?_
  rintro e w5 ⟨rfl, hb5⟩
  have HB5 := Lib.hid (HB4.out.trans (hb5.mono HB4.out.size))
  clear hb5
  go_wp2
  go_ret
  exact ⟨rfl, HB5.out⟩

set_option maxHeartbeats 1000000 in
set_option maxRecDepth 100000 in
theorem sdesign_lt_t (v : Value) (n : Nat) (a : List Nat) (w : World) (h : Nats w v a) (hm : Mat n a) (h4 : n < 4) (hok : balB n a = true) :
    Calls Try.prog 7 #[v] w fun e w' => e = .returned (.bool true) ∧ Below w.heap.size w w' := by
  have HL := Lib.hid (fun w' (hb : Below w.heap.size w w') => list_any v (nats a) w' (h.below hb (Nat.le_refl _)))
  have HM := Lib.hid (fun w' (hb : Below w.heap.size w w') => matrix_any v (nats a) 16 w' (Nat.le_refl _) (h.below hb (Nat.le_refl _)))
  rw [matB_mk hm hm.le] at HM
  rw [nats_take hm] at HL
  have HDe := Lib.hid (fun v' w' (h' : Ints w' v' (nats a)) => design_any v' (nats a) w' h')
  have HWo := Lib.hid (fun v' w' (h' : Ints w' v' (nats a)) => words_any sort_said v' (nats a) w' h')
  have HRB := Lib.hid (fun w' (hb : Below w.heap.size w w') => rBalanced_any v n a w' (h.below hb (Nat.le_refl _)) hm)
  rw [hok] at HRB
  have PD := Lib.hid (fun w w' e (h : DesignPost w (nats a) e w') => design_none (fun hh => by have := hh.2; rw [nats_length, hm.len] at this; omega) h)
  have PW := Lib.hid (fun w w' e (h : WordsPost w (nats a) e w') => words_fine hm hok h)
  have RW := Lib.hid (fun w' (hb : Below w.heap.size w w') => rWords_any v n a w' (h.below hb (Nat.le_refl _)) hm)
  obtain ⟨ao, cap, rfl, _, _⟩ := hm.open h
  clear h hm hok
  have HB0 := Lib.hid (Below.refl w.heap.size w)
  go_enter Try.func7, Try.ntmps7
  go_wp2_with fail
  refine (HL.out w HB0.out).mono ?_
  rintro e w1 ⟨v1, rfl, hv1, hb1⟩
  have HB1 := Lib.hid (HB0.out.trans (hb1.mono HB0.out.size))
  have A_1 := Lib.hid (hv1)
  clear hb1 hv1
  go_wp2_with fail
  refine (HDe.out v1 w1 A_1.out).mono ?_
  intro e w2 hq
  obtain ⟨rfl, hb2⟩ := PD.out _ _ _ hq
  have HB2 := Lib.hid (HB1.out.trans (hb2.mono HB1.out.size))
  have A_2 := Lib.hid (A_1.out.below hb2 (Nat.le_refl _))
  clear hb2
  clear hq
  clear A_2
  go_wp2_with fail
  refine (HL.out w2 HB2.out).mono ?_
  rintro e w3 ⟨v3, rfl, hv3, hb3⟩
  have HB3 := Lib.hid (HB2.out.trans (hb3.mono HB2.out.size))
  have A_3 := Lib.hid (hv3)
  clear hb3 hv3
  go_wp2_with fail
  refine (HWo.out v3 w3 A_3.out).mono ?_
  intro e w4 hq
  obtain ⟨v4, rfl, hv4, hb4⟩ := PW.out _ _ _ hq
  have HB4 := Lib.hid (HB3.out.trans (hb4.mono HB3.out.size))
  have A_4 := Lib.hid (A_3.out.below hb4 (Nat.le_refl _))
  have X_4 := Lib.hid (hv4)
  clear hv4
  clear hb4
  clear hq
  clear A_4
  go_wp2_with fail
  refine (HM.out w4 HB4.out).mono ?_
  rintro e w' ⟨rfl, rfl⟩
  go_wp2_with fail
  refine (HRB.out w4 HB4.out).mono ?_
  rintro e w' ⟨rfl, rfl⟩
  go_wp2_with fail
  refine (RW.out w4 HB4.out).mono ?_
  rintro e w5 ⟨v5, rfl, hv5, hb5⟩
  have HB5 := Lib.hid (HB4.out.trans (hb5.mono HB4.out.size))
  have X_5 := Lib.hid (X_4.out.below hb5 (Nat.le_refl _))
  have E_5 := Lib.hid (hv5)
  clear hb5 hv5
  go_wp2_with fail
  refine (eq_ints v4 v5 _ w5 X_5.out E_5.out).mono ?_
  rintro e w6 ⟨rfl, hb6⟩
  have HB6 := Lib.hid (HB5.out.trans (hb6.mono HB5.out.size))
  have X_6 := Lib.hid (X_5.out.below hb6 (Nat.le_refl _))
  have E_6 := Lib.hid (E_5.out.below hb6 (Nat.le_refl _))
  clear hb6
  clear X_6
  clear E_6
  go_wp2_with fail
  refine (awake_any w6).mono ?_
  rintro e w7 ⟨rfl, hb7⟩
  have HB7 := Lib.hid (HB6.out.trans (hb7.mono HB6.out.size))
  clear hb7
  go_wp2
  go_ret
  exact ⟨rfl, HB7.out⟩

set_option maxHeartbeats 1000000 in
set_option maxRecDepth 100000 in
theorem sdesign_lt_f (v : Value) (n : Nat) (a : List Nat) (w : World) (h : Nats w v a) (hm : Mat n a) (h4 : n < 4) (hok : balB n a = false) :
    Calls Try.prog 7 #[v] w fun e w' => e = .returned (.bool true) ∧ Below w.heap.size w w' := by
  have HL := Lib.hid (fun w' (hb : Below w.heap.size w w') => list_any v (nats a) w' (h.below hb (Nat.le_refl _)))
  have HM := Lib.hid (fun w' (hb : Below w.heap.size w w') => matrix_any v (nats a) 16 w' (Nat.le_refl _) (h.below hb (Nat.le_refl _)))
  rw [matB_mk hm hm.le] at HM
  rw [nats_take hm] at HL
  have HDe := Lib.hid (fun v' w' (h' : Ints w' v' (nats a)) => design_any v' (nats a) w' h')
  have HWo := Lib.hid (fun v' w' (h' : Ints w' v' (nats a)) => words_any sort_said v' (nats a) w' h')
  have HRB := Lib.hid (fun w' (hb : Below w.heap.size w w') => rBalanced_any v n a w' (h.below hb (Nat.le_refl _)) hm)
  rw [hok] at HRB
  have PD := Lib.hid (fun w w' e (h : DesignPost w (nats a) e w') => design_none (fun hh => by have := hh.2; rw [nats_length, hm.len] at this; omega) h)
  have PW := Lib.hid (fun w w' e (h : WordsPost w (nats a) e w') => words_not hm hok h)
  obtain ⟨ao, cap, rfl, _, _⟩ := hm.open h
  clear h hm hok
  have HB0 := Lib.hid (Below.refl w.heap.size w)
  go_enter Try.func7, Try.ntmps7
  go_wp2_with fail
  refine (HL.out w HB0.out).mono ?_
  rintro e w1 ⟨v1, rfl, hv1, hb1⟩
  have HB1 := Lib.hid (HB0.out.trans (hb1.mono HB0.out.size))
  have A_1 := Lib.hid (hv1)
  clear hb1 hv1
  go_wp2_with fail
  refine (HDe.out v1 w1 A_1.out).mono ?_
  intro e w2 hq
  obtain ⟨rfl, hb2⟩ := PD.out _ _ _ hq
  have HB2 := Lib.hid (HB1.out.trans (hb2.mono HB1.out.size))
  have A_2 := Lib.hid (A_1.out.below hb2 (Nat.le_refl _))
  clear hb2
  clear hq
  clear A_2
  go_wp2_with fail
  refine (HL.out w2 HB2.out).mono ?_
  rintro e w3 ⟨v3, rfl, hv3, hb3⟩
  have HB3 := Lib.hid (HB2.out.trans (hb3.mono HB2.out.size))
  have A_3 := Lib.hid (hv3)
  clear hb3 hv3
  go_wp2_with fail
  refine (HWo.out v3 w3 A_3.out).mono ?_
  intro e w4 hq
  obtain ⟨rfl, hb4⟩ := PW.out _ _ _ hq
  have HB4 := Lib.hid (HB3.out.trans (hb4.mono HB3.out.size))
  have A_4 := Lib.hid (A_3.out.below hb4 (Nat.le_refl _))
  clear hb4
  clear hq
  clear A_4
  go_wp2_with fail
  refine (HM.out w4 HB4.out).mono ?_
  rintro e w' ⟨rfl, rfl⟩
  go_wp2_with fail
  refine (HRB.out w4 HB4.out).mono ?_
  rintro e w' ⟨rfl, rfl⟩
  go_wp2_with fail
  refine (awake_any w4).mono ?_
  rintro e w5 ⟨rfl, hb5⟩
  have HB5 := Lib.hid (HB4.out.trans (hb5.mono HB4.out.size))
  clear hb5
  go_wp2
  go_ret
  exact ⟨rfl, HB5.out⟩

set_option maxHeartbeats 1000000 in
set_option maxRecDepth 100000 in
theorem sdesign_ge_f (v : Value) (n : Nat) (a : List Nat) (w : World) (h : Nats w v a) (hm : Mat n a) (h4 : 4 ≤ n) (hok : balB n a = false) :
    Calls Try.prog 7 #[v] w fun e w' => e = .returned (.bool true) ∧ Below w.heap.size w w' := by
  have HL := Lib.hid (fun w' (hb : Below w.heap.size w w') => list_any v (nats a) w' (h.below hb (Nat.le_refl _)))
  have HM := Lib.hid (fun w' (hb : Below w.heap.size w w') => matrix_any v (nats a) 16 w' (Nat.le_refl _) (h.below hb (Nat.le_refl _)))
  rw [matB_mk hm hm.le] at HM
  rw [nats_take hm] at HL
  have HDe := Lib.hid (fun v' w' (h' : Ints w' v' (nats a)) => design_any v' (nats a) w' h')
  have HWo := Lib.hid (fun v' w' (h' : Ints w' v' (nats a)) => words_any sort_said v' (nats a) w' h')
  have HRB := Lib.hid (fun w' (hb : Below w.heap.size w w') => rBalanced_any v n a w' (h.below hb (Nat.le_refl _)) hm)
  rw [hok] at HRB
  have PD := Lib.hid (fun w w' e (h : DesignPost w (nats a) e w') => design_not hm h4 hok h)
  have PW := Lib.hid (fun w w' e (h : WordsPost w (nats a) e w') => words_not hm hok h)
  obtain ⟨ao, cap, rfl, _, _⟩ := hm.open h
  clear h hm hok
  have HB0 := Lib.hid (Below.refl w.heap.size w)
  go_enter Try.func7, Try.ntmps7
  go_wp2_with fail
  refine (HL.out w HB0.out).mono ?_
  rintro e w1 ⟨v1, rfl, hv1, hb1⟩
  have HB1 := Lib.hid (HB0.out.trans (hb1.mono HB0.out.size))
  have A_1 := Lib.hid (hv1)
  clear hb1 hv1
  go_wp2_with fail
  refine (HDe.out v1 w1 A_1.out).mono ?_
  intro e w2 hq
  obtain ⟨rfl, hb2⟩ := PD.out _ _ _ hq
  have HB2 := Lib.hid (HB1.out.trans (hb2.mono HB1.out.size))
  have A_2 := Lib.hid (A_1.out.below hb2 (Nat.le_refl _))
  clear hb2
  clear hq
  clear A_2
  go_wp2_with fail
  refine (HL.out w2 HB2.out).mono ?_
  rintro e w3 ⟨v3, rfl, hv3, hb3⟩
  have HB3 := Lib.hid (HB2.out.trans (hb3.mono HB2.out.size))
  have A_3 := Lib.hid (hv3)
  clear hb3 hv3
  go_wp2_with fail
  refine (HWo.out v3 w3 A_3.out).mono ?_
  intro e w4 hq
  obtain ⟨rfl, hb4⟩ := PW.out _ _ _ hq
  have HB4 := Lib.hid (HB3.out.trans (hb4.mono HB3.out.size))
  have A_4 := Lib.hid (A_3.out.below hb4 (Nat.le_refl _))
  clear hb4
  clear hq
  clear A_4
  go_wp2_with fail
  refine (HM.out w4 HB4.out).mono ?_
  rintro e w' ⟨rfl, rfl⟩
  go_wp2_with fail
  refine (HRB.out w4 HB4.out).mono ?_
  rintro e w' ⟨rfl, rfl⟩
  go_wp2_with fail
  refine (awake_any w4).mono ?_
  rintro e w5 ⟨rfl, hb5⟩
  have HB5 := Lib.hid (HB4.out.trans (hb5.mono HB4.out.size))
  clear hb5
  go_wp2
  go_ret
  exact ⟨rfl, HB5.out⟩

set_option maxHeartbeats 1000000 in
set_option maxRecDepth 100000 in
theorem sdesign_ge_t (v : Value) (n : Nat) (a : List Nat) (w : World) (h : Nats w v a) (hm : Mat n a) (h4 : 4 ≤ n) (hok : balB n a = true) :
    Calls Try.prog 7 #[v] w fun e w' => e = .returned (.bool true) ∧ Below w.heap.size w w' := by
  have HL := Lib.hid (fun w' (hb : Below w.heap.size w w') => list_any v (nats a) w' (h.below hb (Nat.le_refl _)))
  have HM := Lib.hid (fun w' (hb : Below w.heap.size w w') => matrix_any v (nats a) 16 w' (Nat.le_refl _) (h.below hb (Nat.le_refl _)))
  rw [matB_mk hm hm.le] at HM
  rw [nats_take hm] at HL
  have HDe := Lib.hid (fun v' w' (h' : Ints w' v' (nats a)) => design_any v' (nats a) w' h')
  have HWo := Lib.hid (fun v' w' (h' : Ints w' v' (nats a)) => words_any sort_said v' (nats a) w' h')
  have HRB := Lib.hid (fun w' (hb : Below w.heap.size w w') => rBalanced_any v n a w' (h.below hb (Nat.le_refl _)) hm)
  rw [hok] at HRB
  have PD := Lib.hid (fun w w' e (h : DesignPost w (nats a) e w') => design_fine hm h4 hok h)
  have RD := Lib.hid (fun w' (hb : Below w.heap.size w w') => rDesign_any v n a w' (h.below hb (Nat.le_refl _)) hm h4)
  have PW := Lib.hid (fun w w' e (h : WordsPost w (nats a) e w') => words_fine hm hok h)
  have RW := Lib.hid (fun w' (hb : Below w.heap.size w w') => rWords_any v n a w' (h.below hb (Nat.le_refl _)) hm)
  obtain ⟨ao, cap, rfl, _, _⟩ := hm.open h
  clear h hm hok
  have HB0 := Lib.hid (Below.refl w.heap.size w)
  go_enter Try.func7, Try.ntmps7
  go_wp2_with fail
  refine (HL.out w HB0.out).mono ?_
  rintro e w1 ⟨v1, rfl, hv1, hb1⟩
  have HB1 := Lib.hid (HB0.out.trans (hb1.mono HB0.out.size))
  have A_1 := Lib.hid (hv1)
  clear hb1 hv1
  go_wp2_with fail
  refine (HDe.out v1 w1 A_1.out).mono ?_
  intro e w2 hq
  obtain ⟨v2, rfl, hv2, hb2⟩ := PD.out _ _ _ hq
  have HB2 := Lib.hid (HB1.out.trans (hb2.mono HB1.out.size))
  have A_2 := Lib.hid (A_1.out.below hb2 (Nat.le_refl _))
  have D_2 := Lib.hid (hv2)
  clear hv2
  clear hb2
  clear hq
  clear A_2
  go_wp2_with fail
  refine (HL.out w2 HB2.out).mono ?_
  rintro e w3 ⟨v3, rfl, hv3, hb3⟩
  have HB3 := Lib.hid (HB2.out.trans (hb3.mono HB2.out.size))
  have D_3 := Lib.hid (D_2.out.below hb3 (Nat.le_refl _))
  have A_3 := Lib.hid (hv3)
  clear hb3 hv3
  go_wp2_with fail
  refine (HWo.out v3 w3 A_3.out).mono ?_
  intro e w4 hq
  obtain ⟨v4, rfl, hv4, hb4⟩ := PW.out _ _ _ hq
  have HB4 := Lib.hid (HB3.out.trans (hb4.mono HB3.out.size))
  have D_4 := Lib.hid (D_3.out.below hb4 (Nat.le_refl _))
  have A_4 := Lib.hid (A_3.out.below hb4 (Nat.le_refl _))
  have X_4 := Lib.hid (hv4)
  clear hv4
  clear hb4
  clear hq
  clear A_4
  go_wp2_with fail
  refine (HM.out w4 HB4.out).mono ?_
  rintro e w' ⟨rfl, rfl⟩
  go_wp2_with fail
  refine (HRB.out w4 HB4.out).mono ?_
  rintro e w' ⟨rfl, rfl⟩
  go_wp2_with fail
  refine (RD.out w4 HB4.out).mono ?_
  rintro e w5 ⟨v5, rfl, hv5, hb5⟩
  have HB5 := Lib.hid (HB4.out.trans (hb5.mono HB4.out.size))
  have D_5 := Lib.hid (D_4.out.below hb5 (Nat.le_refl _))
  have X_5 := Lib.hid (X_4.out.below hb5 (Nat.le_refl _))
  have E_5 := Lib.hid (hv5)
  clear hb5 hv5
  go_wp2_with fail
  refine (eq_ints v2 v5 _ w5 D_5.out E_5.out).mono ?_
  rintro e w6 ⟨rfl, hb6⟩
  have HB6 := Lib.hid (HB5.out.trans (hb6.mono HB5.out.size))
  have D_6 := Lib.hid (D_5.out.below hb6 (Nat.le_refl _))
  have X_6 := Lib.hid (X_5.out.below hb6 (Nat.le_refl _))
  have E_6 := Lib.hid (E_5.out.below hb6 (Nat.le_refl _))
  clear hb6
  clear D_6
  clear E_6
  go_wp2_with fail
  refine (RW.out w6 HB6.out).mono ?_
  rintro e w7 ⟨v7, rfl, hv7, hb7⟩
  have HB7 := Lib.hid (HB6.out.trans (hb7.mono HB6.out.size))
  have X_7 := Lib.hid (X_6.out.below hb7 (Nat.le_refl _))
  have E_7 := Lib.hid (hv7)
  clear hb7 hv7
  go_wp2_with fail
  refine (eq_ints v4 v7 _ w7 X_7.out E_7.out).mono ?_
  rintro e w8 ⟨rfl, hb8⟩
  have HB8 := Lib.hid (HB7.out.trans (hb8.mono HB7.out.size))
  have X_8 := Lib.hid (X_7.out.below hb8 (Nat.le_refl _))
  have E_8 := Lib.hid (E_7.out.below hb8 (Nat.le_refl _))
  clear hb8
  clear X_8
  clear E_8
  go_wp2_with fail
  refine (awake_any w8).mono ?_
  rintro e w9 ⟨rfl, hb9⟩
  have HB9 := Lib.hid (HB8.out.trans (hb9.mono HB8.out.size))
  clear hb9
  go_wp2
  go_ret
  exact ⟨rfl, HB9.out⟩

theorem signsDesign_law (v : Value) (xs : List Int) (w : World) (h : Ints w v xs) :
    Calls Try.prog 7 #[v] w fun e w' => e = .returned (.bool true) ∧ Below w.heap.size w w' := by
  cases hs : matB 16 xs with
  | false => exact sdesign_bad v xs w h hs
  | true =>
    obtain ⟨a, n, rfl, hm, _, _⟩ := matB_of' (Nat.le_refl _) hs
    by_cases h4 : n < 4
    · cases hok : balB n a with
      | true => exact sdesign_lt_t v n a w h hm h4 hok
      | false => exact sdesign_lt_f v n a w h hm h4 hok
    · cases hok : balB n a with
      | true => exact sdesign_ge_t v n a w h hm (by omega) hok
      | false => exact sdesign_ge_f v n a w h hm (by omega) hok
end Go.Proofs.Ytopmdmafameknaa
