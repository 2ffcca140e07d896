/- SignsFour: the walk -/
import Derived.Test.YtopmdmafameknaaFe0
import Derived.Test.YtopmdmafameknaaGl
import Derived.Test.YtopmdmafameknaaDm
import Derived.Test.YtopmdmafameknaaNr
namespace Go.Proofs.Ytopmdmafameknaa
open Go.RowKit

theorem arr_mat {n a b c d : Nat} (h1 : 1 ≤ n) (h4 : n ≤ 4) : matB 16 (nats (arrL n a b c d)) = true ∧ (nats (arrL n a b c d)).length = 4 * n ∧ (nats (arrL n a b c d)).map Int.toNat = arrL n a b c d := by
  have hl : (arrL n a b c d).length = 4 * n := by simp [arrL, plantL]
  have hl' : (nats (arrL n a b c d)).length = 4 * n := by simp [nats, hl]
  refine ⟨decide_eq_true ⟨by omega, by omega, fun x hx => ?_⟩, hl', ?_⟩
  · obtain ⟨y, hy, rfl⟩ := List.mem_map.1 hx
    obtain ⟨i, _, rfl⟩ := List.mem_map.1 hy
    have := mk_lt (4 * n) (arrF n a b c d i)
    rw [hl']
    exact ⟨by omega, by exact_mod_cast this⟩
  · unfold nats
    rw [List.map_map]
    exact (List.map_congr_left fun x _ => by simp).trans (List.map_id _)
set_option maxHeartbeats 400000 in
theorem sfour_bad (m a b c d : Int) (w : World) (hs : seqsI m a b c d = false) :
    Calls Try.prog 14 #[.int .i64 m, arr4 a b c d] w fun e w' => e = .returned (.bool true) ∧ Below w.heap.size w w' := by
  have HG := Lib.hid (fun w => Good_any m a b c d w)
  have HAw := Lib.hid (fun w => awake_any w)
  have H1 : Hid (∀ w e w', GoodPost w m a b c d e w' → e = .returned (.tuple #[.bool false, .int .i64 2]) ∧ Below w.heap.size w w') := fun w e w' h => by unfold GoodPost at h; rw [if_neg (by rw [hs]; simp)] at h; exact h
  go_enter Try.func14, Try.ntmps14
  go_wp2_with fail
  refine (HG.out _).mono ?_
  intro e w1 hq
  obtain ⟨rfl, hb1⟩ := H1.out _ _ _ hq
  have HB1 : Hid (Below w.heap.size w w1) := Lib.hid (((Below.refl w.heap.size w).alloc (Nat.le_refl _) _).trans (hb1.mono (by simp)))
  clear hq hb1
  go_wp2_with fail
  refine (HAw.out _).mono ?_
  rintro e w2 ⟨rfl, hb⟩
  have HB2 := Lib.hid (HB1.out.trans (hb.mono HB1.out.size))
  clear hb
  go_wp2_with fail
  go_ret
  exact ⟨rfl, HB2.out⟩

set_option maxHeartbeats 2000000 in
set_option maxRecDepth 100000 in
theorem sfour_no (n x0 x1 x2 x3 : Nat) (w : World) (hn : n = 1 ∨ n = 3) (hx : ∀ q, selN x0 x1 x2 x3 q < 2 ^ n ∧ symA n (selN x0 x1 x2 x3 q) n = true ∧ selN x0 x1 x2 x3 q < 65536)  (hs : seqsI n x0 x1 x2 x3 = true) (hg : goodB n x0 x1 x2 x3 = false) :
    Calls Try.prog 14 #[.int .i64 n, arr4 x0 x1 x2 x3] w fun e w' => e = .returned (.bool true) ∧ Below w.heap.size w w' := by
  have hn1 : 1 ≤ n ∧ n ≤ 5 := by omega
  have HG := Lib.hid (fun w => Good_any n x0 x1 x2 x3 w)
  have HA := Lib.hid (fun w => Array_any n x0 x1 x2 x3 w)
  have HAw := Lib.hid (fun w => awake_any w)
  have H1 : Hid (∀ w e w', GoodPost w n x0 x1 x2 x3 e w' → e = .returned (.tuple #[.bool false, .int .i64 0]) ∧ Below w.heap.size w w') := fun w e w' h => by
    unfold GoodPost at h; rw [if_pos hs] at h
    simp only [Int.toNat_natCast] at h
    rw [hg] at h; exact h
  have H2 : Hid (∀ w e w', ArrPost w n x0 x1 x2 x3 e w' → ∃ v, e = .returned (.tuple #[v, .int .i64 0]) ∧ Nats w' v (arrL n x0 x1 x2 x3) ∧ Below w.heap.size w w') := fun w e w' h => by
    unfold ArrPost at h; rw [if_pos hs, if_pos (by omega)] at h
    obtain ⟨⟨v, he, hv⟩, hb⟩ := h
    exact ⟨v, he, hv, hb⟩
  have HBal : Hid (∀ v W, Nats W v (arrL n x0 x1 x2 x3) → Calls Try.prog 17 #[v] W fun e w' => e = .returned (.tuple #[.bool false, .int .i64 0]) ∧ W = w') := Lib.hid (fun v W h => (Balanced_any v _ W h).mono fun e w' hh => by
    obtain ⟨h1, h2, h3⟩ := arr_mat (a := x0) (b := x1) (c := x2) (d := x3) hn1.1 (show n ≤ 4 by omega)
    unfold BalPost at hh
    rw [if_pos h1, h2, h3, bal_good (a := x0) (b := x1) (c := x2) (d := x3) hn (mem_seqL (hx 0).1 (hx 0).2.1) (mem_seqL (hx 1).1 (hx 1).2.1) (mem_seqL (hx 2).1 (hx 2).2.1) (mem_seqL (hx 3).1 (hx 3).2.1), hg] at hh
    exact hh)
  obtain ⟨W1, hW1⟩ : ∃ W1, W1 = w.alloc (.cells #[.int .i64 x0, .int .i64 x1, .int .i64 x2, .int .i64 x3] 43) := ⟨_, rfl⟩
  have hz : W1.heap.size = w.heap.size + 1 := by rw [hW1]; simp
  have HC : Hid (∀ w', Below (w.heap.size + 1) W1 w' → A4 w' w.heap.size x0 x1 x2 x3) := fun w' hb => by
    have h : A4 W1 w.heap.size x0 x1 x2 x3 := by rw [hW1]; exact A4.new w x0 x1 x2 x3 43
    exact h.below hb
  have HE : Hid (∀ w', Below (w.heap.size + 1) W1 w' → Below w.heap.size w w') := fun w' hb => by
    have h : Below w.heap.size w W1 := by rw [hW1]; exact (Below.refl w.heap.size w).alloc (Nat.le_refl _) _
    exact h.trans (hb.mono (by omega))
  have HB0 := Lib.hid (Below.refl (w.heap.size + 1) W1)
  have HW1 := Lib.hid hW1
  have HZ := Lib.hid hz
  have HM : Hid (∀ {w1 w2 : World}, Below (w.heap.size + 1) W1 w1 → Below w1.heap.size w1 w2 → Below (w.heap.size + 1) W1 w2) := fun h1 h2 => h1.trans (h2.mono (by have := h1.size; omega))
  clear hs hW1 hz hx hg
  go_enter Try.func14, Try.ntmps14
  go_wp2_with fail
  try rw [← HW1.out]
  obtain ⟨c0, c1, c2, c3⟩ := HC.out _ HB0.out
  go_wp2_with fail
  refine (HG.out _).mono ?_
  intro e w1 hq
  obtain ⟨rfl, hb1⟩ := H1.out _ _ _ hq
  have HB1 := Lib.hid (HM.out HB0.out hb1)
  clear hq hb1 c0 c1 c2 c3
  obtain ⟨c0, c1, c2, c3⟩ := HC.out _ HB1.out
  go_wp2_with fail
  refine (HA.out _).mono ?_
  intro e w2 hq
  obtain ⟨v, rfl, hv, hb2⟩ := H2.out _ _ _ hq
  have HV := Lib.hid hv
  clear hv
  have HB2 := Lib.hid (HM.out HB1.out hb2)
  clear hq hb2 c0 c1 c2 c3
  obtain ⟨c0, c1, c2, c3⟩ := HC.out _ HB2.out
  go_wp2_with fail
  refine (HBal.out v _ HV.out).mono ?_
  rintro e w2' ⟨rfl, rfl⟩
  clear HBal HV
  have HBq : Hid (Below w2.heap.size w2 (w2.alloc (.cells #[.int .i64 0, .int .i64 0, .int .i64 0, .int .i64 0] 43))) := Lib.hid ((Below.refl _ _).alloc (Nat.le_refl _) _)
  have e0 := ck c0 HBq.out
  have e1 := ck c1 HBq.out
  have e2 := ck c2 HBq.out
  have e3 := ck c3 HBq.out
  go_wp2_with fail
  refine (HAw.out _).mono ?_
  rintro e w3 ⟨rfl, hb⟩
  have HB3 := Lib.hid (HM.out HB2.out hb)
  clear hb
  go_wp2_with fail
  go_ret
  exact ⟨rfl, HE.out _ HB3.out⟩

set_option maxHeartbeats 2000000 in
set_option maxRecDepth 100000 in
theorem sfour_no5 (n x0 x1 x2 x3 : Nat) (w : World) (hn : n = 5) (hs : seqsI n x0 x1 x2 x3 = true) (hg : goodB n x0 x1 x2 x3 = false) :
    Calls Try.prog 14 #[.int .i64 n, arr4 x0 x1 x2 x3] w fun e w' => e = .returned (.bool true) ∧ Below w.heap.size w w' := by
  have hn1 : 1 ≤ n ∧ n ≤ 5 := by omega
  have HG := Lib.hid (fun w => Good_any n x0 x1 x2 x3 w)
  have HA := Lib.hid (fun w => Array_any n x0 x1 x2 x3 w)
  have HAw := Lib.hid (fun w => awake_any w)
  have H1 : Hid (∀ w e w', GoodPost w n x0 x1 x2 x3 e w' → e = .returned (.tuple #[.bool false, .int .i64 0]) ∧ Below w.heap.size w w') := fun w e w' h => by
    unfold GoodPost at h; rw [if_pos hs] at h
    simp only [Int.toNat_natCast] at h
    rw [hg] at h; exact h
  have H2 : Hid (∀ w e w', ArrPost w n x0 x1 x2 x3 e w' → e = .returned (.tuple #[.slice none 0 0, .int .i64 6]) ∧ Below w.heap.size w w') := fun w e w' h => by
    have h4 : ¬ ((n : Int) ≤ 4) := by omega
    unfold ArrPost at h; rw [if_pos hs, if_neg h4] at h
    exact h
  obtain ⟨W1, hW1⟩ : ∃ W1, W1 = w.alloc (.cells #[.int .i64 x0, .int .i64 x1, .int .i64 x2, .int .i64 x3] 43) := ⟨_, rfl⟩
  have hz : W1.heap.size = w.heap.size + 1 := by rw [hW1]; simp
  have HC : Hid (∀ w', Below (w.heap.size + 1) W1 w' → A4 w' w.heap.size x0 x1 x2 x3) := fun w' hb => by
    have h : A4 W1 w.heap.size x0 x1 x2 x3 := by rw [hW1]; exact A4.new w x0 x1 x2 x3 43
    exact h.below hb
  have HE : Hid (∀ w', Below (w.heap.size + 1) W1 w' → Below w.heap.size w w') := fun w' hb => by
    have h : Below w.heap.size w W1 := by rw [hW1]; exact (Below.refl w.heap.size w).alloc (Nat.le_refl _) _
    exact h.trans (hb.mono (by omega))
  have HB0 := Lib.hid (Below.refl (w.heap.size + 1) W1)
  have HW1 := Lib.hid hW1
  have HZ := Lib.hid hz
  have HM : Hid (∀ {w1 w2 : World}, Below (w.heap.size + 1) W1 w1 → Below w1.heap.size w1 w2 → Below (w.heap.size + 1) W1 w2) := fun h1 h2 => h1.trans (h2.mono (by have := h1.size; omega))
  clear hs hW1 hz  hg
  have h45 : 4 < n := by omega
  clear hn
  go_enter Try.func14, Try.ntmps14
  go_wp2_with fail
  try rw [← HW1.out]
  obtain ⟨c0, c1, c2, c3⟩ := HC.out _ HB0.out
  go_wp2_with fail
  refine (HG.out _).mono ?_
  intro e w1 hq
  obtain ⟨rfl, hb1⟩ := H1.out _ _ _ hq
  have HB1 := Lib.hid (HM.out HB0.out hb1)
  clear hq hb1 c0 c1 c2 c3
  obtain ⟨c0, c1, c2, c3⟩ := HC.out _ HB1.out
  go_wp2_with fail
  refine (HA.out _).mono ?_
  intro e w2 hq
  obtain ⟨rfl, hb2⟩ := H2.out _ _ _ hq
  have HB2 := Lib.hid (HM.out HB1.out hb2)
  clear hq hb2 c0 c1 c2 c3
  obtain ⟨c0, c1, c2, c3⟩ := HC.out _ HB2.out
  have HBq : Hid (Below w2.heap.size w2 (w2.alloc (.cells #[.int .i64 0, .int .i64 0, .int .i64 0, .int .i64 0] 43))) := Lib.hid ((Below.refl _ _).alloc (Nat.le_refl _) _)
  have e0 := ck c0 HBq.out
  have e1 := ck c1 HBq.out
  have e2 := ck c2 HBq.out
  have e3 := ck c3 HBq.out
  go_wp2_with fail
  refine (HAw.out _).mono ?_
  rintro e w3 ⟨rfl, hb⟩
  have HB3 := Lib.hid (HM.out HB2.out hb)
  clear hb
  go_wp2_with fail
  go_ret
  exact ⟨rfl, HE.out _ HB3.out⟩

set_option maxHeartbeats 2000000 in
set_option maxRecDepth 100000 in
theorem sfour_yes (n x0 x1 x2 x3 : Nat) (w : World) (hn : n = 1 ∨ n = 3) (hx : ∀ q, selN x0 x1 x2 x3 q < 2 ^ n ∧ symA n (selN x0 x1 x2 x3 q) n = true ∧ selN x0 x1 x2 x3 q < 65536)  (hs : seqsI n x0 x1 x2 x3 = true) (hg : goodB n x0 x1 x2 x3 = true) :
    Calls Try.prog 14 #[.int .i64 n, arr4 x0 x1 x2 x3] w fun e w' => e = .returned (.bool true) ∧ Below w.heap.size w w' := by
  have hn1 : 1 ≤ n ∧ n ≤ 5 := by omega
  have HG := Lib.hid (fun w => Good_any n x0 x1 x2 x3 w)
  have HA := Lib.hid (fun w => Array_any n x0 x1 x2 x3 w)
  have HAw := Lib.hid (fun w => awake_any w)
  have H1 : Hid (∀ w e w', GoodPost w n x0 x1 x2 x3 e w' → e = .returned (.tuple #[.bool true, .int .i64 0]) ∧ Below w.heap.size w w') := fun w e w' h => by
    unfold GoodPost at h; rw [if_pos hs] at h
    simp only [Int.toNat_natCast] at h
    rw [hg] at h; exact h
  have H2 : Hid (∀ w e w', ArrPost w n x0 x1 x2 x3 e w' → ∃ v, e = .returned (.tuple #[v, .int .i64 0]) ∧ Nats w' v (arrL n x0 x1 x2 x3) ∧ Below w.heap.size w w') := fun w e w' h => by
    unfold ArrPost at h; rw [if_pos hs, if_pos (by omega)] at h
    obtain ⟨⟨v, he, hv⟩, hb⟩ := h
    exact ⟨v, he, hv, hb⟩
  have HBal : Hid (∀ v W, Nats W v (arrL n x0 x1 x2 x3) → Calls Try.prog 17 #[v] W fun e w' => e = .returned (.tuple #[.bool true, .int .i64 0]) ∧ W = w') := Lib.hid (fun v W h => (Balanced_any v _ W h).mono fun e w' hh => by
    obtain ⟨h1, h2, h3⟩ := arr_mat (a := x0) (b := x1) (c := x2) (d := x3) hn1.1 (show n ≤ 4 by omega)
    unfold BalPost at hh
    rw [if_pos h1, h2, h3, bal_good (a := x0) (b := x1) (c := x2) (d := x3) hn (mem_seqL (hx 0).1 (hx 0).2.1) (mem_seqL (hx 1).1 (hx 1).2.1) (mem_seqL (hx 2).1 (hx 2).2.1) (mem_seqL (hx 3).1 (hx 3).2.1), hg] at hh
    exact hh)
  have HSz : Hid (∀ k, k < 4 → ∀ W, Calls Try.prog 56 #[.int .i64 (selN x0 x1 x2 x3 k : Nat)] W fun e w' => e = .returned (.int .i64 (pop n (selN x0 x1 x2 x3 k) : Nat)) ∧ W = w') := Lib.hid (fun k _ W => size_n W (by omega) (hx k).1)
  have HIx : Hid (∀ k, k < 4 → ∀ W, (Instr.index 43 (.agg #[.int .i64 (x0 : Nat), .int .i64 (x1 : Nat), .int .i64 (x2 : Nat), .int .i64 (x3 : Nat)]) (.int .i64 (k : Nat))).run Try.prog W = .ok (.int .i64 (selN x0 x1 x2 x3 k : Nat)) W) := Lib.hid (fun k hk W => by rw [← sel_cast]; exact idx4 x0 x1 x2 x3 k hk W)
  obtain ⟨hsum, hmem⟩ := good_sums (a := x0) (b := x1) (c := x2) (d := x3) (show n = 1 ∨ n = 3 ∨ n = 5 by omega) (mem_seqL (hx 0).1 (hx 0).2.1) (mem_seqL (hx 1).1 (hx 1).2.1) (mem_seqL (hx 2).1 (hx 2).2.1) (mem_seqL (hx 3).1 (hx 3).2.1) hg
  have HSum : Hid (sqS n x0 x1 x2 x3 4 = 4 * n) := Lib.hid (by
    rw [← hsum]; simp [sqS, selN])
  have HMem := Lib.hid hmem
  have HNl := Lib.hid (fun k => nrm_le (m := n) (x := selN x0 x1 x2 x3 k) hn1.2)
  have HSq := Lib.hid (fun k => sqS_le (m := n) (a := x0) (b := x1) (c := x2) (d := x3) (fun k => nrm_le hn1.2) k)
  have HPl := Lib.hid (fun k => pop_le n (selN x0 x1 x2 x3 k))
  have HFo := Lib.hid (fun W => Four_ok n hn1.1 (by omega) W)
  have HF4 := Lib.hid (fourL_four hn1.1 (show n ≤ 100 by omega))
  have HFl := Lib.hid (fourL_len hn1.1 (show n ≤ 100 by omega))
  clear hsum hmem
  obtain ⟨W1, hW1⟩ : ∃ W1, W1 = w.alloc (.cells #[.int .i64 x0, .int .i64 x1, .int .i64 x2, .int .i64 x3] 43) := ⟨_, rfl⟩
  have hz : W1.heap.size = w.heap.size + 1 := by rw [hW1]; simp
  have HC : Hid (∀ w', Below (w.heap.size + 1) W1 w' → A4 w' w.heap.size x0 x1 x2 x3) := fun w' hb => by
    have h : A4 W1 w.heap.size x0 x1 x2 x3 := by rw [hW1]; exact A4.new w x0 x1 x2 x3 43
    exact h.below hb
  have HE : Hid (∀ w', Below (w.heap.size + 1) W1 w' → Below w.heap.size w w') := fun w' hb => by
    have h : Below w.heap.size w W1 := by rw [hW1]; exact (Below.refl w.heap.size w).alloc (Nat.le_refl _) _
    exact h.trans (hb.mono (by omega))
  have HB0 := Lib.hid (Below.refl (w.heap.size + 1) W1)
  have HW1 := Lib.hid hW1
  have HZ := Lib.hid hz
  have HM : Hid (∀ {w1 w2 : World}, Below (w.heap.size + 1) W1 w1 → Below w1.heap.size w1 w2 → Below (w.heap.size + 1) W1 w2) := fun h1 h2 => h1.trans (h2.mono (by have := h1.size; omega))
  clear hs hW1 hz hx hg
  go_enter Try.func14, Try.ntmps14
  go_wp2_with fail
  try rw [← HW1.out]
  obtain ⟨c0, c1, c2, c3⟩ := HC.out _ HB0.out
  go_wp2_with fail
  refine (HG.out _).mono ?_
  intro e w1 hq
  obtain ⟨rfl, hb1⟩ := H1.out _ _ _ hq
  have HB1 := Lib.hid (HM.out HB0.out hb1)
  clear hq hb1 c0 c1 c2 c3
  obtain ⟨c0, c1, c2, c3⟩ := HC.out _ HB1.out
  go_wp2_with fail
  refine (HA.out _).mono ?_
  intro e w2 hq
  obtain ⟨v, rfl, hv, hb2⟩ := H2.out _ _ _ hq
  have HV := Lib.hid hv
  clear hv
  have HB2 := Lib.hid (HM.out HB1.out hb2)
  clear hq hb2 c0 c1 c2 c3
  obtain ⟨c0, c1, c2, c3⟩ := HC.out _ HB2.out
  go_wp2_with fail
  refine (HBal.out v _ HV.out).mono ?_
  rintro e w2' ⟨rfl, rfl⟩
  clear HBal HV
  have HBq : Hid (Below w2.heap.size w2 (w2.alloc (.cells #[.int .i64 0, .int .i64 0, .int .i64 0, .int .i64 0] 43))) := Lib.hid ((Below.refl _ _).alloc (Nat.le_refl _) _)
  have e0 := ck c0 HBq.out
  have e1 := ck c1 HBq.out
  have e2 := ck c2 HBq.out
  have e3 := ck c3 HBq.out
  go_wp2_with fail
  have HQ0 : Hid (Blk 43 (w2.alloc (.cells #[.int .i64 0, .int .i64 0, .int .i64 0, .int .i64 0] 43)) w2.heap.size (fourV fun _ => 0)) := Lib.hid (Blk.new 43 w2 (fourV fun _ => 0))
  clear c0 c1 c2 c3 e0 e1 e2 e3
  go_loopw [60, 12] (fun i a wr => ∃ (k : Nat) (q : Nat → Int), k ≤ 4 ∧ i = .int .i64 (k : Nat) ∧ a = .int .i64 (sqS n x0 x1 x2 x3 k : Nat) ∧ Blk 43 wr w2.heap.size (fourV q) ∧ (∀ j, j < k → q j = (nrm n (selN x0 x1 x2 x3 j) : Nat)) ∧ Below w2.heap.size w2 wr) (fun i _ _ => 4 - (intOf i).toNat)
  case atStart => exact ⟨0, fun _ => 0, Nat.zero_le _, rfl, rfl, HQ0.out, fun j hj => absurd hj (Nat.not_lt_zero _), HBq.out⟩
  case round =>
    clear HQ0 HBq
    obtain ⟨k, q, hk, rfl, rfl, hQ, hq, hb⟩ := hrel
    have HQ := Lib.hid hQ
    have HQq := Lib.hid hq
    have HB := Lib.hid hb
    clear hQ hq hb
    have hsq := HSq.out k
    by_cases hlt : k < 4
    · have hix := HIx.out k hlt
      have HSk := Lib.hid (HSz.out k hlt)
      have hpk := HPl.out k
      have hnk := HNl.out k
      have hN : ∀ D : Int, D = (n : Int) - 2 * (pop n (selN x0 x1 x2 x3 k) : Nat) → max D (-D) = (nrm n (selN x0 x1 x2 x3 k) : Nat) ∧ D * D = (nrm n (selN x0 x1 x2 x3 k) * nrm n (selN x0 x1 x2 x3 k) : Nat) ∧ -5 ≤ D ∧ D ≤ 5 := fun D hD => by
        refine ⟨by unfold nrm; rw [← hD]; omega, ?_, by omega, by omega⟩
        unfold nrm
        rw [← hD]
        exact_mod_cast Int.natAbs_mul_self.symm
      have HS : Hid (sqS n x0 x1 x2 x3 (k + 1) = sqS n x0 x1 x2 x3 k + nrm n (selN x0 x1 x2 x3 k) * nrm n (selN x0 x1 x2 x3 k)) := Lib.hid rfl
      have hM25 : nrm n (selN x0 x1 x2 x3 k) * nrm n (selN x0 x1 x2 x3 k) ≤ 25 := Nat.mul_le_mul hnk hnk
      have t0 : w2.heap.size < (w2.heap.size + 1) := Nat.lt_succ_self _
      have q1 : ∀ W, Blk 43 W w2.heap.size (fourV q) → W.cell? ⟨w2.heap.size, k, none⟩ = some (.int .i64 (q k)) := fun W h => by rw [h.cell, fourV_get q k hlt]
      have Q1 := Lib.hid (q1 _ HQ.out)
      have Q2 := Lib.hid (HQ.out.fr k)
      have HQn : Hid (Blk 43 (World.setCell _ ⟨w2.heap.size, k, none⟩ (.int .i64 (nrm n (selN x0 x1 x2 x3 k) : Nat))) w2.heap.size (fourV fun i => if i = k then ((nrm n (selN x0 x1 x2 x3 k) : Nat) : Int) else q i)) := Lib.hid (by rw [← fourV_set q _ k hlt]; exact HQ.out.set k _)
      have HQqn : Hid (∀ j, j < k + 1 → (fun i => if i = k then ((nrm n (selN x0 x1 x2 x3 k) : Nat) : Int) else q i) j = (nrm n (selN x0 x1 x2 x3 j) : Nat)) := Lib.hid (fun j hj => by
        by_cases e : j = k
        · subst e; simp
        · simp only [if_neg e]; exact HQq.out j (by omega))
      have HBn := Lib.hid (below_set HB.out (a := ⟨w2.heap.size, k, none⟩) (Nat.le_refl _) (.int .i64 (nrm n (selN x0 x1 x2 x3 k) : Nat)))
      obtain ⟨D, hD⟩ : ∃ D : Int, (n : Int) - 2 * (pop n (selN x0 x1 x2 x3 k) : Nat) = D := ⟨_, rfl⟩
      obtain ⟨hmx, hmul, hD1, hD2⟩ := hN D hD.symm
      clear hN q1 t0
      generalize pop n (selN x0 x1 x2 x3 k) = P at *
      generalize selN x0 x1 x2 x3 k = X at *
      generalize hMM : nrm n X * nrm n X = MM at *
      generalize nrm n X = NX at *
      generalize sqS n x0 x1 x2 x3 k = SQ at *
      clear hMM
      have d1 := Q1.out
      have d2 := Q2.out
      go_wp2_with fail
      refine (HSk.out _).mono ?_
      rintro e w5 ⟨rfl, rfl⟩
      go_wp2_with fail
      go_roundw
      case rel => exact ⟨k + 1, _, by omega, by go_num, by rw [HS.out]; go_num, HQn.out, HQqn.out, HBn.out⟩
      case measure => (first | (simp [intOf]; done) | (simp [intOf]; omega))
    · have hk4 : k = 4 := by omega
      subst hk4
      rw [HSum.out]
      have e0 := HQq.out 0 (by omega)
      have e1 := HQq.out 1 (by omega)
      have e2 := HQq.out 2 (by omega)
      have e3 := HQq.out 3 (by omega)
      obtain ⟨Y, hY⟩ : ∃ Y, Y = srtN [nrm n x0, nrm n x1, nrm n x2, nrm n x3] := ⟨_, rfl⟩
      have hYl : Y.length = 4 := by rw [hY]; exact (srtN_perm _).length_eq
      rw [← hY] at HMem
      have hq4 : [q 0, q 1, q 2, q 3] = nats [nrm n x0, nrm n x1, nrm n x2, nrm n x3] := by rw [e0, e1, e2, e3]; rfl
      have hSo := (sort4_any q w2.heap.size _ HQ.out)
      rw [hq4, sort_srt, ← hY] at hSo
      have HSo := Lib.hid hSo
      obtain ⟨y0, y1, y2, y3, rfl⟩ : ∃ y0 y1 y2 y3, Y = [y0, y1, y2, y3] := by
        match Y, hYl with
        | [a, b, c, d], _ => exact ⟨a, b, c, d, rfl⟩
      clear hSo hq4 e0 e1 e2 e3 hY hYl hsq HSq HSum HNl HPl HSz HIx
      go_wp2_with fail
      refine HSo.out.mono ?_
      rintro e w6 ⟨rfl, ⟨z, hz, hbz⟩, hg6⟩
      subst hz
      have HZ6 : Hid (Blk 43 w6 w2.heap.size #[.int .i64 (y0 : Nat), .int .i64 (y1 : Nat), .int .i64 (y2 : Nat), .int .i64 (y3 : Nat)]) := Lib.hid hbz
      have HB6 : Hid (Below (w.heap.size + 1) W1 w6) := Lib.hid (by
        have h9 : Below w2.heap.size w2 w6 := HB.out.trans ⟨hg6.os, hg6.tape, hg6.output, hg6.size, fun k hk => hg6.block k (Nat.lt_of_lt_of_le hk HB.out.size) (by simp; omega)⟩
        exact HM.out HB2.out h9)
      clear hbz hg6 HSo HQ HQq HB
      go_wp2_with fail
      refine (HFo.out _).mono ?_
      rintro e w7 ⟨v7, rfl, hv7, hb7⟩
      have HR7 := Lib.hid (hv7.read HF4.out (by have := HFl.out; omega))
      have HZ7 := Lib.hid (HZ6.out.below hb7)
      have HB7 := Lib.hid (HM.out HB6.out hb7)
      clear hv7 hb7 HZ6 HFo
      have HCt := Lib.hid (contains4_any v7 (fourL n) y0 y1 y2 y3 _ HR7.out ⟨_, HMem.out, rfl⟩)
      unfold qv at HCt
      have d0 : w7.cell? ⟨w2.heap.size, 0, none⟩ = some (.int .i64 (y0 : Nat)) := HZ7.out.cell 0
      have d1 : w7.cell? ⟨w2.heap.size, 1, none⟩ = some (.int .i64 (y1 : Nat)) := HZ7.out.cell 1
      have d2 : w7.cell? ⟨w2.heap.size, 2, none⟩ = some (.int .i64 (y2 : Nat)) := HZ7.out.cell 2
      have d3 : w7.cell? ⟨w2.heap.size, 3, none⟩ = some (.int .i64 (y3 : Nat)) := HZ7.out.cell 3
      have hq4 : (((4 * n : Nat) : Int) == 4 * (n : Int)) = true := beq_iff_eq.2 (by omega)
      go_wp2_with fail
      clear d0 d1 d2 d3
      refine HCt.out.mono ?_
      rintro e w8 ⟨rfl, hb8⟩
      have HB8 := Lib.hid (HM.out HB7.out hb8)
      clear hb8
      go_wp2_with fail
      refine (HAw.out _).mono ?_
      rintro e w9 ⟨rfl, hb9⟩
      have HB9 := Lib.hid (HM.out HB8.out hb9)
      clear hb9
      go_wp2_with fail
      go_ret
      exact ⟨rfl, HE.out _ HB9.out⟩

set_option maxHeartbeats 2000000 in
set_option maxRecDepth 100000 in
theorem sfour_yes5 (n x0 x1 x2 x3 : Nat) (w : World) (hn : n = 5) (hx : ∀ q, selN x0 x1 x2 x3 q < 2 ^ n ∧ symA n (selN x0 x1 x2 x3 q) n = true ∧ selN x0 x1 x2 x3 q < 65536)  (hs : seqsI n x0 x1 x2 x3 = true) (hg : goodB n x0 x1 x2 x3 = true) :
    Calls Try.prog 14 #[.int .i64 n, arr4 x0 x1 x2 x3] w fun e w' => e = .returned (.bool true) ∧ Below w.heap.size w w' := by
  have hn1 : 1 ≤ n ∧ n ≤ 5 := by omega
  have HG := Lib.hid (fun w => Good_any n x0 x1 x2 x3 w)
  have HA := Lib.hid (fun w => Array_any n x0 x1 x2 x3 w)
  have HAw := Lib.hid (fun w => awake_any w)
  have H1 : Hid (∀ w e w', GoodPost w n x0 x1 x2 x3 e w' → e = .returned (.tuple #[.bool true, .int .i64 0]) ∧ Below w.heap.size w w') := fun w e w' h => by
    unfold GoodPost at h; rw [if_pos hs] at h
    simp only [Int.toNat_natCast] at h
    rw [hg] at h; exact h
  have H2 : Hid (∀ w e w', ArrPost w n x0 x1 x2 x3 e w' → e = .returned (.tuple #[.slice none 0 0, .int .i64 6]) ∧ Below w.heap.size w w') := fun w e w' h => by
    have h4 : ¬ ((n : Int) ≤ 4) := by omega
    unfold ArrPost at h; rw [if_pos hs, if_neg h4] at h
    exact h
  have HSz : Hid (∀ k, k < 4 → ∀ W, Calls Try.prog 56 #[.int .i64 (selN x0 x1 x2 x3 k : Nat)] W fun e w' => e = .returned (.int .i64 (pop n (selN x0 x1 x2 x3 k) : Nat)) ∧ W = w') := Lib.hid (fun k _ W => size_n W (by omega) (hx k).1)
  have HIx : Hid (∀ k, k < 4 → ∀ W, (Instr.index 43 (.agg #[.int .i64 (x0 : Nat), .int .i64 (x1 : Nat), .int .i64 (x2 : Nat), .int .i64 (x3 : Nat)]) (.int .i64 (k : Nat))).run Try.prog W = .ok (.int .i64 (selN x0 x1 x2 x3 k : Nat)) W) := Lib.hid (fun k hk W => by rw [← sel_cast]; exact idx4 x0 x1 x2 x3 k hk W)
  obtain ⟨hsum, hmem⟩ := good_sums (a := x0) (b := x1) (c := x2) (d := x3) (show n = 1 ∨ n = 3 ∨ n = 5 by omega) (mem_seqL (hx 0).1 (hx 0).2.1) (mem_seqL (hx 1).1 (hx 1).2.1) (mem_seqL (hx 2).1 (hx 2).2.1) (mem_seqL (hx 3).1 (hx 3).2.1) hg
  have HSum : Hid (sqS n x0 x1 x2 x3 4 = 4 * n) := Lib.hid (by
    rw [← hsum]; simp [sqS, selN])
  have HMem := Lib.hid hmem
  have HNl := Lib.hid (fun k => nrm_le (m := n) (x := selN x0 x1 x2 x3 k) hn1.2)
  have HSq := Lib.hid (fun k => sqS_le (m := n) (a := x0) (b := x1) (c := x2) (d := x3) (fun k => nrm_le hn1.2) k)
  have HPl := Lib.hid (fun k => pop_le n (selN x0 x1 x2 x3 k))
  have HFo := Lib.hid (fun W => Four_ok n hn1.1 (by omega) W)
  have HF4 := Lib.hid (fourL_four hn1.1 (show n ≤ 100 by omega))
  have HFl := Lib.hid (fourL_len hn1.1 (show n ≤ 100 by omega))
  clear hsum hmem
  obtain ⟨W1, hW1⟩ : ∃ W1, W1 = w.alloc (.cells #[.int .i64 x0, .int .i64 x1, .int .i64 x2, .int .i64 x3] 43) := ⟨_, rfl⟩
  have hz : W1.heap.size = w.heap.size + 1 := by rw [hW1]; simp
  have HC : Hid (∀ w', Below (w.heap.size + 1) W1 w' → A4 w' w.heap.size x0 x1 x2 x3) := fun w' hb => by
    have h : A4 W1 w.heap.size x0 x1 x2 x3 := by rw [hW1]; exact A4.new w x0 x1 x2 x3 43
    exact h.below hb
  have HE : Hid (∀ w', Below (w.heap.size + 1) W1 w' → Below w.heap.size w w') := fun w' hb => by
    have h : Below w.heap.size w W1 := by rw [hW1]; exact (Below.refl w.heap.size w).alloc (Nat.le_refl _) _
    exact h.trans (hb.mono (by omega))
  have HB0 := Lib.hid (Below.refl (w.heap.size + 1) W1)
  have HW1 := Lib.hid hW1
  have HZ := Lib.hid hz
  have HM : Hid (∀ {w1 w2 : World}, Below (w.heap.size + 1) W1 w1 → Below w1.heap.size w1 w2 → Below (w.heap.size + 1) W1 w2) := fun h1 h2 => h1.trans (h2.mono (by have := h1.size; omega))
  clear hs hW1 hz hx hg
  have h45 : 4 < n := by omega
  clear hn
  go_enter Try.func14, Try.ntmps14
  go_wp2_with fail
  try rw [← HW1.out]
  obtain ⟨c0, c1, c2, c3⟩ := HC.out _ HB0.out
  go_wp2_with fail
  refine (HG.out _).mono ?_
  intro e w1 hq
  obtain ⟨rfl, hb1⟩ := H1.out _ _ _ hq
  have HB1 := Lib.hid (HM.out HB0.out hb1)
  clear hq hb1 c0 c1 c2 c3
  obtain ⟨c0, c1, c2, c3⟩ := HC.out _ HB1.out
  go_wp2_with fail
  refine (HA.out _).mono ?_
  intro e w2 hq
  obtain ⟨rfl, hb2⟩ := H2.out _ _ _ hq
  have HB2 := Lib.hid (HM.out HB1.out hb2)
  clear hq hb2 c0 c1 c2 c3
  obtain ⟨c0, c1, c2, c3⟩ := HC.out _ HB2.out
  have HBq : Hid (Below w2.heap.size w2 (w2.alloc (.cells #[.int .i64 0, .int .i64 0, .int .i64 0, .int .i64 0] 43))) := Lib.hid ((Below.refl _ _).alloc (Nat.le_refl _) _)
  have e0 := ck c0 HBq.out
  have e1 := ck c1 HBq.out
  have e2 := ck c2 HBq.out
  have e3 := ck c3 HBq.out
  go_wp2_with fail
  have HQ0 : Hid (Blk 43 (w2.alloc (.cells #[.int .i64 0, .int .i64 0, .int .i64 0, .int .i64 0] 43)) w2.heap.size (fourV fun _ => 0)) := Lib.hid (Blk.new 43 w2 (fourV fun _ => 0))
  clear c0 c1 c2 c3 e0 e1 e2 e3
  go_loopw [60, 12] (fun i a wr => ∃ (k : Nat) (q : Nat → Int), k ≤ 4 ∧ i = .int .i64 (k : Nat) ∧ a = .int .i64 (sqS n x0 x1 x2 x3 k : Nat) ∧ Blk 43 wr w2.heap.size (fourV q) ∧ (∀ j, j < k → q j = (nrm n (selN x0 x1 x2 x3 j) : Nat)) ∧ Below w2.heap.size w2 wr) (fun i _ _ => 4 - (intOf i).toNat)
  case atStart => exact ⟨0, fun _ => 0, Nat.zero_le _, rfl, rfl, HQ0.out, fun j hj => absurd hj (Nat.not_lt_zero _), HBq.out⟩
  case round =>
    clear HQ0 HBq
    obtain ⟨k, q, hk, rfl, rfl, hQ, hq, hb⟩ := hrel
    have HQ := Lib.hid hQ
    have HQq := Lib.hid hq
    have HB := Lib.hid hb
    clear hQ hq hb
    have hsq := HSq.out k
    by_cases hlt : k < 4
    · have hix := HIx.out k hlt
      have HSk := Lib.hid (HSz.out k hlt)
      have hpk := HPl.out k
      have hnk := HNl.out k
      have hN : ∀ D : Int, D = (n : Int) - 2 * (pop n (selN x0 x1 x2 x3 k) : Nat) → max D (-D) = (nrm n (selN x0 x1 x2 x3 k) : Nat) ∧ D * D = (nrm n (selN x0 x1 x2 x3 k) * nrm n (selN x0 x1 x2 x3 k) : Nat) ∧ -5 ≤ D ∧ D ≤ 5 := fun D hD => by
        refine ⟨by unfold nrm; rw [← hD]; omega, ?_, by omega, by omega⟩
        unfold nrm
        rw [← hD]
        exact_mod_cast Int.natAbs_mul_self.symm
      have HS : Hid (sqS n x0 x1 x2 x3 (k + 1) = sqS n x0 x1 x2 x3 k + nrm n (selN x0 x1 x2 x3 k) * nrm n (selN x0 x1 x2 x3 k)) := Lib.hid rfl
      have hM25 : nrm n (selN x0 x1 x2 x3 k) * nrm n (selN x0 x1 x2 x3 k) ≤ 25 := Nat.mul_le_mul hnk hnk
      have t0 : w2.heap.size < (w2.heap.size + 1) := Nat.lt_succ_self _
      have q1 : ∀ W, Blk 43 W w2.heap.size (fourV q) → W.cell? ⟨w2.heap.size, k, none⟩ = some (.int .i64 (q k)) := fun W h => by rw [h.cell, fourV_get q k hlt]
      have Q1 := Lib.hid (q1 _ HQ.out)
      have Q2 := Lib.hid (HQ.out.fr k)
      have HQn : Hid (Blk 43 (World.setCell _ ⟨w2.heap.size, k, none⟩ (.int .i64 (nrm n (selN x0 x1 x2 x3 k) : Nat))) w2.heap.size (fourV fun i => if i = k then ((nrm n (selN x0 x1 x2 x3 k) : Nat) : Int) else q i)) := Lib.hid (by rw [← fourV_set q _ k hlt]; exact HQ.out.set k _)
      have HQqn : Hid (∀ j, j < k + 1 → (fun i => if i = k then ((nrm n (selN x0 x1 x2 x3 k) : Nat) : Int) else q i) j = (nrm n (selN x0 x1 x2 x3 j) : Nat)) := Lib.hid (fun j hj => by
        by_cases e : j = k
        · subst e; simp
        · simp only [if_neg e]; exact HQq.out j (by omega))
      have HBn := Lib.hid (below_set HB.out (a := ⟨w2.heap.size, k, none⟩) (Nat.le_refl _) (.int .i64 (nrm n (selN x0 x1 x2 x3 k) : Nat)))
      obtain ⟨D, hD⟩ : ∃ D : Int, (n : Int) - 2 * (pop n (selN x0 x1 x2 x3 k) : Nat) = D := ⟨_, rfl⟩
      obtain ⟨hmx, hmul, hD1, hD2⟩ := hN D hD.symm
      clear hN q1 t0
      generalize pop n (selN x0 x1 x2 x3 k) = P at *
      generalize selN x0 x1 x2 x3 k = X at *
      generalize hMM : nrm n X * nrm n X = MM at *
      generalize nrm n X = NX at *
      generalize sqS n x0 x1 x2 x3 k = SQ at *
      clear hMM
      have d1 := Q1.out
      have d2 := Q2.out
      go_wp2_with fail
      refine (HSk.out _).mono ?_
      rintro e w5 ⟨rfl, rfl⟩
      go_wp2_with fail
      go_roundw
      case rel => exact ⟨k + 1, _, by omega, by go_num, by rw [HS.out]; go_num, HQn.out, HQqn.out, HBn.out⟩
      case measure => (first | (simp [intOf]; done) | (simp [intOf]; omega))
    · have hk4 : k = 4 := by omega
      subst hk4
      rw [HSum.out]
      have e0 := HQq.out 0 (by omega)
      have e1 := HQq.out 1 (by omega)
      have e2 := HQq.out 2 (by omega)
      have e3 := HQq.out 3 (by omega)
      obtain ⟨Y, hY⟩ : ∃ Y, Y = srtN [nrm n x0, nrm n x1, nrm n x2, nrm n x3] := ⟨_, rfl⟩
      have hYl : Y.length = 4 := by rw [hY]; exact (srtN_perm _).length_eq
      rw [← hY] at HMem
      have hq4 : [q 0, q 1, q 2, q 3] = nats [nrm n x0, nrm n x1, nrm n x2, nrm n x3] := by rw [e0, e1, e2, e3]; rfl
      have hSo := (sort4_any q w2.heap.size _ HQ.out)
      rw [hq4, sort_srt, ← hY] at hSo
      have HSo := Lib.hid hSo
      obtain ⟨y0, y1, y2, y3, rfl⟩ : ∃ y0 y1 y2 y3, Y = [y0, y1, y2, y3] := by
        match Y, hYl with
        | [a, b, c, d], _ => exact ⟨a, b, c, d, rfl⟩
      clear hSo hq4 e0 e1 e2 e3 hY hYl hsq HSq HSum HNl HPl HSz HIx
      go_wp2_with fail
      refine HSo.out.mono ?_
      rintro e w6 ⟨rfl, ⟨z, hz, hbz⟩, hg6⟩
      subst hz
      have HZ6 : Hid (Blk 43 w6 w2.heap.size #[.int .i64 (y0 : Nat), .int .i64 (y1 : Nat), .int .i64 (y2 : Nat), .int .i64 (y3 : Nat)]) := Lib.hid hbz
      have HB6 : Hid (Below (w.heap.size + 1) W1 w6) := Lib.hid (by
        have h9 : Below w2.heap.size w2 w6 := HB.out.trans ⟨hg6.os, hg6.tape, hg6.output, hg6.size, fun k hk => hg6.block k (Nat.lt_of_lt_of_le hk HB.out.size) (by simp; omega)⟩
        exact HM.out HB2.out h9)
      clear hbz hg6 HSo HQ HQq HB
      go_wp2_with fail
      refine (HFo.out _).mono ?_
      rintro e w7 ⟨v7, rfl, hv7, hb7⟩
      have HR7 := Lib.hid (hv7.read HF4.out (by have := HFl.out; omega))
      have HZ7 := Lib.hid (HZ6.out.below hb7)
      have HB7 := Lib.hid (HM.out HB6.out hb7)
      clear hv7 hb7 HZ6 HFo
      have HCt := Lib.hid (contains4_any v7 (fourL n) y0 y1 y2 y3 _ HR7.out ⟨_, HMem.out, rfl⟩)
      unfold qv at HCt
      have d0 : w7.cell? ⟨w2.heap.size, 0, none⟩ = some (.int .i64 (y0 : Nat)) := HZ7.out.cell 0
      have d1 : w7.cell? ⟨w2.heap.size, 1, none⟩ = some (.int .i64 (y1 : Nat)) := HZ7.out.cell 1
      have d2 : w7.cell? ⟨w2.heap.size, 2, none⟩ = some (.int .i64 (y2 : Nat)) := HZ7.out.cell 2
      have d3 : w7.cell? ⟨w2.heap.size, 3, none⟩ = some (.int .i64 (y3 : Nat)) := HZ7.out.cell 3
      have hq4 : (((4 * n : Nat) : Int) == 4 * (n : Int)) = true := beq_iff_eq.2 (by omega)
      go_wp2_with fail
      clear d0 d1 d2 d3
      refine HCt.out.mono ?_
      rintro e w8 ⟨rfl, hb8⟩
      have HB8 := Lib.hid (HM.out HB7.out hb8)
      clear hb8
      go_wp2_with fail
      refine (HAw.out _).mono ?_
      rintro e w9 ⟨rfl, hb9⟩
      have HB9 := Lib.hid (HM.out HB8.out hb9)
      clear hb9
      go_wp2_with fail
      go_ret
      exact ⟨rfl, HE.out _ HB9.out⟩

/-- THE LAW SignsFour. -/
theorem signsFour_law (m a b c d : Int) (w : World) :
    Calls Try.prog 14 #[.int .i64 m, arr4 a b c d] w fun e w' => e = .returned (.bool true) ∧ Below w.heap.size w w' := by
  cases hs : seqsI m a b c d with
  | false => exact sfour_bad m a b c d w hs
  | true =>
    obtain ⟨n, x0, x1, x2, x3, rfl, hn, rfl, rfl, rfl, rfl, hx⟩ := seqsI_nat hs
    by_cases h5 : n = 5
    · cases hg : goodB n x0 x1 x2 x3 with
      | true => exact sfour_yes5 n x0 x1 x2 x3 w h5 hx hs hg
      | false => exact sfour_no5 n x0 x1 x2 x3 w h5 hs hg
    · cases hg : goodB n x0 x1 x2 x3 with
      | true => exact sfour_yes n x0 x1 x2 x3 w (by omega) hx hs hg
      | false => exact sfour_no n x0 x1 x2 x3 w (by omega) hx hs hg
end Go.Proofs.Ytopmdmafameknaa
