/- All, Counts of both sides -/
import Derived.Test.YtlnbodpdgebflaaEh
namespace Go.Proofs.Ytlnbodpdgebflaa
open Go.RowKit

set_option maxHeartbeats 400000 in
theorem All_bad (k n : Int) (w : World) (hb : Bad k n []) : Calls Try.prog 36 #[gV k n] w fun e w' => e = .returned (.tuple #[.slice none 0 0, .int .i64 2]) ∧ Below w.heap.size w w' := by
  have HO := Lib.hid (fun v W h => open_bad k n v [] W h (by simp) hb)
  clear hb
  go_enter Try.func36, Try.ntmps36
  go_wp2_with fail
  refine (HO.out _ _ ⟨[], ⟨none, 0, rfl, Nat.le_refl _, Nat.zero_le _, Nat.zero_le _, .inl rfl⟩, rfl, fun i u x hu hx => by simp at hu⟩).mono ?_
  rintro e w1 ⟨rfl, hb1⟩
  have HB1 : Hid (Below w.heap.size w w1) := Lib.hid ((a1 w _).trans (hb1.mono (by simp; try omega)))
  clear hb1 HO
  go_wp2_with fail
  exact bodyPost_ret (results_tmp2 rfl _ _ _) rfl ⟨rfl, HB1.out⟩
set_option maxHeartbeats 400000 in
theorem Counts_bad (k n : Int) (w : World) (hb : Bad k n []) : Calls Try.prog 37 #[gV k n] w fun e w' => e = .returned (.tuple #[.slice none 0 0, .int .i64 2]) ∧ Below w.heap.size w w' := by
  have HO := Lib.hid (fun v W h => open_bad k n v [] W h (by simp) hb)
  clear hb
  go_enter Try.func37, Try.ntmps37
  go_wp2_with fail
  refine (HO.out _ _ ⟨[], ⟨none, 0, rfl, Nat.le_refl _, Nat.zero_le _, Nat.zero_le _, .inl rfl⟩, rfl, fun i u x hu hx => by simp at hu⟩).mono ?_
  rintro e w1 ⟨rfl, hb1⟩
  have HB1 : Hid (Below w.heap.size w w1) := Lib.hid ((a1 w _).trans (hb1.mono (by simp; try omega)))
  clear hb1 HO
  go_wp2_with fail
  exact bodyPost_ret (results_tmp2 rfl _ _ _) rfl ⟨rfl, HB1.out⟩

set_option maxHeartbeats 400000 in
theorem All_ok (g : Nat) (hg : g < 17) (w : World) : Calls Try.prog 36 #[gV (kd g) (nm g)] w fun e w' => ∃ b c, e = .returned (.tuple #[.slice (some ⟨b, 0, none⟩) (nE g) c, .int .i64 0]) ∧ Pts w' b (nE g) (wd g) ∧ nE g ≤ c ∧ Below w.heap.size w w' := by
  have HO := Lib.hid (fun W => open0_ok g hg W)
  go_enter Try.func36, Try.ntmps36
  go_wp2_with fail
  refine (HO.out _).mono ?_
  rintro e w1 ⟨T0, ea, ec, rfl, hT, hb1⟩
  have HB1 : Hid (Below w.heap.size w w1) := Lib.hid ((a1 w _).trans (hb1.mono (by simp; try omega)))
  have HT := Lib.hid hT
  clear hb1 HO hT
  obtain ⟨wb, cw, rb, cr, ws, R, C, ht⟩ := HT.out.open hg
  have c0 := ht.c0
  have HP : Hid (Pts w1 wb (nE g) (wd g)) := Lib.hid (fun i hi => by
    obtain ⟨a, c, _, h1, h2, _⟩ := ht.word i hi
    exact ⟨a, c, h1, h2⟩)
  have HC := Lib.hid ht.cap.1
  clear ht
  go_wp2_with fail
  exact bodyPost_ret (results_tmp2 rfl _ _ _) rfl ⟨_, _, rfl, HP.out, HC.out, HB1.out⟩

/-- How many of the first k elements have length l. -/
def cntB (g k l : Nat) : Nat := ((List.range k).filter fun x => ln g x == l).length
def cntC (g k n : Nat) : List Nat := (List.range n).map (cntB g k)
theorem cntB_succ (g k l : Nat) : cntB g (k + 1) l = if ln g k = l then cntB g k l + 1 else cntB g k l := by
  unfold cntB
  rw [List.range_succ, List.filter_append]
  by_cases h : ln g k = l
  · simp [h]
  · simp [h]
theorem cntB_le (g k l : Nat) : cntB g k l ≤ k := by
  unfold cntB
  have := List.length_filter_le (fun x => ln g x == l) (List.range k)
  simpa using this
theorem cntC_set (g k n : Nat) (h : ln g k < n) : ((ints (nats (cntC g k n))).toArray).setIfInBounds (ln g k) (.int .i64 ((cntB g k (ln g k) + 1 : Nat) : Int)) = (ints (nats (cntC g (k + 1) n))).toArray := by
  apply Array.ext_getElem?
  intro i
  rw [Array.getElem?_setIfInBounds]
  unfold ints nats cntC
  by_cases hi : i < n
  · by_cases e : ln g k = i
    · subst e
      simp [hi, cntB_succ]
    · rw [if_neg e]
      simp [hi, cntB_succ, e]
  · simp [hi]; intro e; omega
theorem cntC_zero (g n : Nat) : cntC g 0 n = List.replicate n 0 := by
  unfold cntC
  exact List.eq_replicate_iff.2 ⟨by simp, fun b hb => by obtain ⟨j, _, rfl⟩ := List.mem_map.1 hb; rfl⟩
theorem cntC_get {W : World} {b g k n : Nat} (h : Blk 3 W b (ints (nats (cntC g k n))).toArray) {i : Nat} (hi : i < n) : W.cell? ⟨b, i, none⟩ = some (.int .i64 (cntB g k i : Nat)) := by
  rw [h.cell]
  simp [ints, nats, cntC, hi]
theorem run_makeC (n : Nat) (hn : n ≤ 1000) (g : Nat) (W : World) : (Instr.makeSlice 24 (.int .i64 n) (.int .i64 n)).run Try.prog W = .ok (.slice (some ⟨W.heap.size, 0, none⟩) n n) (W.alloc (.cells (ints (nats (cntC g 0 n))).toArray 3)) := by
  obtain ⟨i3, hi3, hz0, hz1, hz2⟩ := info_parts Try.info3
  have h := run_make (P := Try.prog) W 24 3 i3 (.int .i64 0) Try.underlying24 hi3 hz0 .i64 .i64 (n : Int) (n : Int) (by omega) (by omega) (by rw [hz2]; omega) (by omega)
  rw [h, hz1]
  simp only [Int.toNat_natCast]
  rw [mk_cells, cntC_zero, show nats (List.replicate n 0) = List.replicate n 0 by simp [nats]]
theorem cnt_nats {W : World} {b g k n : Nat} (h : Blk 3 W b (ints (nats (cntC g k n))).toArray) (hk : k ≤ 120) (hn : n ≤ 1000) : Nats W (.slice (some ⟨b, 0, none⟩) n n) (cntC g k n) := by
  have hl : (cntC g k n).length = n := by simp [cntC]
  refine ⟨⟨_, n, by rw [ints_length, nats_length, hl], by rw [ints_length, nats_length, hl]; exact Nat.le_refl _, by rw [ints_length, nats_length, hl]; omega, by unfold maxLen; omega, .inr ⟨b, 0, rfl, h.lt, fun j u hj => ?_⟩⟩, nats_I64 fun x hx => ?_⟩
  · rw [Nat.zero_add, h.cell]
    simpa using hj
  · obtain ⟨l, _, rfl⟩ := List.mem_map.1 hx
    have := cntB_le g k l
    omega
theorem ln_max {g x : Nat} (hg : g < 17) (hx : x < nE g) : ln g x ≤ ln g (nE g - 1) := by
  have : ((List.range 17).all fun g => (List.range (nE g)).all fun x => decide (ln g x ≤ ln g (nE g - 1))) = true := by decide +kernel
  have h1 := List.all_eq_true.1 (List.all_eq_true.1 this g (List.mem_range.2 hg)) x (List.mem_range.2 hx)
  simpa using h1

set_option maxHeartbeats 2000000 in
theorem Counts_ok (g : Nat) (hg : g < 17) (w : World) : Calls Try.prog 37 #[gV (kd g) (nm g)] w fun e w' => ∃ a c, e = .returned (.tuple #[.slice a (ln g (nE g - 1) + 1) c, .int .i64 0]) ∧ Nats w' (.slice a (ln g (nE g - 1) + 1) c) (cntC g (nE g) (ln g (nE g - 1) + 1)) ∧ Below w.heap.size w w' := by
  have HO := Lib.hid (fun W => open0_ok g hg W)
  have hE := tE hg
  have hl12 := (tx hg (show nE g - 1 < nE g by omega)).2.1
  have HMx := Lib.hid (fun x hx => ln_max (x := x) hg hx)
  have HLn := Lib.hid (fun T0 x W h hx => length_any g T0 x hg W h hx)
  go_enter Try.func37, Try.ntmps37
  go_wp2_with fail
  refine (HO.out _).mono ?_
  rintro e w1 ⟨T0, ea, ec, rfl, hT, hb1⟩
  have HB1 : Hid (Below w.heap.size w w1) := Lib.hid ((a1 w _).trans (hb1.mono (by simp; try omega)))
  have HT := Lib.hid hT
  clear hb1 HO hT
  obtain ⟨wb, cw, rb, cr, ws, R, C, ht⟩ := HT.out.open hg
  have c0 := ht.c0
  have ht1 : ((nE g : Int) - 1).toNat = nE g - 1 := by omega
  have ht2 : (nE g : Int) - 1 = ((nE g - 1 : Nat) : Int) := by omega
  have HL1 := Lib.hid (HLn.out T0 (nE g - 1) w1 HT.out (by omega))
  clear ht
  generalize hL : ln g (nE g - 1) = L at *
  obtain ⟨q, hq⟩ : ∃ q, q = L + 1 := ⟨_, rfl⟩
  have hmk := run_makeC q (by omega) g
  have hL1 : (L : Int) + 1 = (q : Nat) := by omega
  have hq1 : q ≤ L + 1 := by omega
  have hq2 : L + 1 ≤ q := by omega
  have HL := Lib.hid hL
  have HQ := Lib.hid hq
  clear hL hq
  go_wp2_with fail
  refine HL1.out.mono ?_
  rintro e w2 ⟨rfl, rfl⟩
  clear HL1
  have c0' := alloc_cell' (.cells (ints (nats (cntC g 0 q))).toArray 3) c0
  go_wp2_with fail
  have HK2 : Hid (Blk 3 (w1.alloc (.cells (ints (nats (cntC g 0 q))).toArray 3)) w1.heap.size (ints (nats (cntC g 0 q))).toArray) := Lib.hid (Blk.new _ _ _)
  have HB2 : Hid (Below w1.heap.size w1 (w1.alloc (.cells (ints (nats (cntC g 0 q))).toArray 3))) := Lib.hid (a1 _ _)
  clear hmk c0 c0'
  go_loopw [33] (fun i wr => ∃ k : Nat, k ≤ nE g ∧ i = .int .i64 k ∧ Blk 3 wr w1.heap.size (ints (nats (cntC g k q))).toArray ∧ Below w1.heap.size w1 wr) (fun i _ => nE g - (intOf i).toNat)
  case atStart => exact ⟨0, Nat.zero_le _, rfl, HK2.out, HB2.out⟩
  case round =>
    clear HK2 HB2
    obtain ⟨k, hk, rfl, hK, hb⟩ := hrel
    have HK := Lib.hid hK
    have HB := Lib.hid hb
    clear hK hb
    by_cases hl : k < nE g
    · have hn := HMx.out k hl
      have HLk := Lib.hid (HLn.out T0 k wr (HT.out.below HB.out) hl)
      have hcl := cntB_le g k (ln g k)
      have ck0 := cntC_get HK.out (i := ln g k) (by omega)
      have fk0 := HK.out.fr (ln g k)
      have HK3 : Hid (Blk 3 (wr.setCell ⟨w1.heap.size, ln g k, none⟩ (.int .i64 ((cntB g k (ln g k) + 1 : Nat) : Int))) w1.heap.size (ints (nats (cntC g (k + 1) q))).toArray) := Lib.hid (by
        rw [← cntC_set g k q (by omega)]
        exact HK.out.set _ _)
      have HB3 : Hid (Below w1.heap.size w1 (wr.setCell ⟨w1.heap.size, ln g k, none⟩ (.int .i64 ((cntB g k (ln g k) + 1 : Nat) : Int)))) := Lib.hid (below_cell HB.out (a := ⟨w1.heap.size, ln g k, none⟩) (Nat.le_refl _) _)
      have hz : ((cntB g k (ln g k) : Nat) : Int) + 1 = ((cntB g k (ln g k) + 1 : Nat) : Int) := by omega
      generalize cntB g k (ln g k) + 1 = z1 at *
      generalize cntB g k (ln g k) = z at *
      generalize ln g k = n at *
      go_wp2_with fail
      refine HLk.out.mono ?_
      rintro e w3 ⟨rfl, rfl⟩
      go_wp2_with fail
      go_roundw
      case rel => exact ⟨k + 1, by omega, by go_num, HK3.out, HB3.out⟩
      case measure => simp [intOf]; omega
    · have hkk : k = nE g := by omega
      have HE : Hid (Nats wr (.slice (some ⟨w1.heap.size, 0, none⟩) q q) (cntC g (nE g) q)) := Lib.hid (by rw [← hkk]; exact cnt_nats HK.out (by omega) (by omega))
      clear hkk HK
      go_wp2_with fail
      refine bodyPost_ret (results_tmp2 rfl _ _ _) rfl ?_
      rw [HL.out, ← HQ.out]
      exact ⟨_, _, rfl, HE.out, HB1.out.trans (HB.out.mono HB1.out.size)⟩

set_option maxHeartbeats 2000000 in
theorem RCounts_any (g b0 c0 b1 c1 b2 c2 : Nat) (hg : g < 17) (w : World) (h : RP w g b0 b1 b2) :
    Calls Try.prog 40 #[rV g b0 c0 b1 c1 b2 c2] w fun e w' => ∃ a c, e = .returned (.slice a (ln g (nE g - 1) + 1) c) ∧ Nats w' (.slice a (ln g (nE g - 1) + 1) c) (cntC g (nE g) (ln g (nE g - 1) + 1)) ∧ Below w.heap.size w w' := by
  have HR := Lib.hid (h.box c0 c1 c2)
  clear h
  have hE := tE hg
  have hl12 := (tx hg (show nE g - 1 < nE g by omega)).2.1
  have HMx := Lib.hid (fun x hx => ln_max (x := x) hg hx)
  have HLn := Lib.hid (fun y W hW hy => Len_any g b0 c0 b1 c1 b2 c2 y hg W hW hy)
  have HL1 := Lib.hid (fun W hW => Len_any g b0 c0 b1 c1 b2 c2 (nE g - 1) hg W hW (by omega))
  have ht1 : ((nE g : Int) - 1).toNat = nE g - 1 := by omega
  have ht2 : (nE g : Int) - 1 = ((nE g - 1 : Nat) : Int) := by omega
  unfold rV at HLn HL1 ⊢
  obtain ⟨L, hL⟩ : ∃ L, L = ln g (nE g - 1) := ⟨_, rfl⟩
  rw [← hL] at HL1 HMx hl12 ⊢
  obtain ⟨q, hq⟩ : ∃ q, q = L + 1 := ⟨_, rfl⟩
  rw [← hq]
  have hmk := run_makeC q (by omega) g
  have hL1 : (L : Int) + 1 = (q : Nat) := by omega
  have hq1 : q ≤ L + 1 := by omega
  have hq2 : L + 1 ≤ q := by omega
  clear hL hq
  go_enter Try.func40, Try.ntmps40
  go_wp2_with fail
  refine (HL1.out _ HR.out.rp).mono ?_
  rintro e w1 ⟨rfl, hb1⟩
  have HR1 := Lib.hid (HR.out.below hb1)
  have HB1 : Hid (Below w.heap.size w w1) := Lib.hid ((a1 w _).trans (hb1.mono (by simp)))
  clear hb1 HR HL1
  have t0 := alloc_cell' (.cells (ints (nats (cntC g 0 q))).toArray 3) HR1.out.at.1
  go_wp2_with fail
  have HK2 : Hid (Blk 3 (w1.alloc (.cells (ints (nats (cntC g 0 q))).toArray 3)) w1.heap.size (ints (nats (cntC g 0 q))).toArray) := Lib.hid (Blk.new _ _ _)
  have HB2 : Hid (Below w1.heap.size w1 (w1.alloc (.cells (ints (nats (cntC g 0 q))).toArray 3))) := Lib.hid (a1 _ _)
  clear hmk t0
  go_loopw [16] (fun i wr => ∃ k : Nat, k ≤ nE g ∧ i = .int .i64 k ∧ Blk 3 wr w1.heap.size (ints (nats (cntC g k q))).toArray ∧ Below w1.heap.size w1 wr) (fun i _ => nE g - (intOf i).toNat)
  case atStart => exact ⟨0, Nat.zero_le _, rfl, HK2.out, HB2.out⟩
  case round =>
    clear HK2 HB2
    obtain ⟨k, hk, rfl, hK, hb⟩ := hrel
    have HK := Lib.hid hK
    have HB := Lib.hid hb
    clear hK hb
    have HRr := Lib.hid (HR1.out.below HB.out)
    have t0 := HRr.out.at.1
    have t1 := HRr.out.at.2.1
    have t2 := HRr.out.at.2.2
    by_cases hl : k < nE g
    · have hn := HMx.out k hl
      have HLk := Lib.hid (HLn.out k wr HRr.out.rp hl)
      have hcl := cntB_le g k (ln g k)
      have HC3 : Hid (∀ W, Blk 3 W w1.heap.size (ints (nats (cntC g k q))).toArray → Blk 3 (W.setCell ⟨w1.heap.size, ln g k, none⟩ (.int .i64 ((cntB g k (ln g k) + 1 : Nat) : Int))) w1.heap.size (ints (nats (cntC g (k + 1) q))).toArray) := Lib.hid (fun W hW => by
        rw [← cntC_set g k q (by omega)]
        exact hW.set _ _)
      have HG : Hid (∀ W, Blk 3 W w1.heap.size (ints (nats (cntC g k q))).toArray → W.cell? ⟨w1.heap.size, ln g k, none⟩ = some (.int .i64 (cntB g k (ln g k) : Nat))) := Lib.hid (fun W hW => cntC_get hW (by omega))
      have hz : ((cntB g k (ln g k) : Nat) : Int) + 1 = ((cntB g k (ln g k) + 1 : Nat) : Int) := by omega
      generalize cntB g k (ln g k) + 1 = z1 at *
      generalize cntB g k (ln g k) = z at *
      generalize ln g k = n at *
      go_wp2_with fail
      refine HLk.out.mono ?_
      rintro e w3 ⟨rfl, hb3⟩
      have HK3 := Lib.hid (HK.out.below hb3)
      have HB3 : Hid (Below w1.heap.size w1 w3) := Lib.hid (HB.out.trans (hb3.mono HB.out.size))
      have ck0 := HG.out _ HK3.out
      have fk0 := HK3.out.fr n
      have HK4 := Lib.hid (HC3.out _ HK3.out)
      have HB4 : Hid (Below w1.heap.size w1 (w3.setCell ⟨w1.heap.size, n, none⟩ (.int .i64 (z1 : Nat)))) := Lib.hid (below_cell HB3.out (a := ⟨w1.heap.size, n, none⟩) (Nat.le_refl _) _)
      clear hb3 t0 t1 t2 HG HC3
      go_wp2_with fail
      go_roundw
      case rel => exact ⟨k + 1, by omega, by go_num, HK4.out, HB4.out⟩
      case measure => simp [intOf]; omega
    · have hkk : k = nE g := by omega
      have HE : Hid (Nats wr (.slice (some ⟨w1.heap.size, 0, none⟩) q q) (cntC g (nE g) q)) := Lib.hid (by rw [← hkk]; exact cnt_nats HK.out (by omega) (by omega))
      clear hkk HK
      go_wp2_with fail
      go_ret
      exact ⟨_, _, rfl, HE.out, HB1.out.trans (HB.out.mono HB1.out.size)⟩
end Go.Proofs.Ytlnbodpdgebflaa
