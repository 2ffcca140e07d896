/- the reference: moves -/
import Derived.Test.YtlnbodpdgebflaaEa
namespace Go.Proofs.Ytlnbodpdgebflaa
open Go.RowKit

theorem own_n {B b c n : Nat} {W : World} {l : List Nat} (h : W.ownsRow B 3 1 (.slice (some ⟨b, 0, none⟩) n c) n (ints (nats l))) (hl : l.length = n) : Bg B W (.slice (some ⟨b, 0, none⟩) n c) l := by
  subst hl; exact h

set_option maxRecDepth 20000 in
set_option maxHeartbeats 4000000 in
theorem movesA (s N n : Nat) (hn : n = N + 1) (hs : s < N) (hN : N ≤ 12) (hn24 : n ≤ 24) (hn0 : 0 < n) (M : List Nat) (hM : M = swL (List.range n) s (s + 1)) (w : World) :
    Calls Try.prog 75 #[gV 65 N, .int .i64 s] w fun e w' => ∃ u, e = .returned u ∧ Bg w.heap.size w' u M ∧ Below w.heap.size w w' := by
  have HM := Lib.hid hM
  clear hM
  have HW := Lib.hid (fun b c i j I J l W h hl hi hj hne hB hc hI hJ => swap99_any (w.heap.size + 1) b c n i j I J l W h hl hi hj hne hB hc hI hJ)
  obtain ⟨i0, hi, hz0, hz1, hz2⟩ := info_parts Try.info3
  go_enter Try.func75, Try.ntmps75
  go_wp2_with fail
  have hnI : ((N : Int) + 1) = (n : Nat) := by omega
  rw [hnI]
  have hn1 : N + 1 ≤ n := by omega
  have hn2 : n ≤ N + 1 := by omega
  clear hnI hn
  go_loopw [19, 6] (fun i u wr => ∃ k : Nat, k ≤ n ∧ i = .int .i64 k ∧ wr.ownsRow (w.heap.size + 1) 3 1 u k (ints (nats (List.range k))) ∧ Blk 23 wr w.heap.size #[.int .u8 65, .int .i64 N] ∧ Below w.heap.size w wr) (fun i _ _ => n - (intOf i).toNat)
  case atStart => exact ⟨0, Nat.zero_le _, rfl, World.ownsRow_nil _ _ _ _, Blk.new _ _ _, a1 _ _⟩
  case round =>
    obtain ⟨k, hk, rfl, hu, hG, hbl⟩ := hrel
    obtain ⟨ua, uc, rfl⟩ := owns_form hu
    have HU := Lib.hid hu
    have HG := Lib.hid hG
    have HB := Lib.hid hbl
    have g0 := hG.at0.1
    have g1 := hG.at0.2
    clear hu hbl hG
    by_cases hlt : k < n
    · have HE : Hid (ints (nats (List.range (k + 1))) = ints (nats (List.range k)) ++ [.int .i64 (k : Nat)]) := Lib.hid (by rw [range_snoc]; simp [ints, nats])
      clear HM HW g0 g1
      go_wp2_with (first | (at_builtin; refine wpList_append_own _ rfl _ _ 24 rfl (w.heap.size + 1) 3 i0 (.int .i64 0) 1 8 Try.underlying24 hi hz0 hz1 hz2 rfl (by decide) _ _ _ rfl (HU.out.alloc _) ⟨wr.heap.size, 0, none⟩ 1 1 [.int .i64 (k : Nat)] rfl rfl (newOne _ _ _) (oneInt _) (by unfold maxLen; omega) (by omega) (by have := HB.out.size; have := HG.out.lt; simp; omega) ?_; intro v9 w9 hown9 hg9 _) | fail)
      have HO9 : Hid (w9.ownsRow (w.heap.size + 1) 3 1 v9 (k + 1) (ints (nats (List.range (k + 1))))) := Lib.hid (by rw [HE.out]; exact hown9)
      have HG9 : Hid (Blk 23 w9 w.heap.size #[.int .u8 65, .int .i64 N]) := Lib.hid ((hg9.block _ (by have := HG.out.lt; simp; omega) (own_blk HU.out HG.out (by simp))).trans (HG.out.alloc (.cells #[.int .i64 (k : Nat)] 3)))
      have HB9 : Hid (Below w.heap.size w w9) := Lib.hid ((HB.out.alloc HB.out.size _).grown hg9 (by have := HB.out.size; simp; omega) fun q e => by have := (HU.out.lt q e).1; omega)
      obtain ⟨a9, c9, rfl⟩ := owns_form hown9
      clear hown9 hg9
      go_roundw
      case rel => exact ⟨k + 1, by omega, by go_num, HO9.out, HG9.out, HB9.out⟩
      case measure => simp [intOf]; omega
    · have hkn : k = n := by omega
      subst hkn
      obtain ⟨rb, rc', he, hcn⟩ := own_lit HU.out hn0
      cases he
      have HRb : Hid (w.heap.size + 1 ≤ rb) := Lib.hid (HU.out.lt rb rfl).1
      have HU0 : Hid (Bg (w.heap.size + 1) wr (.slice (some ⟨rb, 0, none⟩) k uc) (List.range k)) := Lib.hid (own_n HU.out (by simp))
      have HB0 := Lib.hid HB.out
      have HG0 := Lib.hid HG.out
      have HL0 : Hid ((List.range k).length = k) := Lib.hid (by simp)
      clear HU HB HG
      go_wp2_with fail
      refine (HW.out rb uc (s) (s + 1) _ _ _ _ HU0.out HL0.out (by omega) (by omega) (by omega) HRb.out hcn (by omega) (by omega)).mono ?_
      rintro e w1 ⟨⟨_, rfl⟩, hbg, hbl, _⟩
      have HU1 := Lib.hid hbg
      have HL1 := Lib.hid ((swL_len _ (s) (s + 1)).trans HL0.out)
      have HG1 : Hid (Blk 23 w1 w.heap.size #[.int .u8 65, .int .i64 N]) := Lib.hid ((hbl.block _ (by omega)).trans HG0.out)
      have HB1 : Hid (Below w.heap.size w w1) := Lib.hid (HB0.out.trans (hbl.mono (by omega)))
      clear hbg hbl g0 g1
      have g0 := HG1.out.at0.1
      have g1 := HG1.out.at0.2
      have HOk : Hid (Bg (w.heap.size + 1) w1 (.slice (some ⟨rb, 0, none⟩) k uc) M) := Lib.hid (by rw [HM.out]; exact HU1.out)
      have HLM : Hid (M.length = k) := Lib.hid (by rw [HM.out]; exact HL1.out)
      go_wp2_with fail
      go_ret
      exact ⟨_, rfl, owns_mono HOk.out (Nat.le_succ _), HB1.out⟩

set_option maxRecDepth 20000 in
set_option maxHeartbeats 4000000 in
theorem movesBl (s N n : Nat) (hn : n = 2 * N) (hs : s + 1 = N) (hN : N ≤ 12) (hN2 : 2 ≤ N) (hn24 : n ≤ 24) (hn0 : 0 < n) (M : List Nat) (hM : M = swL (List.range n) s (s + N)) (w : World) :
    Calls Try.prog 75 #[gV 66 N, .int .i64 s] w fun e w' => ∃ u, e = .returned u ∧ Bg w.heap.size w' u M ∧ Below w.heap.size w w' := by
  have HM := Lib.hid hM
  clear hM
  have HW := Lib.hid (fun b c i j I J l W h hl hi hj hne hB hc hI hJ => swap99_any (w.heap.size + 1) b c n i j I J l W h hl hi hj hne hB hc hI hJ)
  obtain ⟨i0, hi, hz0, hz1, hz2⟩ := info_parts Try.info3
  go_enter Try.func75, Try.ntmps75
  go_wp2_with fail
  have hnI : (2 * (N : Int)) = (n : Nat) := by omega
  rw [hnI]
  have hn1 : 2 * N ≤ n := by omega
  have hn2 : n ≤ 2 * N := by omega
  clear hnI hn
  go_loopw [19, 6] (fun i u wr => ∃ k : Nat, k ≤ n ∧ i = .int .i64 k ∧ wr.ownsRow (w.heap.size + 1) 3 1 u k (ints (nats (List.range k))) ∧ Blk 23 wr w.heap.size #[.int .u8 66, .int .i64 N] ∧ Below w.heap.size w wr) (fun i _ _ => n - (intOf i).toNat)
  case atStart => exact ⟨0, Nat.zero_le _, rfl, World.ownsRow_nil _ _ _ _, Blk.new _ _ _, a1 _ _⟩
  case round =>
    obtain ⟨k, hk, rfl, hu, hG, hbl⟩ := hrel
    obtain ⟨ua, uc, rfl⟩ := owns_form hu
    have HU := Lib.hid hu
    have HG := Lib.hid hG
    have HB := Lib.hid hbl
    have g0 := hG.at0.1
    have g1 := hG.at0.2
    clear hu hbl hG
    by_cases hlt : k < n
    · have HE : Hid (ints (nats (List.range (k + 1))) = ints (nats (List.range k)) ++ [.int .i64 (k : Nat)]) := Lib.hid (by rw [range_snoc]; simp [ints, nats])
      clear HM HW g0 g1
      go_wp2_with (first | (at_builtin; refine wpList_append_own _ rfl _ _ 24 rfl (w.heap.size + 1) 3 i0 (.int .i64 0) 1 8 Try.underlying24 hi hz0 hz1 hz2 rfl (by decide) _ _ _ rfl (HU.out.alloc _) ⟨wr.heap.size, 0, none⟩ 1 1 [.int .i64 (k : Nat)] rfl rfl (newOne _ _ _) (oneInt _) (by unfold maxLen; omega) (by omega) (by have := HB.out.size; have := HG.out.lt; simp; omega) ?_; intro v9 w9 hown9 hg9 _) | fail)
      have HO9 : Hid (w9.ownsRow (w.heap.size + 1) 3 1 v9 (k + 1) (ints (nats (List.range (k + 1))))) := Lib.hid (by rw [HE.out]; exact hown9)
      have HG9 : Hid (Blk 23 w9 w.heap.size #[.int .u8 66, .int .i64 N]) := Lib.hid ((hg9.block _ (by have := HG.out.lt; simp; omega) (own_blk HU.out HG.out (by simp))).trans (HG.out.alloc (.cells #[.int .i64 (k : Nat)] 3)))
      have HB9 : Hid (Below w.heap.size w w9) := Lib.hid ((HB.out.alloc HB.out.size _).grown hg9 (by have := HB.out.size; simp; omega) fun q e => by have := (HU.out.lt q e).1; omega)
      obtain ⟨a9, c9, rfl⟩ := owns_form hown9
      clear hown9 hg9
      go_roundw
      case rel => exact ⟨k + 1, by omega, by go_num, HO9.out, HG9.out, HB9.out⟩
      case measure => simp [intOf]; omega
    · have hkn : k = n := by omega
      subst hkn
      obtain ⟨rb, rc', he, hcn⟩ := own_lit HU.out hn0
      cases he
      have HRb : Hid (w.heap.size + 1 ≤ rb) := Lib.hid (HU.out.lt rb rfl).1
      have HU0 : Hid (Bg (w.heap.size + 1) wr (.slice (some ⟨rb, 0, none⟩) k uc) (List.range k)) := Lib.hid (own_n HU.out (by simp))
      have HB0 := Lib.hid HB.out
      have HG0 := Lib.hid HG.out
      have HL0 : Hid ((List.range k).length = k) := Lib.hid (by simp)
      clear HU HB HG
      go_wp2_with fail
      refine (HW.out rb uc (s) (s + N) _ _ _ _ HU0.out HL0.out (by omega) (by omega) (by omega) HRb.out hcn (by omega) (by omega)).mono ?_
      rintro e w1 ⟨⟨_, rfl⟩, hbg, hbl, _⟩
      have HU1 := Lib.hid hbg
      have HL1 := Lib.hid ((swL_len _ (s) (s + N)).trans HL0.out)
      have HG1 : Hid (Blk 23 w1 w.heap.size #[.int .u8 66, .int .i64 N]) := Lib.hid ((hbl.block _ (by omega)).trans HG0.out)
      have HB1 : Hid (Below w.heap.size w w1) := Lib.hid (HB0.out.trans (hbl.mono (by omega)))
      clear hbg hbl g0 g1
      have g0 := HG1.out.at0.1
      have g1 := HG1.out.at0.2
      have HOk : Hid (Bg (w.heap.size + 1) w1 (.slice (some ⟨rb, 0, none⟩) k uc) M) := Lib.hid (by rw [HM.out]; exact HU1.out)
      have HLM : Hid (M.length = k) := Lib.hid (by rw [HM.out]; exact HL1.out)
      go_wp2_with fail
      go_ret
      exact ⟨_, rfl, owns_mono HOk.out (Nat.le_succ _), HB1.out⟩

set_option maxRecDepth 20000 in
set_option maxHeartbeats 4000000 in
theorem movesBi (s N n : Nat) (hn : n = 2 * N) (hs : s + 1 < N) (hN : N ≤ 12) (hn24 : n ≤ 24) (hn0 : 0 < n) (M : List Nat) (hM : M = swL (swL (List.range n) s (s + 1)) (s + N) (s + 1 + N)) (w : World) :
    Calls Try.prog 75 #[gV 66 N, .int .i64 s] w fun e w' => ∃ u, e = .returned u ∧ Bg w.heap.size w' u M ∧ Below w.heap.size w w' := by
  have HM := Lib.hid hM
  clear hM
  have HW := Lib.hid (fun b c i j I J l W h hl hi hj hne hB hc hI hJ => swap99_any (w.heap.size + 1) b c n i j I J l W h hl hi hj hne hB hc hI hJ)
  obtain ⟨i0, hi, hz0, hz1, hz2⟩ := info_parts Try.info3
  go_enter Try.func75, Try.ntmps75
  go_wp2_with fail
  have hnI : (2 * (N : Int)) = (n : Nat) := by omega
  rw [hnI]
  have hn1 : 2 * N ≤ n := by omega
  have hn2 : n ≤ 2 * N := by omega
  clear hnI hn
  go_loopw [19, 6] (fun i u wr => ∃ k : Nat, k ≤ n ∧ i = .int .i64 k ∧ wr.ownsRow (w.heap.size + 1) 3 1 u k (ints (nats (List.range k))) ∧ Blk 23 wr w.heap.size #[.int .u8 66, .int .i64 N] ∧ Below w.heap.size w wr) (fun i _ _ => n - (intOf i).toNat)
  case atStart => exact ⟨0, Nat.zero_le _, rfl, World.ownsRow_nil _ _ _ _, Blk.new _ _ _, a1 _ _⟩
  case round =>
    obtain ⟨k, hk, rfl, hu, hG, hbl⟩ := hrel
    obtain ⟨ua, uc, rfl⟩ := owns_form hu
    have HU := Lib.hid hu
    have HG := Lib.hid hG
    have HB := Lib.hid hbl
    have g0 := hG.at0.1
    have g1 := hG.at0.2
    clear hu hbl hG
    by_cases hlt : k < n
    · have HE : Hid (ints (nats (List.range (k + 1))) = ints (nats (List.range k)) ++ [.int .i64 (k : Nat)]) := Lib.hid (by rw [range_snoc]; simp [ints, nats])
      clear HM HW g0 g1
      go_wp2_with (first | (at_builtin; refine wpList_append_own _ rfl _ _ 24 rfl (w.heap.size + 1) 3 i0 (.int .i64 0) 1 8 Try.underlying24 hi hz0 hz1 hz2 rfl (by decide) _ _ _ rfl (HU.out.alloc _) ⟨wr.heap.size, 0, none⟩ 1 1 [.int .i64 (k : Nat)] rfl rfl (newOne _ _ _) (oneInt _) (by unfold maxLen; omega) (by omega) (by have := HB.out.size; have := HG.out.lt; simp; omega) ?_; intro v9 w9 hown9 hg9 _) | fail)
      have HO9 : Hid (w9.ownsRow (w.heap.size + 1) 3 1 v9 (k + 1) (ints (nats (List.range (k + 1))))) := Lib.hid (by rw [HE.out]; exact hown9)
      have HG9 : Hid (Blk 23 w9 w.heap.size #[.int .u8 66, .int .i64 N]) := Lib.hid ((hg9.block _ (by have := HG.out.lt; simp; omega) (own_blk HU.out HG.out (by simp))).trans (HG.out.alloc (.cells #[.int .i64 (k : Nat)] 3)))
      have HB9 : Hid (Below w.heap.size w w9) := Lib.hid ((HB.out.alloc HB.out.size _).grown hg9 (by have := HB.out.size; simp; omega) fun q e => by have := (HU.out.lt q e).1; omega)
      obtain ⟨a9, c9, rfl⟩ := owns_form hown9
      clear hown9 hg9
      go_roundw
      case rel => exact ⟨k + 1, by omega, by go_num, HO9.out, HG9.out, HB9.out⟩
      case measure => simp [intOf]; omega
    · have hkn : k = n := by omega
      subst hkn
      obtain ⟨rb, rc', he, hcn⟩ := own_lit HU.out hn0
      cases he
      have HRb : Hid (w.heap.size + 1 ≤ rb) := Lib.hid (HU.out.lt rb rfl).1
      have HU0 : Hid (Bg (w.heap.size + 1) wr (.slice (some ⟨rb, 0, none⟩) k uc) (List.range k)) := Lib.hid (own_n HU.out (by simp))
      have HB0 := Lib.hid HB.out
      have HG0 := Lib.hid HG.out
      have HL0 : Hid ((List.range k).length = k) := Lib.hid (by simp)
      clear HU HB HG
      go_wp2_with fail
      refine (HW.out rb uc (s) (s + 1) _ _ _ _ HU0.out HL0.out (by omega) (by omega) (by omega) HRb.out hcn (by omega) (by omega)).mono ?_
      rintro e w1 ⟨⟨_, rfl⟩, hbg, hbl, _⟩
      have HU1 := Lib.hid hbg
      have HL1 := Lib.hid ((swL_len _ (s) (s + 1)).trans HL0.out)
      have HG1 : Hid (Blk 23 w1 w.heap.size #[.int .u8 66, .int .i64 N]) := Lib.hid ((hbl.block _ (by omega)).trans HG0.out)
      have HB1 : Hid (Below w.heap.size w w1) := Lib.hid (HB0.out.trans (hbl.mono (by omega)))
      clear hbg hbl g0 g1
      have g0 := HG1.out.at0.1
      have g1 := HG1.out.at0.2
      go_wp2_with fail
      refine (HW.out rb uc (s + N) (s + 1 + N) _ _ _ _ HU1.out HL1.out (by omega) (by omega) (by omega) HRb.out hcn (by omega) (by omega)).mono ?_
      rintro e w2 ⟨⟨_, rfl⟩, hbg, hbl, _⟩
      have HU2 := Lib.hid hbg
      have HL2 := Lib.hid ((swL_len _ (s + N) (s + 1 + N)).trans HL1.out)
      have HG2 : Hid (Blk 23 w2 w.heap.size #[.int .u8 66, .int .i64 N]) := Lib.hid ((hbl.block _ (by omega)).trans HG1.out)
      have HB2 : Hid (Below w.heap.size w w2) := Lib.hid (HB1.out.trans (hbl.mono (by omega)))
      clear hbg hbl g0 g1
      have g0 := HG2.out.at0.1
      have g1 := HG2.out.at0.2
      have HOk : Hid (Bg (w.heap.size + 1) w2 (.slice (some ⟨rb, 0, none⟩) k uc) M) := Lib.hid (by rw [HM.out]; exact HU2.out)
      have HLM : Hid (M.length = k) := Lib.hid (by rw [HM.out]; exact HL2.out)
      go_wp2_with fail
      go_ret
      exact ⟨_, rfl, owns_mono HOk.out (Nat.le_succ _), HB2.out⟩

set_option maxRecDepth 20000 in
set_option maxHeartbeats 4000000 in
theorem movesI (s N n : Nat) (hn : n = 2 * N) (hs : s < 2) (hN : N ≤ 12) (hN2 : 2 ≤ N) (hn24 : n ≤ 24) (hn0 : 0 < n) (M : List Nat) (hM : M = swI n n s (List.range n)) (w : World) :
    Calls Try.prog 75 #[gV 73 N, .int .i64 s] w fun e w' => ∃ u, e = .returned u ∧ Bg w.heap.size w' u M ∧ Below w.heap.size w w' := by
  have HM := Lib.hid hM
  clear hM
  have HW := Lib.hid (fun b c i j I J l W h hl hi hj hne hB hc hI hJ => swap99_any (w.heap.size + 1) b c n i j I J l W h hl hi hj hne hB hc hI hJ)
  obtain ⟨i0, hi, hz0, hz1, hz2⟩ := info_parts Try.info3
  go_enter Try.func75, Try.ntmps75
  go_wp2_with fail
  have hnI : (2 * (N : Int)) = (n : Nat) := by omega
  rw [hnI]
  have hn1 : 2 * N ≤ n := by omega
  have hn2 : n ≤ 2 * N := by omega
  clear hnI hn
  go_loopw [19, 6] (fun i u wr => ∃ k : Nat, k ≤ n ∧ i = .int .i64 k ∧ wr.ownsRow (w.heap.size + 1) 3 1 u k (ints (nats (List.range k))) ∧ Blk 23 wr w.heap.size #[.int .u8 73, .int .i64 N] ∧ Below w.heap.size w wr) (fun i _ _ => n - (intOf i).toNat)
  case atStart => exact ⟨0, Nat.zero_le _, rfl, World.ownsRow_nil _ _ _ _, Blk.new _ _ _, a1 _ _⟩
  case round =>
    obtain ⟨k, hk, rfl, hu, hG, hbl⟩ := hrel
    obtain ⟨ua, uc, rfl⟩ := owns_form hu
    have HU := Lib.hid hu
    have HG := Lib.hid hG
    have HB := Lib.hid hbl
    have g0 := hG.at0.1
    have g1 := hG.at0.2
    clear hu hbl hG
    by_cases hlt : k < n
    · have HE : Hid (ints (nats (List.range (k + 1))) = ints (nats (List.range k)) ++ [.int .i64 (k : Nat)]) := Lib.hid (by rw [range_snoc]; simp [ints, nats])
      clear HM HW g0 g1
      go_wp2_with (first | (at_builtin; refine wpList_append_own _ rfl _ _ 24 rfl (w.heap.size + 1) 3 i0 (.int .i64 0) 1 8 Try.underlying24 hi hz0 hz1 hz2 rfl (by decide) _ _ _ rfl (HU.out.alloc _) ⟨wr.heap.size, 0, none⟩ 1 1 [.int .i64 (k : Nat)] rfl rfl (newOne _ _ _) (oneInt _) (by unfold maxLen; omega) (by omega) (by have := HB.out.size; have := HG.out.lt; simp; omega) ?_; intro v9 w9 hown9 hg9 _) | fail)
      have HO9 : Hid (w9.ownsRow (w.heap.size + 1) 3 1 v9 (k + 1) (ints (nats (List.range (k + 1))))) := Lib.hid (by rw [HE.out]; exact hown9)
      have HG9 : Hid (Blk 23 w9 w.heap.size #[.int .u8 73, .int .i64 N]) := Lib.hid ((hg9.block _ (by have := HG.out.lt; simp; omega) (own_blk HU.out HG.out (by simp))).trans (HG.out.alloc (.cells #[.int .i64 (k : Nat)] 3)))
      have HB9 : Hid (Below w.heap.size w w9) := Lib.hid ((HB.out.alloc HB.out.size _).grown hg9 (by have := HB.out.size; simp; omega) fun q e => by have := (HU.out.lt q e).1; omega)
      obtain ⟨a9, c9, rfl⟩ := owns_form hown9
      clear hown9 hg9
      go_roundw
      case rel => exact ⟨k + 1, by omega, by go_num, HO9.out, HG9.out, HB9.out⟩
      case measure => simp [intOf]; omega
    · have hkn : k = n := by omega
      subst hkn
      obtain ⟨rb, rc', he, hcn⟩ := own_lit HU.out hn0
      cases he
      have HRb : Hid (w.heap.size + 1 ≤ rb) := Lib.hid (HU.out.lt rb rfl).1
      have HU0 : Hid (Bg (w.heap.size + 1) wr (.slice (some ⟨rb, 0, none⟩) k uc) (List.range k)) := Lib.hid (own_n HU.out (by simp))
      have HB0 := Lib.hid HB.out
      have HG0 := Lib.hid HG.out
      have HL0 : Hid ((List.range k).length = k) := Lib.hid (by simp)
      clear HU HB HG
      go_wp2_with fail
      clear g0 g1
      go_loopw [8] (fun i wx => ∃ (q f : Nat) (l : List Nat), i = .int .i64 q ∧ q ≤ k + 1 ∧ l.length = k ∧ M = swI k f q l ∧ k ≤ q + f ∧ Bg (w.heap.size + 1) wx (.slice (some ⟨rb, 0, none⟩) k uc) l ∧ Blk 23 wx w.heap.size #[.int .u8 73, .int .i64 N] ∧ Below w.heap.size w wx) (fun i _ => k + 2 - (intOf i).toNat)
      case atStart => exact ⟨s, k, _, rfl, by omega, HL0.out, HM.out, by omega, HU0.out, HG0.out, HB0.out⟩
      case round =>
        rename World => wx
        clear HU0 HG0 HB0 HL0 HM
        obtain ⟨q, f, l, rfl, hq, hl, hM, hf, hbg, hG, hbl⟩ := hrel
        have HU0 := Lib.hid hbg
        have HG0 := Lib.hid hG
        have HB0 := Lib.hid hbl
        have HL0 := Lib.hid hl
        have HM := Lib.hid hM
        have g0 := hG.at0.1
        have g1 := hG.at0.2
        clear hbg hG hbl hl hM
        by_cases hqk : q < k
        · obtain ⟨f', rfl⟩ : ∃ f', f = f' + 1 := ⟨f - 1, by omega⟩
          have HM2 : Hid (M = swI k f' (q + 2) (swL l q ((q + 1) % k))) := Lib.hid (by rw [HM.out, swI, if_pos hqk])
          have hrem : Int.tmod ((q : Int) + 1) (k : Nat) = (((q + 1) % k : Nat) : Int) := by
            rw [Int.tmod_eq_emod_of_nonneg (by omega)]; simp
          have hml := Nat.mod_lt (q + 1) hn0
          have hmne : q ≠ (q + 1) % k := by
            by_cases e : q + 1 = k
            · rw [e, Nat.mod_self]; omega
            · rw [Nat.mod_eq_of_lt (by omega)]; omega
          clear HM
          generalize (q + 1) % k = r at *
          go_wp2_with fail
          refine (HW.out rb uc (q) (r) _ _ _ _ HU0.out HL0.out (by omega) (by omega) (by omega) HRb.out hcn (by omega) (by omega)).mono ?_
          rintro e w1 ⟨⟨_, rfl⟩, hbg, hbl, _⟩
          have HU1 := Lib.hid hbg
          have HL1 := Lib.hid ((swL_len _ (q) (r)).trans HL0.out)
          have HG1 : Hid (Blk 23 w1 w.heap.size #[.int .u8 73, .int .i64 N]) := Lib.hid ((hbl.block _ (by omega)).trans HG0.out)
          have HB1 : Hid (Below w.heap.size w w1) := Lib.hid (HB0.out.trans (hbl.mono (by omega)))
          clear hbg hbl g0 g1
          have g0 := HG1.out.at0.1
          have g1 := HG1.out.at0.2
          go_wp2_with fail
          go_roundw
          case rel => exact ⟨q + 2, f', _, by go_num, by omega, HL1.out, HM2.out, by omega, HU1.out, HG1.out, HB1.out⟩
          case measure => simp [intOf]; omega
        · have HM3 : Hid (M = l) := Lib.hid (by
            rw [HM.out]
            cases f with
            | zero => rfl
            | succ f => rw [swI, if_neg hqk])
          have HOk : Hid (Bg (w.heap.size + 1) wx (.slice (some ⟨rb, 0, none⟩) k uc) M) := Lib.hid (by rw [HM3.out]; exact HU0.out)
          clear HU0 HM
          go_wp2_with fail
          go_ret
          exact ⟨_, rfl, owns_mono HOk.out (Nat.le_succ _), HB0.out⟩

theorem moves_any (g s : Nat) (hg : g < 17) (hs : s < kM g) (w : World) : Calls Try.prog 75 #[gV (kd g) (nm g), .int .i64 s] w fun e w' => ∃ u, e = .returned u ∧ Bg w.heap.size w' u (pt g (rt g 0 s)) ∧ Below w.heap.size w w' := by
  have HP := (pg hg).2.2.2 s hs
  have hn24 := (pg hg).1
  have hn0 := (pg hg).2.1
  obtain ⟨hk3, hkI, hkB, hkM, hkM2⟩ := kd_num hg
  have h12 := (tg hg).2.2.2.2.2.1
  have hnp : np g = if kd g = 65 then nm g + 1 else 2 * nm g := rfl
  rw [← HP]
  have HM : mvM g s = (if kd g = 73 then swI (np g) (np g) s (List.range (np g)) else if kd g = 66 ∧ s + 1 = nm g then swL (List.range (np g)) s (s + nm g)
    else if kd g = 66 then swL (swL (List.range (np g)) s (s + 1)) (s + nm g) (s + 1 + nm g) else swL (List.range (np g)) s (s + 1)) := rfl
  rcases hk3 with hk | hk | hk
  · have hK := hkM (by omega)
    rw [hk] at hnp HM ⊢
    rw [if_pos rfl] at hnp
    rw [if_neg (by decide), if_neg (by omega), if_neg (by decide)] at HM
    exact movesA s (nm g) (np g) hnp (by omega) h12 hn24 hn0 _ HM w
  · have hK := hkM (by omega)
    have hN2 := hkB hk
    rw [hk] at hnp HM ⊢
    rw [if_neg (by decide)] at hnp
    by_cases hl : s + 1 = nm g
    · rw [if_neg (by decide), if_pos ⟨rfl, hl⟩] at HM
      exact movesBl s (nm g) (np g) hnp hl h12 hN2 hn24 hn0 _ HM w
    · rw [if_neg (by decide), if_neg (by omega), if_pos rfl] at HM
      exact movesBi s (nm g) (np g) hnp (by omega) h12 hn24 hn0 _ HM w
  · have hK := hkM2 hk
    have hN2 := hkI hk
    rw [hk] at hnp HM ⊢
    rw [if_neg (by decide)] at hnp
    rw [if_pos rfl] at HM
    exact movesI s (nm g) (np g) hnp (by omega) h12 hN2 hn24 hn0 _ HM w
end Go.Proofs.Ytlnbodpdgebflaa
