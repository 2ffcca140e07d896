/- Back; shortest and Coset; Counts -/
import Derived.Test.YtlnbodpdgebflaaOe
import Derived.Test.YtlnbodpdgebflaaRe
namespace Go.Proofs.Ytlnbodpdgebflaa
open Go.RowKit

theorem letB_rev (g : Nat) (l : List Int) : letB g l.reverse = letB g l := by unfold letB; rw [List.all_reverse]
theorem wordB_rev (g : Nat) (l : List Int) : wordB g l.reverse = wordB g l := by unfold wordB; rw [List.length_reverse, letB_rev]
theorem rvF_end {f : Nat → Int} {n i p : Nat} (hp : p < n) (h : n - 1 ≤ 2 * i) : rvF f n i p = f (n - 1 - p) := by
  unfold rvF
  by_cases e : p < i ∨ n - 1 - p < i
  · rw [if_pos e]
  · rw [if_neg e]
    have : p = n - 1 - p := by omega
    rw [← this]
/-- A clone that is reversed. -/
theorem rev_ints {W : World} {B c : Nat} {ao : Option Addr} {l : List Int} (ho : W.ownsRow B 3 1 (.slice ao l.length c) l.length (ints l)) :
    (l.length = 0 ∨ ∃ b, ao = some ⟨b, 0, none⟩ ∧ B ≤ b ∧ l.length ≤ c ∧ Rst W W b l.length (fun p => l.getD p 0) 0) := by
  obtain ⟨_, h2⟩ := ho
  rcases h2 with ⟨_, h2⟩ | ⟨b, c', cur, e, hB, hg, hc, hm, hs, hx⟩
  · exact .inl h2
  · cases e
    refine .inr ⟨b, rfl, hB, hc, ⟨cur, hg, fun p hp => ?_⟩, Below.refl _ _⟩
    have h1 : (ints l)[p]? = some (.int .i64 (l.getD p 0)) := by simp [ints, hp]
    rw [← hx, List.getElem?_take_of_lt (by omega)] at h1
    unfold rvF
    rw [if_neg (by omega)]
    simpa using h1
theorem Rst.toInts {w W : World} {b c i : Nat} {l : List Int} (h : Rst w W b l.length (fun p => l.getD p 0) i) (hi : l.length - 1 ≤ 2 * i) (h1 : 1 ≤ l.length) (hl : l.length ≤ 1000) (hc : l.length ≤ c) (hcm : c ≤ maxLen) (hb : ∀ x ∈ l, I64 x) : Ints W (.slice (some ⟨b, 0, none⟩) l.length c) l.reverse := by
  obtain ⟨cur, hB, hx⟩ := h.blk
  refine ⟨⟨_, c, by rw [ints_length, List.length_reverse], by rw [ints_length, List.length_reverse]; exact hc, by rw [ints_length, List.length_reverse]; omega, hcm, .inr ⟨b, 0, rfl, hB.lt, fun k x hk => ?_⟩⟩, fun x hx => hb x (List.mem_reverse.1 hx)⟩
  have hlt : k < l.length := by have := (List.getElem?_eq_some_iff.1 hk).1; rwa [ints_length, List.length_reverse] at this
  rw [Nat.zero_add, hB.cell, hx k hlt, rvF_end hlt hi, ← hk]
  simp [ints, hlt, show l.length - 1 - k < l.length by omega]


theorem clone2_any (v : Value) (zs : List Int) (w : World) (h : Ints w v zs) :
    Calls Try.prog 57 #[v] w fun e w' => ∃ ao c, e = .returned (.slice ao zs.length c) ∧ w'.ownsRow w.heap.size 3 1 (.slice ao zs.length c) zs.length (ints zs) ∧ c ≤ maxLen ∧ Below w.heap.size w w' :=
  (clone1_any v zs w h).mono fun e w' hh => by
    obtain ⟨ao, c, rfl, ho, hb⟩ := hh
    refine ⟨ao, c, rfl, ho, ?_, hb⟩
    rcases ho.2 with ⟨e, _⟩ | ⟨g, cap, cur, e, _, _, _, hm, _⟩
    · simp only [Value.slice.injEq] at e; obtain ⟨_, _, rfl⟩ := e; unfold maxLen; omega
    · simp only [Value.slice.injEq] at e; obtain ⟨_, _, rfl⟩ := e; exact hm
set_option maxHeartbeats 400000 in
theorem reverse_none (ao : Option Addr) (c : Nat) (w : World) : Calls Try.prog 61 #[.slice ao 0 c] w fun e w' => (∃ v, e = .returned v) ∧ w = w' := by
  go_enter Try.func61, Try.ntmps61
  go_wp2_with fail
  go_loopw [2, 3] (fun x y wr => x = .int .i64 0 ∧ y = .int .i64 (-1) ∧ wr = w) (fun x _ _ => 0)
  case atStart => exact ⟨rfl, rfl, rfl⟩
  case round =>
    obtain ⟨rfl, rfl, rfl⟩ := hrel
    go_wp2_with fail
    exact end_none rfl rfl ⟨⟨_, rfl⟩, rfl⟩
theorem bad_rev {k n : Int} {l : List Int} (h : Bad k n [l]) : Bad k n [l.reverse] := by
  rcases h with h | ⟨g, hg, h1, h2, h3⟩
  · exact .inl h
  · exact .inr ⟨g, hg, h1, h2, by simpa [wordB_rev] using h3⟩
set_option maxHeartbeats 1000000 in
theorem Back_ok (g : Nat) (hg : g < 17) (v : Value) (l : List Int) (w : World) (h : Ints w v l) (hw : wordB g l = true) : Calls Try.prog 33 #[gV (kd g) (nm g), v] w fun e w' =>
    ∃ a c, e = .returned (.tuple #[.slice a (ln g (folI g l.reverse)) c, .int .i64 0]) ∧ Nats w' (.slice a (ln g (folI g l.reverse)) c) (wd g (folI g l.reverse)) ∧ Below w.heap.size w w' := by
  have hl30 : l.length ≤ 1000 := by simp [wordB] at hw; omega
  have HI := Lib.hid h.2
  have HC := Lib.hid (fun o => clone2_any v l (w.alloc o) (h.alloc o))
  have HN := Lib.hid (fun v W h => Normal_ok g hg v l.reverse W h (by rw [wordB_rev]; exact hw))
  have HRv := Lib.hid (fun b c W h h1 => reverse_any b l.length c (fun p => l.getD p 0) W h h1 hl30)
  obtain ⟨va, vc, rfl, _, _, _⟩ := h.open
  clear h hw
  go_enter Try.func33, Try.ntmps33
  go_wp2_with fail
  refine (HC.out _).mono ?_
  rintro e w1 ⟨ao, c, rfl, ho, hcm, hb1⟩
  have HB1 : Hid (Below w.heap.size w w1) := Lib.hid ((a1 w _).trans (hb1.mono (by simp)))
  have HG : Hid (Blk 28 w1 w.heap.size #[.int .u8 (kd g), .int .i64 (nm g)]) := Lib.hid ((Blk.new _ _ _).below hb1)
  have hgt : w.heap.size < w1.heap.size := by have := hb1.size; simp at this; omega
  rcases rev_ints ho with h0 | ⟨b, rfl, hB, hc, hR⟩
  · obtain rfl : l = [] := List.eq_nil_of_length_eq_zero h0
    have HNl : Hid (Ints w1 (.slice ao 0 c) []) := Lib.hid (Ints.of_owns (n := 0) ho (by omega) (by simp))
    have g0 := HG.out.at0.1
    have g1 := HG.out.at0.2
    have HRn := Lib.hid (fun W => reverse_none ao c W)
    clear ho hb1 HC HRv
    go_wp2_with fail
    refine (HRn.out _).mono ?_
    rintro e w2 ⟨⟨_, rfl⟩, rfl⟩
    go_wp2_with fail
    refine (HN.out _ _ HNl.out).mono ?_
    rintro e w3 ⟨a, c3, rfl, hn, hb3⟩
    have HN3 := Lib.hid hn
    have HB3 : Hid (Below w.heap.size w w3) := Lib.hid (HB1.out.trans (hb3.mono HB1.out.size))
    clear hn hb3
    go_wp2_with fail
    exact bodyPost_ret (results_tmp2 rfl _ _ _) rfl ⟨_, _, rfl, HN3.out, HB3.out⟩
  · have HRs := Lib.hid hR
    have HB0 := Lib.hid hB
    by_cases h1 : 1 ≤ l.length
    · clear ho hb1 HC hR hB
      go_wp2_with fail
      refine (HRv.out _ _ _ HRs.out h1).mono ?_
      rintro e w2 ⟨⟨_, rfl⟩, i, hi1, hi2, hR2⟩
      have HNl := Lib.hid (hR2.toInts hi1 h1 hl30 hc hcm HI.out)
      have hb0 : w.heap.size + 1 ≤ b := by have := HB0.out; simpa using this
      have HG2 : Hid (Blk 28 w2 w.heap.size #[.int .u8 (kd g), .int .i64 (nm g)]) := Lib.hid ((hR2.bel.block _ (by omega)).trans HG.out)
      have HB2 : Hid (Below w.heap.size w w2) := Lib.hid (HB1.out.trans (hR2.bel.mono (by omega)))
      have g0 := HG2.out.at0.1
      have g1 := HG2.out.at0.2
      clear hR2 hi1 hi2
      go_wp2_with fail
      refine (HN.out _ _ HNl.out).mono ?_
      rintro e w3 ⟨a, c3, rfl, hn, hb3⟩
      have HN3 := Lib.hid hn
      have HB3 : Hid (Below w.heap.size w w3) := Lib.hid (HB2.out.trans (hb3.mono HB2.out.size))
      clear hn hb3
      go_wp2_with fail
      exact bodyPost_ret (results_tmp2 rfl _ _ _) rfl ⟨_, _, rfl, HN3.out, HB3.out⟩
    · obtain rfl : l = [] := List.eq_nil_of_length_eq_zero (by omega)
      have HNl : Hid (Ints w1 (.slice (some ⟨b, 0, none⟩) 0 c) []) := Lib.hid (Ints.of_owns (n := 0) ho (by omega) (by simp))
      have g0 := HG.out.at0.1
      have g1 := HG.out.at0.2
      have HRn := Lib.hid (fun W => reverse_none (some ⟨b, 0, none⟩) c W)
      clear ho hb1 HC HRv
      go_wp2_with fail
      refine (HRn.out _).mono ?_
      rintro e w2 ⟨⟨_, rfl⟩, rfl⟩
      go_wp2_with fail
      refine (HN.out _ _ HNl.out).mono ?_
      rintro e w3 ⟨a, c3, rfl, hn, hb3⟩
      have HN3 := Lib.hid hn
      have HB3 : Hid (Below w.heap.size w w3) := Lib.hid (HB1.out.trans (hb3.mono HB1.out.size))
      clear hn hb3
      go_wp2_with fail
      exact bodyPost_ret (results_tmp2 rfl _ _ _) rfl ⟨_, _, rfl, HN3.out, HB3.out⟩
end Go.Proofs.Ytlnbodpdgebflaa
