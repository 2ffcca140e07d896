/- TopRobinson: what its numbers are -/
import Derived.Test.YtlnbodpdgebflaaU2
import Derived.Test.YtlnbodpdgebflaaSp
import Derived.Test.YtlnbodpdgebflaaQa
import Derived.Test.YtlnbodpdgebflaaOf
namespace Go.Proofs.Ytlnbodpdgebflaa
open Go.RowKit

/-- How many fillings have each number once. -/
def stN (l : List Nat) : Nat := (fillS (nats l) (ones (isum (nats l)).toNat)).length
theorem stdS_nats (l : List Nat) : stdS (nats l) = (stN l : Nat) := rfl
def sqK (L : List (List Nat)) (k : Nat) : Nat := ((L.take k).map fun l => stN l * stN l).sum
def smK (L : List (List Nat)) (k : Nat) : Nat := ((L.take k).map stN).sum
theorem sqK_succ {L : List (List Nat)} {k : Nat} {l : List Nat} (h : L[k]? = some l) : sqK L (k + 1) = sqK L k + stN l * stN l := by
  unfold sqK; rw [List.take_add_one, h]; simp
theorem smK_succ {L : List (List Nat)} {k : Nat} {l : List Nat} (h : L[k]? = some l) : smK L (k + 1) = smK L k + stN l := by
  unfold smK; rw [List.take_add_one, h]; simp
def ownK (g k : Nat) : Nat := ((List.range k).filter fun x => eqB (nats (wd g (bk g x))) (nats (wd g x))).length
theorem ownK_succ (g k : Nat) : ownK g (k + 1) = if eqB (nats (wd g (bk g k))) (nats (wd g k)) = true then ownK g k + 1 else ownK g k := by
  unfold ownK
  rw [List.range_succ, List.filter_append, List.length_append]
  by_cases h : eqB (nats (wd g (bk g k))) (nats (wd g k)) = true <;> simp [List.filter, h]
theorem ownK_le (g k : Nat) : ownK g k ≤ k := by
  have := List.length_filter_le (fun x => eqB (nats (wd g (bk g x))) (nats (wd g x))) (List.range k)
  rw [List.length_range] at this
  exact this
def shR (g : Nat) : List (List Nat) := shL (g + 2) (g + 2) (g + 2) []
def stL (m k : Nat) : List Nat := (List.range k).map fun j => m - j
theorem stL_succ (m k : Nat) : stL m (k + 1) = stL m k ++ [m - k] := by unfold stL; rw [List.range_succ, List.map_append]; rfl
theorem stL_len (m k : Nat) : (stL m k).length = k := by simp [stL]
def rbChk (g : Nat) : Bool :=
  (shR g).all (fun l => shpB (nats l) && decide (stN l ≤ 1000) && decide (l.length ≤ 1000) && l.all fun x => decide (x < 65536)) && decide ((shR g).length ≤ 1000) &&
  (List.range ((shR g).length + 1)).all (fun k => decide (sqK (shR g) k ≤ 1000) && decide (smK (shR g) k ≤ 1000)) &&
  (sqK (shR g) (shR g).length == nE g) && (smK (shR g) (shR g).length == ownK g (nE g))
theorem rb0 : rbChk 0 = true := by decide +kernel
theorem rb1 : rbChk 1 = true := by decide +kernel
theorem rb2 : rbChk 2 = true := by decide +kernel
theorem rb3 : rbChk 3 = true := by decide +kernel
def stChk (g : Nat) : Bool := shpB (nats (stL (g + 1) (g + 1))) && (stN (stL (g + 1) (g + 1)) == (shP g (ln g (nE g - 1)) (nE g - 1)).length) && decide (stN (stL (g + 1) (g + 1)) ≤ 1000)
theorem st0 : stChk 0 = true := by decide +kernel
theorem st1 : stChk 1 = true := by decide +kernel
theorem st2 : stChk 2 = true := by decide +kernel
theorem rb_all {g : Nat} (hg : g < 4) : rbChk g = true := by
  rcases (show g = 0 ∨ g = 1 ∨ g = 2 ∨ g = 3 by omega) with rfl | rfl | rfl | rfl
  · exact rb0
  · exact rb1
  · exact rb2
  · exact rb3
theorem st_all {g : Nat} (hg : g < 3) : stChk g = true := by
  rcases (show g = 0 ∨ g = 1 ∨ g = 2 by omega) with rfl | rfl | rfl
  · exact st0
  · exact st1
  · exact st2
theorem rb_facts {g : Nat} (hg : g < 4) : (∀ l ∈ shR g, shpB (nats l) = true ∧ stN l ≤ 1000) ∧ ((shR g).all (fun l => decide (l.length ≤ 1000) && l.all fun x => decide (x < 65536)) = true) ∧ (shR g).length ≤ 1000 ∧
    (∀ k, k ≤ (shR g).length → sqK (shR g) k ≤ 1000 ∧ smK (shR g) k ≤ 1000) ∧ sqK (shR g) (shR g).length = nE g ∧ smK (shR g) (shR g).length = ownK g (nE g) := by
  have h := rb_all hg
  unfold rbChk at h
  simp only [Bool.and_eq_true, beq_iff_eq, decide_eq_true_eq] at h
  obtain ⟨⟨⟨⟨h1, h2⟩, h3⟩, h4⟩, h5⟩ := h
  refine ⟨fun l hl => ?_, ?_, h2, fun k hk => ?_, h4, h5⟩
  · have := List.all_eq_true.1 h1 l hl
    simp only [Bool.and_eq_true, decide_eq_true_eq] at this
    exact ⟨this.1.1.1, this.1.1.2⟩
  · rw [List.all_eq_true]
    intro l hl
    have := List.all_eq_true.1 h1 l hl
    simp only [Bool.and_eq_true, decide_eq_true_eq] at this ⊢
    exact ⟨this.1.2, this.2⟩
  · have := List.all_eq_true.1 h3 k (List.mem_range.2 (by omega))
    simp only [Bool.and_eq_true, decide_eq_true_eq] at this
    exact this
set_option maxHeartbeats 400000 in
theorem turns_any (W : World) : Calls Try.prog 67 #[] W fun e w' => e = .returned (.bool true) ∧ Below W.heap.size W w' := by
  have HN := Lib.hid (fun v W h => Normal_ok 1 (by decide) v [1, 1, 0] W h (by decide +kernel))
  have e1 : ln 1 (folI 1 [1, 1, 0]) = 1 := by decide +kernel
  have e2 : wd 1 (folI 1 [1, 1, 0]) = [0] := by decide +kernel
  have e3 : gV (kd 1) (nm 1) = .agg #[.int .u8 65, .int .i64 2] := rfl
  rw [e1, e2, e3] at HN
  clear e1 e2 e3
  have HI : Hid (Ints (W.alloc (.cells #[.int .i64 1, .int .i64 1, .int .i64 0] 3)) (.slice (some ⟨W.heap.size, 0, none⟩) 3 3) [1, 1, 0]) := Lib.hid (Ints.of_owns (n := 3) (World.ownsRow_lit (base := W.heap.size) (e := 3) (size := 1) W #[.int .i64 1, .int .i64 1, .int .i64 0] 3 (Nat.le_refl _) (by unfold maxLen; omega) (by simp)) (by omega) (by intro x hx; simp at hx; unfold I64; omega))
  have HE := Lib.hid (fun v v' W h h' => equal_any v v' (nats [0]) [0] W h h')
  have e4 : eqB (nats [0]) [0] = true := by decide
  rw [e4] at HE
  go_enter Try.func67, Try.ntmps67
  go_wp2_with fail
  refine (HN.out _ _ HI.out).mono ?_
  rintro e w1 ⟨a, c, rfl, hn, hb⟩
  have HN1 := Lib.hid hn
  have HB1 : Hid (Below W.heap.size W w1) := Lib.hid (bl1 hb)
  clear hn hb
  go_wp2_with fail
  refine (HE.out _ _ _ (HN1.out.alloc _) (one_ints _ _ _ (Blk.new _ _ _) (by unfold I64; omega))).mono ?_
  rintro e w2 ⟨rfl, hb⟩
  have HB2 : Hid (Below W.heap.size W w2) := Lib.hid (HB1.out.trans ((bl1 hb).mono HB1.out.size))
  clear hb
  go_wp2_with fail
  go_ret
  exact ⟨rfl, HB2.out⟩
end Go.Proofs.Ytlnbodpdgebflaa
