/- awake -/
import Derived.Test.YtellnklbkjajbaaDoorRk
namespace Go.Proofs.YtellnklbkjajbaaDoor
open Go.RowKit Go.Shelf

theorem rookL1 : rookL [1] = [1, 1] := by decide +kernel
theorem eqB11 : eqB [1, 1] [1, 1] = true := by decide

theorem IBlk.ints {w : World} {A : Nat} {vs : List Int} (h : IBlk w A vs) (hl : vs.length ≤ 1000000) (hb : ∀ x ∈ vs, I64 x) : Ints w (.slice (some ⟨A, 0, none⟩) vs.length vs.length) vs := by
  refine ⟨⟨_, vs.length, by rw [ints_length], by rw [ints_length]; exact Nat.le_refl _, by rw [ints_length]; omega, by unfold maxLen; omega, .inr ⟨A, 0, rfl, lt_of_block h, fun j x hx => ?_⟩⟩, hb⟩
  have hj := (List.getElem?_eq_some_iff.1 hx).1
  rw [ints_length] at hj
  rw [Nat.zero_add, (h.cell hj).1, ← hx]
  simp [Go.Proofs.YtellnklbkjajbaaDoor.ints, hj]
theorem IBlk.below {w w' : World} {A : Nat} {vs : List Int} (h : IBlk w A vs) (hb : Below w.heap.size w w') : IBlk w' A vs := (hb.block A h.lt).trans h

set_option maxHeartbeats 1000000 in
theorem awake_any (w : World) (hT : Tab w) : Calls Tryd.prog 19 #[] w fun e w' => e = .returned (.bool true) ∧ Below w.heap.size w w' := by
  have hc := cell_new w (.int .i64 1) 3
  have hb : Below w.heap.size w (w.alloc (.cells #[.int .i64 1] 3)) := (Below.refl _ w).alloc (Nat.le_refl _) _
  have h1 : IBlk (w.alloc (.cells #[.int .i64 1] 3)) w.heap.size [1] := heap_alloc_new w _
  have hn : Nats (w.alloc (.cells #[.int .i64 1] 3)) (.slice (some ⟨w.heap.size, 0, none⟩) 1 1) [1] := h1.ints (by decide) (by simp [I64])
  have HR := Lib.hid (Rooks_any _ [1] 1 _ ⟨rfl, by decide, by decide, by decide⟩ hn (tab_block hT (hb.block 1 (tab_lt hT))))
  have HB := Lib.hid hb
  clear hc hb h1 hn hT
  go_enter Tryd.func19, Tryd.ntmps19
  go_wp2_with fail
  refine HR.out.mono ?_
  rintro e w1 ⟨A, rfl, _, hI, hB1⟩
  have HB1 : Hid (Below w.heap.size w w1) := Lib.hid (HB.out.trans (hB1.mono HB.out.size))
  have h11 : IBlk (w1.alloc (.cells (ints [1, 1]).toArray 3)) A [1, 1] := IBlk.alloc (by rw [← rookL1]; exact hI) _
  have h12 : IBlk (w1.alloc (.cells (ints [1, 1]).toArray 3)) w1.heap.size [1, 1] := heap_alloc_new w1 _
  have HE := Lib.hid (equal_any _ _ [1, 1] [1, 1] _ (h11.ints (by decide) (by simp [I64])) (h12.ints (by decide) (by simp [I64])))
  rw [eqB11] at HE
  clear hI hB1 HR HB h11 h12
  go_wp2_with fail
  refine HE.out.mono ?_
  rintro e w2 ⟨rfl, hb2⟩
  have HB2 : Hid (Below w.heap.size w w2) := Lib.hid ((HB1.out.alloc HB1.out.size _).trans (hb2.mono (by have := HB1.out.size; simp; omega)))
  clear hb2
  go_wp2
  go_ret
  exact ⟨rfl, HB2.out⟩
end Go.Proofs.YtellnklbkjajbaaDoor
