/- SignsGood: the walk -/
import Derived.Test.YtopmdmafameknaaGf
import Derived.Test.YtopmdmafameknaaBw
namespace Go.Proofs.Ytopmdmafameknaa
open Go.RowKit

theorem seqs_all {m a b c d : Int} (h : ∀ k, k < 4 → (isM m && seqB m.toNat (sel a b c d k)) = true) : seqsI m a b c d = true := by
  have hm : isM m = true := by have := h 0 (by decide); rw [Bool.and_eq_true] at this; exact this.1
  unfold seqsI
  rw [hm, seqs_good fun k hk => by have := h k hk; rw [Bool.and_eq_true] at this; exact this.2]; rfl
theorem seqs_each {m a b c d : Int} (h : seqsI m a b c d = true) (k : Nat) (hk : k < 4) : (isM m && seqB m.toNat (sel a b c d k)) = true := by
  unfold seqsI seqs at h
  simp only [Bool.and_eq_true] at h
  obtain ⟨h0, ⟨⟨h1, h2⟩, h3⟩, h4⟩ := h
  rw [h0, Bool.true_and]
  match k, hk with
  | 0, _ => exact h1
  | 1, _ => exact h2
  | 2, _ => exact h3
  | 3, _ => exact h4

def A4 (w : World) (g : Nat) (a b c d : Int) : Prop := w.cell? ⟨g, 0, none⟩ = some (.int .i64 a) ∧ w.cell? ⟨g, 1, none⟩ = some (.int .i64 b) ∧ w.cell? ⟨g, 2, none⟩ = some (.int .i64 c) ∧ w.cell? ⟨g, 3, none⟩ = some (.int .i64 d)
theorem A4.below {W w : World} {g : Nat} {a b c d : Int} (h : A4 W g a b c d) (hb : Below (g + 1) W w) : A4 w g a b c d :=
  ⟨ckg h.1 hb (Nat.lt_succ_self _), ckg h.2.1 hb (Nat.lt_succ_self _), ckg h.2.2.1 hb (Nat.lt_succ_self _), ckg h.2.2.2 hb (Nat.lt_succ_self _)⟩
theorem A4.new (w : World) (a b c d : Int) (t : TypeId) : A4 (w.alloc (.cells #[.int .i64 a, .int .i64 b, .int .i64 c, .int .i64 d] t)) w.heap.size a b c d := by
  refine ⟨?_, ?_, ?_, ?_⟩ <;> (rw [World.cell?_alloc_new]; rfl)

set_option maxHeartbeats 1000000 in
set_option maxRecDepth 100000 in
theorem signsGood_bad (m a b c d : Int) (w : World) (hs : seqsI m a b c d = false) :
    Calls Try.prog 8 #[.int .i64 m, arr4 a b c d] w fun e w' => e = .returned (.bool true) ∧ Below w.heap.size w w' := by
  have HG := Lib.hid (fun w => Good_any m a b c d w)
  have HA := Lib.hid (fun w => Array_any m a b c d w)
  have HR := Lib.hid (fun (s:Int) w => rSequence_any m s w)
  have HX : Hid (¬ ∀ k, k < 4 → (isM m && seqB m.toNat (sel a b c d k)) = true) := fun h => by rw [seqs_all h] at hs; cases hs
  have H1 : Hid (∀ w e w', GoodPost w m a b c d e w' → e = .returned (.tuple #[.bool false, .int .i64 2]) ∧ Below w.heap.size w w') := fun w e w' h => by unfold GoodPost at h; rw [hs] at h; simpa using h
  have H2 : Hid (∀ w e w', ArrPost w m a b c d e w' → e = .returned (.tuple #[.slice none 0 0, .int .i64 2]) ∧ Below w.heap.size w w') := fun w e w' h => by unfold ArrPost at h; rw [hs] at h; simpa using h
  obtain ⟨W1, hW1⟩ : ∃ W1, W1 = w.alloc (.cells #[.int .i64 a, .int .i64 b, .int .i64 c, .int .i64 d] 43) := ⟨_, rfl⟩
  have hz : W1.heap.size = w.heap.size + 1 := by rw [hW1]; simp
  have HC : Hid (∀ w', Below (w.heap.size + 1) W1 w' → A4 w' w.heap.size a b c d) := fun w' hb => by
    have h : A4 W1 w.heap.size a b c d := by rw [hW1]; exact A4.new w a b c d 43
    exact h.below hb
  have HE : Hid (∀ w', Below (w.heap.size + 1) W1 w' → Below w.heap.size w w') := fun w' hb => by
    have h : Below w.heap.size w W1 := by rw [hW1]; exact (Below.refl w.heap.size w).alloc (Nat.le_refl _) _
    exact h.trans (hb.mono (by omega))
  have HB0 := Lib.hid (Below.refl (w.heap.size + 1) W1)
  have HW1 := Lib.hid hW1
  have HZ := Lib.hid hz
  clear hs hW1 hz
  go_enter Try.func8, Try.ntmps8
  go_wp2_with fail
  try rw [← HW1.out]
  have c4 := HC.out _ HB0.out
  obtain ⟨c0, c1, c2, c3⟩ := c4
  go_wp2_with fail
  refine (HG.out _).mono ?_
  intro e w1 hq
  obtain ⟨rfl, hb1⟩ := H1.out _ _ _ hq
  have HB1 : Hid (Below (w.heap.size + 1) W1 w1) := hb1.mono (by rw [HZ.out]; omega)
  clear hq hb1 c0 c1 c2 c3
  obtain ⟨c0, c1, c2, c3⟩ := HC.out _ HB1.out
  go_wp2_with fail
  refine (HA.out _).mono ?_
  intro e w2 hq
  obtain ⟨rfl, hb2⟩ := H2.out _ _ _ hq
  have HB2 : Hid (Below (w.heap.size + 1) W1 w2) := HB1.out.trans (hb2.mono (by have := HB1.out.size; rw [HZ.out] at this; omega))
  clear hq hb2 c0 c1 c2 c3
  obtain ⟨c0, c1, c2, c3⟩ := HC.out _ HB2.out
  go_wp2_with fail
  go_loopw [24] (fun i w' => ∃ k : Nat, k ≤ 4 ∧ i = .int .i64 k ∧ (∀ j : Nat, j < k → (isM m && seqB m.toNat (sel a b c d j)) = true) ∧ Below (w.heap.size + 1) W1 w') (fun i _ => 4 - (intOf i).toNat)
  case atStart => exact ⟨0, Nat.zero_le _, rfl, fun j hj => absurd hj (by omega), HB2.out⟩
  case round =>
    clear c0 c1 c2 c3
    obtain ⟨k, hk, rfl, ha, hb⟩ := hrel
    have HB3 := Lib.hid hb
    clear hb
    by_cases hlt : k < 4
    · have hix := idx4 a b c d k hlt
      have HA := Lib.hid ha
      have HQ := Lib.hid (fun w => HR.out (sel a b c d k) w)
      cases hq : (isM m && seqB m.toNat (sel a b c d k)) with
      | true =>
        have HN := Lib.hid (fun (j : Nat) (hj : j < k + 1) => if e : j = k then e ▸ hq else HA.out j (by omega))
        rw [hq] at HQ
        clear hq ha
        generalize sel a b c d k = z at *
        go_wp2_with fail
        refine (HQ.out _).mono ?_
        rintro e w4 ⟨rfl, hb4⟩
        have HB4 : Hid (Below (w.heap.size + 1) W1 w4) := HB3.out.trans (hb4.mono (by have := HB3.out.size; rw [HZ.out] at this; omega))
        clear hb4
        go_wp2
        go_roundw
        case rel => exact ⟨k + 1, by omega, by go_num, HN.out, HB4.out⟩
        case measure => simp [intOf]; omega
      | false =>
        rw [hq] at HQ
        clear hq ha
        generalize sel a b c d k = z at *
        go_wp2_with fail
        refine (HQ.out _).mono ?_
        rintro e w4 ⟨rfl, hb4⟩
        have HB4 : Hid (Below (w.heap.size + 1) W1 w4) := HB3.out.trans (hb4.mono (by have := HB3.out.size; rw [HZ.out] at this; omega))
        clear hb4
        go_wp2_with fail
        refine (awake_any w4).mono ?_
        rintro e w6 ⟨rfl, hb6⟩
        have HB6 : Hid (Below (w.heap.size + 1) W1 w6) := HB4.out.trans (hb6.mono (by have := HB4.out.size; rw [HZ.out] at this; omega))
        clear hb6
        go_wp2
        go_ret
        exact ⟨rfl, HE.out _ HB6.out⟩
    · obtain rfl : k = 4 := by omega
      exact absurd ha HX.out
end Go.Proofs.Ytopmdmafameknaa
