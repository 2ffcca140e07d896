/- Avoid: the first permutation that hits nothing -/
import Derived.Test.YtellnklbkjajbaaDoorIa
import Derived.Test.YtellnklbkjajbaaDoorHh
import Derived.Test.YtellnklbkjajbaaDoorAw
namespace Go.Proofs.YtellnklbkjajbaaDoor
open Go.RowKit Go.Shelf
attribute [local go_sem] Oper.semAt_some

/-- What Avoid answers. -/
def AvPost (n : Nat) (bs : List Nat) (e : Ending) (w' : World) : Prop :=
  (freeL n bs = [] ∧ e = .returned (.tuple #[.slice none 0 0, .int .i64 4])) ∨ ∃ p ps v', freeL n bs = p :: ps ∧ e = .returned (.tuple #[v', .int .i64 0]) ∧ Nats w' v' p

theorem owns_lowT {w w' : World} {B T C e s n : Nat} {v : Value} {xs : List Value} (h : w.ownsRow C e s v n xs) (hT : T ≤ C) (hl : LowT B T w w') : w'.ownsRow C e s v n xs := by
  obtain ⟨h1, h2⟩ := h
  refine ⟨h1, ?_⟩
  rcases h2 with h2 | ⟨g, cap, cur, hv, hg, hh, r⟩
  · exact .inl h2
  · exact .inr ⟨g, cap, cur, hv, hg, hl.hi g _ (Nat.le_trans hT hg) hh rfl, r⟩
theorem low_cell {B T : Nat} {X Y : World} (h : LowT B T X Y) {a : Addr} {v : Value} (hc : X.cell? a = some v) (ha : a.block < B) : Y.cell? a = some v :=
  (World.cell?_of_block (h.lo a.block ha (World.block_lt_of_cell? X _ hc))).trans hc

theorem Avoid_bad (v : Value) (xs : List Int) (w : World) (hb : boardB xs = false) (h : Ints w v xs) :
    Calls Tryd.prog 23 #[v] w fun e w' => e = .returned (.tuple #[.slice none 0 0, .int .i64 2]) ∧ Below w.heap.size w w' := by
  have hB0 : Below w.heap.size w ((w.alloc (.cells #[.slice none 0 0] 22)).alloc (.cells #[.int .i64 0] 23)) := ((Below.refl _ w).alloc (Nat.le_refl _) _).alloc (by simp) _
  have HB := Lib.hid (isBoard_any _ xs _ (h.below hB0 (Nat.le_refl _)))
  rw [hb] at HB
  have HB0 := Lib.hid hB0
  clear h hB0
  have c2 := (World.cell?_of_block (a := ⟨w.heap.size, 0, none⟩) (Below.heap_alloc (w.alloc (.cells #[.slice none 0 0] 22)) (.cells #[.int .i64 2] 23) w.heap.size (by simp))).trans (cell_new w (.slice none 0 0) 22)
  have c3 := cell_new (w.alloc (.cells #[.slice none 0 0] 22)) (.int .i64 2) 23
  rw [World.size_alloc] at c3
  have hB2 : Below w.heap.size w ((w.alloc (.cells #[.slice none 0 0] 22)).alloc (.cells #[.int .i64 2] 23)) := ((Below.refl _ w).alloc (Nat.le_refl _) _).alloc (by simp) _
  go_enter Tryd.func23, Tryd.ntmps23
  go_wp2_with fail
  refine HB.out.mono ?_
  rintro e w' ⟨rfl, rfl⟩
  go_wp2_with fail
  exact bodyPost_ret (v := .tuple #[.slice none 0 0, .int .i64 2]) (by simp [results, Tryd.f23, go_sem, c2, c3]) rfl ⟨rfl, hB2⟩

set_option maxRecDepth 100000 in
set_option maxHeartbeats 2000000 in
theorem Avoid_good (v : Value) (bs : List Nat) (n : Nat) (w : World) (hb : Brd n bs) (h : Nats w v bs) (hT : Tab w) :
    Calls Tryd.prog 23 #[v] w fun e w' => AvPost n bs e w' ∧ Below w.heap.size w w' := by
  have hl := hb.len
  have hn6 := hb.le
  have hb1 : Below w.heap.size w (w.alloc (.cells #[.slice none 0 0] 22)) := (Below.refl _ w).alloc (Nat.le_refl _) _
  have hB0 : Below w.heap.size w ((w.alloc (.cells #[.slice none 0 0] 22)).alloc (.cells #[.int .i64 0] 23)) := hb1.alloc (by simp) _
  have hs0 : ((w.alloc (.cells #[.slice none 0 0] 22)).alloc (.cells #[.int .i64 0] 23)).heap.size = w.heap.size + 1 + 1 := by simp only [World.size_alloc]
  have HB := Lib.hid (isBoard_any v (nats bs) _ (h.below hB0 (Nat.le_refl _)))
  rw [boardB_mk hb] at HB
  have HO := Lib.hid (other_any v bs n _ hb (h.below hB0 (Nat.le_refl _)))
  rw [hs0] at HO
  have d2 : ((w.alloc (.cells #[.slice none 0 0] 22)).alloc (.cells #[.int .i64 0] 23)).heap[w.heap.size]? = some (.cells #[.slice none 0 0] 22 (0, 0)) := (Below.heap_alloc _ _ _ (by simp)).trans (heap_alloc_new w _)
  have d3 : ((w.alloc (.cells #[.slice none 0 0] 22)).alloc (.cells #[.int .i64 0] 23)).heap[w.heap.size + 1]? = some (.cells #[.int .i64 0] 23 (0, 0)) := by
    have := heap_alloc_new (w.alloc (.cells #[.slice none 0 0] 22)) (.cells #[.int .i64 0] 23)
    rwa [World.size_alloc] at this
  have HC := Lib.hid (And.intro d2 (And.intro d3 (And.intro hB0 hs0)))
  have HT := Lib.hid hT
  have hlt := tab_lt hT
  clear d2 d3 hb1 hB0 hs0 h hT
  refine (callsIn_wide (n := 10)).1 ?_
  refine callsIn_of_wp_marks Tryd.func23 rfl trivial ?_ rfl
  simp only [Tryd.ntmps23, List.size_toArray, List.length_cons, List.length_nil, Nat.reduceAdd, Nat.reduceSub, Array.replicate_succ, Array.replicate_zero, List.push_toArray, List.append_toArray, List.nil_append, List.cons_append]
  gi_wp2_with fail
  refine ⟨trivial, (callsIn_wide.2 HB.out).mono ?_⟩
  rintro e w' ⟨rfl, rfl⟩
  gi_wp2_with fail
  refine ⟨trivial, (callsIn_wide.2 HO.out).mono ?_⟩
  rintro e w5 ⟨rfl, hN5, hB5⟩
  obtain ⟨d2, d3, hB0, hs0⟩ := HC.out
  generalize ((w.alloc (.cells #[.slice none 0 0] 22)).alloc (.cells #[.int .i64 0] 23)) = w2 at *
  have HN5 := Lib.hid hN5
  have HB5 := Lib.hid hB5
  clear hN5 hB5 HO HB HC
  gi_wp2_with fail
  refine ⟨trivial, (callsIn_wide.2 (permutations_any _ _ _ _)).mono ?_⟩
  rintro e w' ⟨rfl, rfl⟩
  gi_wp2_with fail
  have hs5 : w.heap.size + 1 + 1 < w5.heap.size := lt_of_block HN5.out
  have hcb := cell_new w5 (.slice (some ⟨w.heap.size + 1 + 1, 0, none⟩) n n) 22
  have hB56 : Below w5.heap.size w5 (w5.alloc (.cells #[.slice (some ⟨w.heap.size + 1 + 1, 0, none⟩) n n] 22)) := (Below.refl _ w5).alloc (Nat.le_refl _) _
  have hs6 : (w5.alloc (.cells #[.slice (some ⟨w.heap.size + 1 + 1, 0, none⟩) n n] 22)).heap.size = w5.heap.size + 1 := World.size_alloc _ _
  have h26 : Below (w.heap.size + 1 + 1) w2 (w5.alloc (.cells #[.slice (some ⟨w.heap.size + 1 + 1, 0, none⟩) n n] 22)) := HB5.out.trans (hB56.mono (by omega))
  have k2 := (h26.block w.heap.size (by omega)).trans d2
  have k3 := (h26.block (w.heap.size + 1) (by omega)).trans d3
  have hN6 : NatBlk (w5.alloc (.cells #[.slice (some ⟨w.heap.size + 1 + 1, 0, none⟩) n n] 22)) (w.heap.size + 1 + 1) (otherL n bs) := HN5.out.below hB56
  have hB6 : Below w.heap.size w (w5.alloc (.cells #[.slice (some ⟨w.heap.size + 1 + 1, 0, none⟩) n n] 22)) := hB0.trans (h26.mono (by omega))
  clear d2 d3 hB0 hB56 h26 HN5 HB5 hs0
  generalize (w5.alloc (.cells #[.slice (some ⟨w.heap.size + 1 + 1, 0, none⟩) n n] 22)) = w6 at *
  have hob := other_brd hb
  have HIt := perms_iter_pre (otherL n bs) w.heap.size w5.heap.size w6 (by omega) (by omega) (tab_block HT.out (hB6.block 1 hlt)) (by rw [hob.len]; exact hcb) (Nat.le_refl _)
    (fun k hk => ⟨_, _, rfl, by omega, by have := (hN6.cell hk).1; simpa using this⟩) (by omega) (fun x hx => Nat.lt_of_lt_of_le (hob.lt x hx) (by have := pw6 n hn6; omega)) (by rw [hob.len]; omega)
  rw [hob.len] at HIt
  have HF : Hid (permsF (otherL n bs) 0 [] = freeL n bs) := rfl
  have HB6 := Lib.hid hB6
  have HBd := Lib.hid hb
  clear hob hcb hb hN6 hB6
  refine range_mineT (n := 10) (gf := 78) (lb := #[.pointer (some ⟨w5.heap.size, 0, none⟩)]) rfl (enters_of Tryd.func78 (by kernel_rfl) rfl) HIt (fun _ => rfl) (by omega) (fun x X l o o' h ho hp => hPreP _ _ _ x X l o o' h ho hp)
    (fun pre W => pre = [] ∧ Below w6.heap.size w6 W) (fun T pre W => ∃ x v', pre = [x] ∧ W.cell? ⟨w.heap.size, 0, none⟩ = some v' ∧ W.cell? ⟨w.heap.size + 1, 0, none⟩ = some (.int .i64 0) ∧ W.ownsRow T 3 1 v' n (ints (nats x.2)) ∧ (∀ j ∈ x.2, j < 8) ∧ Below w.heap.size w W)
    (fun s X Y hs hb' => ⟨hs.1, hs.2.trans hb'⟩)
    (fun T s X Y ⟨x, v', e1, e2, e3, e4, e5, e6⟩ hL => ⟨x, v', e1, low_cell hL e2 (by show w.heap.size < _; omega), low_cell hL e3 (by show w.heap.size + 1 < _; omega), owns_lowT e4 (Nat.le_refl _) hL, e5,
      ⟨hL.os.trans e6.os, hL.tape.trans e6.tape, hL.output.trans e6.output, Nat.le_trans e6.size hL.size, fun k hk => (hL.lo k (by omega) (Nat.lt_of_lt_of_le hk e6.size)).trans (e6.block k hk)⟩⟩)
    ⟨rfl, Below.refl _ _⟩
    (fun x => { tmps := #[v, undef, .pointer (some ⟨w.heap.size, 0, none⟩), .pointer (some ⟨w.heap.size + 1, 0, none⟩), .slice (some ⟨x.1, 0, none⟩) n n, v, .bool true, .bool false, v, .slice (some ⟨w.heap.size + 1 + 1, 0, none⟩) n n, .func (.func 78) #[] #[.pointer (some ⟨w5.heap.size, 0, none⟩)], .slice (some ⟨x.1, 0, none⟩) n n, undef, undef], defers := [] }) ?assign ?body ?done ?stop
  case assign =>
    intro l x W K hK
    gi_wp2
    exact hK
  case body =>
    rintro l' pre x W ⟨rfl, hMW⟩ ⟨hp, hpl, hp8, hpA, _⟩
    have hNx : Nats W (.slice (some ⟨x.1, 0, none⟩) n n) x.2 := by
      have := hp.ints (by rw [nats_length]; omega) (nats_I64 fun j hj => by have := hp8 j hj; omega)
      rwa [nats_length, hpl] at this
    have hCl := clone1_any _ _ W hNx
    rw [nats_length, hpl] at hCl
    have HCl := Lib.hid hCl
    have hd2 := (hMW.block w.heap.size (by omega)).trans k2
    have hd3 := (hMW.block (w.heap.size + 1) (by omega)).trans k3
    have hsW := hMW.size
    have HBW := Lib.hid (HB6.out.trans (hMW.mono HB6.out.size))
    have HP8 := Lib.hid hp8
    clear hCl hNx hp hp8 hpA HIt k2 k3 hMW
    gi_wp2_with fail
    refine ⟨trivial, (CallsIn.inRound l' (callsIn_wide.2 HCl.out)).mono ?_⟩
    rintro e w4 ⟨ao, c, rfl, hO, hB4⟩
    have e2 := (hB4.block w.heap.size (by omega)).trans hd2
    have e3 := (hB4.block (w.heap.size + 1) (by omega)).trans hd3
    obtain ⟨a2, b2⟩ := boxB_cell e2
    obtain ⟨a3, b3⟩ := boxB_cell e3
    have HO := Lib.hid hO
    have HB4 := Lib.hid hB4
    clear hO hB4 HCl e2 e3 hd2 hd3
    gi_wp2_with fail
    have hs4 := HB4.out.size
    refine ⟨⟨by simp [World.setCell]; omega, fun k h1 h2 => ?_⟩, x, .slice ao n c, rfl, ?_, ?_, ?_, HP8.out, ?_⟩
    · rw [Below.heap_setCell _ _ _ _ (by show ¬ _; simp; omega), Below.heap_setCell _ _ _ _ (by show ¬ _; simp; omega)]
      exact HB4.out.block k h2
    · rw [World.cell?_setCell_other _ _ _ _ (by intro e'; simp only [Addr.mk.injEq] at e'; omega)]
      exact World.cell?_setCell_same' _ _ _ (by rw [a2]; rfl)
    · refine World.cell?_setCell_same' _ _ _ ?_
      rw [World.cell?_setCell_other _ _ _ _ (by intro e'; simp only [Addr.mk.injEq] at e'; omega), a3]; rfl
    · exact owns_lowT (owns_lowT HO.out (Nat.le_refl _) (setCell_low (B := 0) w4 ⟨w.heap.size, 0, none⟩ _ (Nat.zero_le _) (by show w.heap.size < _; omega))) (Nat.le_refl _) (setCell_low (B := 0) _ ⟨w.heap.size + 1, 0, none⟩ _ (Nat.zero_le _) (by show w.heap.size + 1 < _; omega))
    · exact (((HBW.out.trans (HB4.out.mono HBW.out.size)).setCell (p := ⟨w.heap.size, 0, none⟩) (Nat.le_refl _) _).setCell (p := ⟨w.heap.size + 1, 0, none⟩) (by show w.heap.size ≤ w.heap.size + 1; omega) _)
  case done =>
    rintro D xs W hD hS ⟨rfl, hMW⟩ hK
    have e2 := (hMW.block w.heap.size (by omega)).trans k2
    have e3 := (hMW.block (w.heap.size + 1) (by omega)).trans k3
    obtain ⟨a2, b2⟩ := boxB_cell e2
    obtain ⟨a3, b3⟩ := boxB_cell e3
    have HS : Hid (freeL n bs = []) := Lib.hid (HF.out.symm.trans hS.symm)
    have HBW := Lib.hid (HB6.out.trans (hMW.mono HB6.out.size))
    clear hS k2 k3 hMW e2 e3 HIt
    gi_wp2_with fail
    have hK' : ((W.setCell ⟨w.heap.size, 0, none⟩ (.slice none 0 0)).setCell ⟨w.heap.size + 1, 0, none⟩ (.int .i64 4)).heap[D]? = some (.deferred (some [])) := by
      rw [Below.heap_setCell _ _ _ _ (by show ¬ _; simp; omega), Below.heap_setCell _ _ _ _ (by show ¬ _; simp; omega)]
      exact hK
    have g2 : ((W.setCell ⟨w.heap.size, 0, none⟩ (.slice none 0 0)).setCell ⟨w.heap.size + 1, 0, none⟩ (.int .i64 4)).cell? ⟨w.heap.size, 0, none⟩ = some (.slice none 0 0) := by
      rw [World.cell?_setCell_other _ _ _ _ (by intro e'; simp only [Addr.mk.injEq] at e'; omega)]
      exact World.cell?_setCell_same' _ _ _ (by rw [a2]; rfl)
    have g3 : ((W.setCell ⟨w.heap.size, 0, none⟩ (.slice none 0 0)).setCell ⟨w.heap.size + 1, 0, none⟩ (.int .i64 4)).cell? ⟨w.heap.size + 1, 0, none⟩ = some (.int .i64 4) := by
      refine World.cell?_setCell_same' _ _ _ ?_
      rw [World.cell?_setCell_other _ _ _ _ (by intro e'; simp only [Addr.mk.injEq] at e'; omega), a3]; rfl
    have hBF := ((HBW.out.setCell (p := ⟨w.heap.size, 0, none⟩) (Nat.le_refl _) (.slice none 0 0)).setCell (p := ⟨w.heap.size + 1, 0, none⟩) (by show w.heap.size ≤ w.heap.size + 1; omega) (.int .i64 4)).trans (putObj_below _ _ (.deferred none) (by omega) hK')
    have q2 := cell_kept g2 (grownBy_putObj' _ D (.deferred none)) (fun r e => by cases e; exact ⟨_, hK', rfl⟩)
    have q3 := cell_kept g3 (grownBy_putObj' _ D (.deferred none)) (fun r e => by cases e; exact ⟨_, hK', rfl⟩)
    refine ⟨by simp, .inl ⟨_, _, rfl, run_takeDeferred hK', ?_⟩⟩
    exact ⟨.tuple #[.slice none 0 0, .int .i64 4], by simp [results, Tryd.f23, go_sem, q2, q3], .inl ⟨HS.out, rfl⟩, hBF⟩
  case stop =>
    rintro D T pre W hD hSp ⟨x, v', rfl, e2, e3, e4, e5, e6⟩ hK
    obtain ⟨t, ht⟩ := hSp
    gi_wp2_with fail
    have q2 := cell_kept e2 (grownBy_putObj' _ D (.deferred none)) (fun r e => by cases e; exact ⟨_, hK, rfl⟩)
    have q3 := cell_kept e3 (grownBy_putObj' _ D (.deferred none)) (fun r e => by cases e; exact ⟨_, hK, rfl⟩)
    have hO := owns_lowT e4 (Nat.le_refl _) (putObj_low (B := 0) (T := T) W (.deferred none) (Nat.zero_le _) hK rfl)
    refine ⟨by simp, .inl ⟨_, _, rfl, run_takeDeferred hK, ?_⟩⟩
    exact ⟨.tuple #[v', .int .i64 0], by simp [results, Tryd.f23, go_sem, q2, q3], .inr ⟨x.2, t, v', HF.out.symm.trans ht.symm, rfl, Ints.of_owns hO (by omega) (nats_I64 fun j hj => by have := e5 j hj; omega)⟩, e6.trans (putObj_below _ _ _ (by omega) hK)⟩
end Go.Proofs.YtellnklbkjajbaaDoor
