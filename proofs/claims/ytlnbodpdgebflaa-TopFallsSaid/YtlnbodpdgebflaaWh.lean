/- Words -/
import Derived.Test.YtlnbodpdgebflaaWg
namespace Go.Proofs.Ytlnbodpdgebflaa
open Go.RowKit

theorem AllW.rows {W : World} {B : Nat} {v : Value} {L : List (List Nat)} (h : AllW W B v L) (hn : L.length ≤ 17592186044416) (hl : ∀ l ∈ L, l.length ≤ 1000 ∧ ∀ x ∈ l, x < 65536) : NatRows W v L := by
  obtain ⟨vs, h1, h2⟩ := h
  exact natRows_own h1 rfl hn fun i u l a b => (h2 i u l a b).nats (hl l (List.mem_of_getElem? b)).1 (hl l (List.mem_of_getElem? b)).2
theorem AllW.form {W : World} {B : Nat} {v : Value} {L : List (List Nat)} (h : AllW W B v L) : ∃ a c, v = .slice a L.length c := by
  obtain ⟨vs, h1, _⟩ := h
  exact owns_form h1
theorem GE.start {w1 : World} {T0 : Nat} : GE (w1.heap.size + 3) (w1.heap.size + 1) w1.heap.size (w1.heap.size + 1 + 1) T0 w1 (((w1.alloc (.cells #[.pointer (some ⟨T0, 0, none⟩)] 78)).alloc (.cells #[.slice none 0 0] 33)).alloc (.cells #[.func (.func 71) #[] (caW (w1.heap.size + 1) w1.heap.size (w1.heap.size + 1 + 1))] 83)) (.slice none 0 0) [] := by
  refine ⟨?_, ?_, blk_at (by simp), ⟨[], World.ownsRow_nil _ _ _ _, fun j u l h => by simp at h⟩, a3 _ _ _ _, by omega, by omega, by omega, by omega, by omega, by omega, by omega, by simp; try omega⟩
  · exact (blk_at (t := 33) (by simp)).alloc _
  · exact ((Blk.new 78 w1 _).alloc _).alloc _

set_option maxHeartbeats 400000 in
theorem Words_bad (k n : Int) (v : Value) (l : List Int) (w : World) (h : Ints w v l) (hb : Bad k n [l]) : Calls Try.prog 23 #[gV k n, v] w fun e w' => e = .returned (.tuple #[.slice none 0 0, .int .i64 2]) ∧ Below w.heap.size w w' := by
  obtain ⟨va, vc, rfl, _, _, _⟩ := h.open
  have HV := Lib.hid h
  clear h
  have HO := Lib.hid (fun v W h => open_bad k n v [l] W h (by simp) hb)
  clear hb
  go_enter Try.func23, Try.ntmps23
  go_wp2_with fail
  refine (HO.out _ _ (rows1 (blk_at (by simp)) ((HV.out.alloc _).alloc _))).mono ?_
  rintro e w1 ⟨rfl, hb1⟩
  have HB1 : Hid (Below w.heap.size w (w1.alloc (.cells #[.pointer none] 78))) := Lib.hid (by
    have h9 : Below w.heap.size w w1 := (a2 w _ _).trans (hb1.mono (by simp; try omega))
    exact h9.alloc h9.size _)
  clear hb1 HO
  go_wp2_with fail
  exact bodyPost_ret (results_tmp2 rfl _ _ _) rfl ⟨rfl, HB1.out⟩

set_option maxRecDepth 20000 in
set_option maxHeartbeats 2000000 in
theorem Words_ok (g : Nat) (hg : g < 17) (v : Value) (l : List Int) (w : World) (h : Ints w v l) (hw : wordB g l = true) : Calls Try.prog 23 #[gV (kd g) (nm g), v] w fun e w' =>
    ∃ a c, e = .returned (.tuple #[.slice a (shP g (ln g (folI g l)) (folI g l)).length c, .int .i64 0]) ∧ NatRows w' (.slice a (shP g (ln g (folI g l)) (folI g l)).length c) (shP g (ln g (folI g l)) (folI g l)) ∧ Below w.heap.size w w' := by
  obtain ⟨va, vc, rfl, _, _, _⟩ := h.open
  have HV := Lib.hid h
  clear h
  have HO := Lib.hid (fun W b hc h => open1_ok g hg (v := .slice va l.length vc) (l := l) W b hc h hw)
  have hlt := folI_lt hg hw
  obtain ⟨y, hy⟩ : ∃ y, y = folI g l := ⟨_, rfl⟩
  rw [← hy] at HO hlt ⊢
  clear hy hw
  have hly := (tx hg hlt).2.1
  have HSl := Lib.hid (shP_len hg hlt)
  have HSm := Lib.hid (fun a => shP_mem hg (ln g y) y hlt (Nat.le_refl _) a)
  have hk4 := (tg hg).2.2.2.1
  go_enter Try.func23, Try.ntmps23
  go_wp2_with fail
  refine (HO.out _ _ (blk_at (by simp)) ((HV.out.alloc _).alloc _)).mono ?_
  rintro e w1 ⟨T0, eb, eo, ec, rfl, hT, hx, hb1, hec⟩
  have HB1 : Hid (Below w.heap.size w w1) := Lib.hid ((a2 w _ _).trans (hb1.mono (by simp; try omega)))
  have HGr := Lib.hid (fun v W h => grow_any (B0 := w1.heap.size + 3) (bA := w1.heap.size + 1) (bT := w1.heap.size) (bG := w1.heap.size + 1 + 1) (w1 := w1) (T0 := T0) g hg hT (ln g y) y [] (.slice none 0 0) [] v W rfl hlt h (World.ownsRow_nil _ _ _ _) (by simp; omega) (by simp) (by
    have h3 : 4 ^ ln g y ≤ 4 ^ 12 := Nat.pow_le_pow_right (by decide) hly
    have h4 : 4 ^ 12 = 16777216 := by decide
    simp; omega))
  clear hb1 HO hT
  go_wp2_with fail
  have HE0 := Lib.hid (GE.start (w1 := w1) (T0 := T0))
  generalize hW0 : (((w1.alloc (.cells #[.pointer (some ⟨T0, 0, none⟩)] 78)).alloc (.cells #[.slice none 0 0] 33)).alloc (.cells #[.func (.func 71) #[] (caW (w1.heap.size + 1) w1.heap.size (w1.heap.size + 1 + 1))] 83)) = W0 at *
  have HEd : Hid (GE (w1.heap.size + 3) (w1.heap.size + 1) w1.heap.size (w1.heap.size + 1 + 1) T0 w1 W0.drew (.slice none 0 0) []) := Lib.hid (HE0.out.below (below_drew (Below.refl _ _)))
  have HX := Lib.hid hx
  have hxd := ck hx HEd.out.bel
  have HS : Hid (W0.drew.cell? ⟨w1.heap.size + 1 + 1, 0, none⟩ = some (.func (.func 71) #[] (caW (w1.heap.size + 1) w1.heap.size (w1.heap.size + 1 + 1))) ∧ W0.drew.cell? ⟨eb, eo, none⟩ = some (.int .i64 y)) := Lib.hid ⟨HEd.out.at.2.2.2, hxd⟩
  clear HE0 hx hxd
  unfold caW at hW0
  rw [hW0]
  clear hW0
  refine wp_region_held_drew (S := fun W => W.cell? ⟨w1.heap.size + 1 + 1, 0, none⟩ = some (.func (.func 71) #[] (caW (w1.heap.size + 1) w1.heap.size (w1.heap.size + 1 + 1))) ∧ W.cell? ⟨eb, eo, none⟩ = some (.int .i64 y)) (by kernel_rfl) HS.out (fun hS0 => ?_)
  refine tk0 (v := (.func (.func 71) #[] #[.pointer (some ⟨w1.heap.size + 1, 0, none⟩), .pointer (some ⟨w1.heap.size, 0, none⟩), .pointer (some ⟨w1.heap.size + 1 + 1, 0, none⟩)])) (by kernel_rfl) (by kernel_rfl) (by kernel_rfl) (fun _ _ _ h => h) (Or.inl ⟨by kernel_rfl, fun w' hSw => by have h9 := hSw.1; unfold caW at h9; go_simp; rfl⟩) hS0 ?_
  try simp only [Act.put, List.setIfInBounds_toArray, List.set_cons_zero, List.set_cons_succ]
  refine tk1 (v := (.slice (some ⟨eb, eo, none⟩) 1 ec)) (by kernel_rfl) (by kernel_rfl) (by kernel_rfl) (fun _ _ _ h => h) (Or.inl ⟨by kernel_rfl, fun w' hSw => by go_simp⟩) hS0 ?_
  try simp only [Act.put, List.setIfInBounds_toArray, List.set_cons_zero, List.set_cons_succ]
  refine tk2 (v := (.pointer (some ⟨eb, eo, none⟩))) (by kernel_rfl) (by kernel_rfl) (by kernel_rfl) (fun _ _ _ h => h) (Or.inl ⟨by kernel_rfl, fun w' hSw => by go_simp⟩) hS0 ?_
  try simp only [Act.put, List.setIfInBounds_toArray, List.set_cons_zero, List.set_cons_succ]
  refine tk3 (v := (.int .i64 y)) (by kernel_rfl) (by kernel_rfl) (by kernel_rfl) (fun _ _ _ h => h) (Or.inl ⟨by kernel_rfl, fun w' hSw => by have h9 := hSw.2; go_simp⟩) hS0 ?_
  try simp only [Act.put, List.setIfInBounds_toArray, List.set_cons_zero, List.set_cons_succ]
  refine wpAnyH_ready (rs := [4]) (by kernel_rfl) (by simp) (AllReadyH.cons rfl (fun K hK => ?_) AllReadyH.nil)
  go_simp
  have HC : Calls Try.prog 71 #[.slice none 0 0, .int .i64 (y : Nat), .pointer (some ⟨w1.heap.size + 1, 0, none⟩), .pointer (some ⟨w1.heap.size, 0, none⟩), .pointer (some ⟨w1.heap.size + 1 + 1, 0, none⟩)] W0.drew (GPost (w1.heap.size + 3) (w1.heap.size + 1) w1.heap.size (w1.heap.size + 1 + 1) T0 w1 W0.drew ([] ++ (shP g (ln g y) y).map ([] ++ ·))) := HGr.out _ _ HEd.out
  rw [show [] ++ (shP g (ln g y) y).map ([] ++ ·) = shP g (ln g y) y by simp] at HC
  refine HC.mono ?_
  clear HC HGr
  rintro e wb ⟨rfl, v8, hE8, hF8⟩
  have HE8 := Lib.hid hE8
  clear hE8 hF8
  refine hK.out _ _ ⟨HE8.out.at.2.2.2, ck HX.out HE8.out.bel⟩ fun _ => ?_
  clear hK
  refine wpAnyH_done (by kernel_rfl) ?_ _
  obtain ⟨a8, c8, rfl⟩ := HE8.out.own.form
  have HR8 : Hid (NatRows wb (.slice a8 (shP g (ln g y) y).length c8) (shP g (ln g y) y)) := Lib.hid (HE8.out.own.rows (by have := HSl.out; omega) (fun a ha => by
    have h9 := (HSm.out a).1 ha
    exact ⟨by rw [h9.2.1]; omega, fun z hz => by have := h9.1 z hz; omega⟩))
  have HB8 : Hid (Below w.heap.size w wb) := Lib.hid (HB1.out.trans (HE8.out.bel.mono HB1.out.size))
  have c9 := HE8.out.at.1
  clear hS0 HS HEd
  go_wp2_with fail
  exact bodyPost_ret (results_tmp2 rfl _ _ _) rfl ⟨_, _, rfl, HR8.out, HB8.out⟩
end Go.Proofs.Ytlnbodpdgebflaa
