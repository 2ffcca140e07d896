/- rookNumbers, Rooks -/
import Derived.Test.YtellnklbkjajbaaDoorRp
import Derived.Test.YtellnklbkjajbaaDoorBr
namespace Go.Proofs.YtellnklbkjajbaaDoor
open Go.RowKit Go.Shelf

theorem place_any (bs : List Nat) (A Bb Bw Bp : Nat) (hA : A ≠ 1) (hbs : ∀ x ∈ bs, x < 64) (hn : bs.length ≤ 6) : ∀ (m i tk k : Nat) (vs : List Int) (w : World), i + m = bs.length → RkEnv bs A Bb Bw Bp w → IBlk w A vs → k ≤ i →
    vs.length = bs.length + 1 → tk < 64 →
    Calls Tryd.prog 77 #[.int .i64 i, .int .i64 tk, .int .i64 k, .pointer (some ⟨Bb, 0, none⟩), .pointer (some ⟨Bw, 0, none⟩), .pointer (some ⟨Bp, 0, none⟩)] w fun e w' =>
      (∃ v, e = .returned v) ∧ IBlk w' A (rk (bs.drop i) tk k vs) ∧ Mod (· = A) w w'
  | 0, i, tk, k, vs, w, hi, hE, hB, hk, hl, htk => by
    obtain rfl : i = bs.length := by omega
    rw [List.drop_length]
    exact place_leaf bs A Bb Bw Bp tk k vs w hE hB hk hl
  | m + 1, i, tk, k, vs, w, hi, hE, hB, hk, hl, htk =>
    place_step bs A Bb Bw Bp i tk k m vs w hE hB hk hi hl hA hbs hn htk fun tk k vs w hE hB hk hl htk =>
      place_any bs A Bb Bw Bp hA hbs hn m (i + 1) tk k vs w (by omega) hE hB hk hl htk

theorem mod_cell {A : Nat} {w w' : World} (hm : Mod (· = A) w w') {a : Addr} (ha : a.block ≠ A) {v : Value} (h : w.cell? a = some v) : w'.cell? a = some v :=
  (World.cell?_of_block (hm.block a.block (World.block_lt_of_cell? w _ h) ha)).trans h

theorem rkEnv_mk {bs : List Nat} {A Bb Bw Bp : Nat} {w : World} (hT : Tab w) (hA : A ≠ 1) {ao : Option Addr} {cap : Nat} (hb : w.cell? ⟨Bb, 0, none⟩ = some (.slice ao bs.length cap)) (hcap : bs.length ≤ cap)
    (hel : ∀ k, k < bs.length → ∃ b o, ao = some ⟨b, o, none⟩ ∧ b ≠ A ∧ w.cell? ⟨b, o + k, none⟩ = some (.int .i64 (bs.getD k 0 : Nat)))
    (hw : w.cell? ⟨Bw, 0, none⟩ = some (.slice (some ⟨A, 0, none⟩) (bs.length + 1) (bs.length + 1)))
    (hp : w.cell? ⟨Bp, 0, none⟩ = some (.func (.func 77) #[] #[.pointer (some ⟨Bb, 0, none⟩), .pointer (some ⟨Bw, 0, none⟩), .pointer (some ⟨Bp, 0, none⟩)]))
    (h1 : Bb ≠ A) (h2 : Bw ≠ A) (h3 : Bp ≠ A) : RkEnv bs A Bb Bw Bp w := fun w' hm =>
  ⟨TabK.mod hA hm hT, ⟨ao, cap, mod_cell hm h1 hb, hcap, fun k hk => by obtain ⟨b, o, e, hne, hc⟩ := hel k hk; exact ⟨b, o, e, mod_cell hm hne hc⟩⟩, mod_cell hm h2 hw, mod_cell hm h3 hp⟩

theorem alloc_cell {w : World} {a : Addr} {v : Value} (o : Obj) (h : w.cell? a = some v) : (w.alloc o).cell? a = some v := (World.cell?_of_block (Below.heap_alloc _ _ _ (World.block_lt_of_cell? w _ h))).trans h

/-- The blocks that rookNumbers lays. -/
abbrev rk4 (w : World) (ao : Option Addr) (n cap : Nat) : World := (((w.alloc (.cells #[.slice ao n cap] 22)).alloc (.cells (ints (List.replicate (n + 1) 0)).toArray 3)).alloc (.cells #[.slice (some ⟨w.heap.size + 1, 0, none⟩) (n + 1) (n + 1)] 22)).alloc
  (.cells #[.func (.func 77) #[] #[.pointer (some ⟨w.heap.size, 0, none⟩), .pointer (some ⟨w.heap.size + 1 + 1, 0, none⟩), .pointer (some ⟨w.heap.size + 1 + 1 + 1, 0, none⟩)]] 72)
theorem rk4_env {bs : List Nat} {w : World} (hT : Tab w) {ao : Option Addr} {cap : Nat} (hcap : bs.length ≤ cap) (hel : ∀ k, k < bs.length → ∃ b o, ao = some ⟨b, o, none⟩ ∧ w.cell? ⟨b, o + k, none⟩ = some (.int .i64 (bs.getD k 0 : Nat))) :
    RkEnv bs (w.heap.size + 1) w.heap.size (w.heap.size + 1 + 1) (w.heap.size + 1 + 1 + 1) (rk4 w ao bs.length cap) ∧ IBlk (rk4 w ao bs.length cap) (w.heap.size + 1) (List.replicate (bs.length + 1) 0) ∧ Below w.heap.size w (rk4 w ao bs.length cap) := by
  have hB : Below w.heap.size w (rk4 w ao bs.length cap) := ((((Below.refl _ w).alloc (Nat.le_refl _) _).alloc (by simp) _).alloc (by simp; omega) _).alloc (by simp; omega) _
  have h0 := cell_new w (.slice ao bs.length cap) 22
  have h1 : IBlk ((w.alloc (.cells #[.slice ao bs.length cap] 22)).alloc (.cells (ints (List.replicate (bs.length + 1) 0)).toArray 3)) (w.heap.size + 1) (List.replicate (bs.length + 1) 0) := by
    have := heap_alloc_new (w.alloc (.cells #[.slice ao bs.length cap] 22)) (.cells (ints (List.replicate (bs.length + 1) 0)).toArray 3)
    rwa [World.size_alloc] at this
  have h2 := cell_new ((w.alloc (.cells #[.slice ao bs.length cap] 22)).alloc (.cells (ints (List.replicate (bs.length + 1) 0)).toArray 3)) (.slice (some ⟨w.heap.size + 1, 0, none⟩) (bs.length + 1) (bs.length + 1)) 22
  rw [World.size_alloc, World.size_alloc] at h2
  have h3 := cell_new (((w.alloc (.cells #[.slice ao bs.length cap] 22)).alloc (.cells (ints (List.replicate (bs.length + 1) 0)).toArray 3)).alloc (.cells #[.slice (some ⟨w.heap.size + 1, 0, none⟩) (bs.length + 1) (bs.length + 1)] 22))
    (.func (.func 77) #[] #[.pointer (some ⟨w.heap.size, 0, none⟩), .pointer (some ⟨w.heap.size + 1 + 1, 0, none⟩), .pointer (some ⟨w.heap.size + 1 + 1 + 1, 0, none⟩)]) 72
  rw [World.size_alloc, World.size_alloc, World.size_alloc] at h3
  have hlt := tab_lt hT
  refine ⟨rkEnv_mk (ao := ao) (cap := cap) (tab_block hT (hB.block 1 hlt)) (by omega) (alloc_cell _ (alloc_cell _ (alloc_cell _ h0))) hcap (fun k hk => ?_) (alloc_cell _ h2) h3 (by omega) (by omega) (by omega), (h1.alloc _).alloc _, hB⟩
  obtain ⟨b, o, e, hc⟩ := hel k hk
  have := World.block_lt_of_cell? w _ hc
  exact ⟨b, o, e, by simp at this; omega, ck hc hB⟩

/-- The rook numbers. -/
def rookL (bs : List Nat) : List Int := rk bs 0 0 (List.replicate (bs.length + 1) 0)
theorem rookL_length (bs : List Nat) : (rookL bs).length = bs.length + 1 := by rw [rookL, rk_length, List.length_replicate]

set_option maxRecDepth 100000 in
set_option maxHeartbeats 1000000 in
theorem rookNumbers_any (v : Value) (bs : List Nat) (n : Nat) (w : World) (hb : Brd n bs) (h : Nats w v bs) (hT : Tab w) :
    Calls Tryd.prog 51 #[v] w fun e w' => ∃ A, e = .returned (.slice (some ⟨A, 0, none⟩) (n + 1) (n + 1)) ∧ w.heap.size ≤ A ∧ IBlk w' A (rookL bs) ∧ Below w.heap.size w w' := by
  obtain ⟨ao, cap, rfl, h1, _, hx⟩ := h.open
  obtain rfl := hb.len
  have hn := hb.le
  have hmk : ∀ W : World, (Instr.makeSlice 22 (.int .i64 ((bs.length:Int) + 1)) (.int .i64 ((bs.length:Int) + 1))).run Tryd.prog W = .ok (.slice (some ⟨W.heap.size, 0, none⟩) (bs.length + 1) (bs.length + 1)) (W.alloc (.cells (ints (List.replicate (bs.length + 1) 0)).toArray 3)) :=
    run_make22 (bs.length + 1) (bs.length + 1) (Nat.le_refl _) (by omega)
  obtain ⟨hE, hI, hB⟩ := rk4_env hT h1 hx
  have hlt := tab_lt hT
  have HC := Lib.hid (place_any bs (w.heap.size + 1) w.heap.size (w.heap.size + 1 + 1) (w.heap.size + 1 + 1 + 1) (by omega) (fun x hx => Nat.lt_of_lt_of_le (hb.lt x hx) (pw6 _ hn).2) hn bs.length 0 0 0 (List.replicate (bs.length + 1) 0) (rk4 w ao bs.length cap) (by omega) hE hI (Nat.le_refl _) (by simp) (by omega))
  have HE := Lib.hid hE
  have HB := Lib.hid hB
  clear h hE hI hB hT hx
  go_enter Tryd.func51, Tryd.ntmps51
  go_wp2_with fail
  refine HC.out.mono ?_
  rintro e w1 ⟨⟨rv, rfl⟩, hI1, hM1⟩
  obtain ⟨_, _, hw, _⟩ := HE.out w1 hM1
  have HI1 : Hid (IBlk w1 (w.heap.size + 1) (rookL bs)) := hI1
  have HB1 : Hid (Below w.heap.size w w1) := Lib.hid (HB.out.trans (hM1.below (B := w.heap.size) (by have := HB.out.size; exact this) fun k e => by omega))
  clear hI1 hM1 HC HE HB
  go_wp2_with fail
  go_ret
  exact ⟨_, rfl, by omega, HI1.out, HB1.out⟩

set_option maxHeartbeats 1000000 in
theorem Rooks_any (v : Value) (bs : List Nat) (n : Nat) (w : World) (hb : Brd n bs) (h : Nats w v bs) (hT : Tab w) :
    Calls Tryd.prog 15 #[v] w fun e w' => ∃ A, e = .returned (.tuple #[.slice (some ⟨A, 0, none⟩) (n + 1) (n + 1), .int .i64 0]) ∧ w.heap.size ≤ A ∧ IBlk w' A (rookL bs) ∧ Below w.heap.size w w' := by
  have HB := Lib.hid (isBoard_any v (nats bs) w h)
  rw [boardB_mk hb] at HB
  have HR := Lib.hid (rookNumbers_any v bs n w hb h hT)
  clear h hT hb
  go_enter Tryd.func15, Tryd.ntmps15
  go_wp2_with fail
  refine HB.out.mono ?_
  rintro e w' ⟨rfl, rfl⟩
  go_wp2_with fail
  refine HR.out.mono ?_
  rintro e w1 ⟨A, rfl, hA, hI, hBl⟩
  have HI := Lib.hid hI
  have HBl := Lib.hid hBl
  clear hI hBl
  go_wp2
  go_ret2
  exact ⟨_, rfl, hA, HI.out, HBl.out⟩

set_option maxHeartbeats 1000000 in
theorem Rooks_bad (v : Value) (xs : List Int) (w : World) (hb : boardB xs = false) (h : Ints w v xs) :
    Calls Tryd.prog 15 #[v] w fun e w' => e = .returned (.tuple #[.slice none 0 0, .int .i64 2]) ∧ w = w' := by
  have HB := Lib.hid (isBoard_any v xs w h)
  rw [hb] at HB
  clear h
  go_enter Tryd.func15, Tryd.ntmps15
  go_wp2_with fail
  refine HB.out.mono ?_
  rintro e w' ⟨rfl, rfl⟩
  go_wp2
  go_ret2
  exact ⟨rfl, rfl⟩
end Go.Proofs.YtellnklbkjajbaaDoor
