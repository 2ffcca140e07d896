/- Barrier -/
import Derived.Test.YtellnklbkjajbaaDoorRb
import Derived.Test.YtellnklbkjajbaaDoorEl
import Derived.Test.YtellnklbkjajbaaDoorRp
import Derived.Test.YtellnklbkjajbaaDoorPa
import Derived.Test.YtellnklbkjajbaaDoorRr
namespace Go.Proofs.YtellnklbkjajbaaDoor
open Go.RowKit Go.Shelf
attribute [local go_sem] Oper.semAt_some

theorem quiet_eq {P : Program} {f : FuncId} {args : Array Value} {w : World} {n : Nat} {v : Value}
    (h : Calls P f args (w.drewN n) fun e w' => e = .returned v ∧ w.drewN n = w') : Calls P f args (w.drewN n) fun e w'' => e = .returned v ∧ ∃ m, w'' = w.drewN m :=
  h.mono fun _ _ ⟨he, hm⟩ => ⟨he, n, hm.symm⟩

/-- Marks that loops over functions have left, each with nothing to do, in blocks from B on. -/
def Marks (B : Nat) (W : World) (ds : List Deferred) : Prop :=
  (∀ d ∈ ds, ∃ D, d = { target := .collected D, args := #[] } ∧ B ≤ D ∧ W.heap[D]? = some (.deferred (some []))) ∧ ds.Pairwise (· ≠ ·)
theorem Marks.nil (B : Nat) (W : World) : Marks B W [] := ⟨by simp, List.Pairwise.nil⟩
theorem Marks.kept {B : Nat} {W W' : World} {ds : List Deferred} (h : Marks B W ds) (hb : ∀ D : Nat, W.heap[D]? = some (Obj.deferred (some [])) → W'.heap[D]? = W.heap[D]?) : Marks B W' ds :=
  ⟨fun d hd => by obtain ⟨D, e, h1, h2⟩ := h.1 d hd; exact ⟨D, e, h1, (hb D h2).trans h2⟩, h.2⟩
theorem Marks.cons {B D : Nat} {W : World} {ds : List Deferred} (h : Marks B W ds) (hB : B ≤ D) (hD : W.heap[D]? = some (.deferred (some []))) (hn : ∀ d ∈ ds, d ≠ { target := .collected D, args := #[] }) :
    Marks B W ({ target := .collected D, args := #[] } :: ds) :=
  ⟨fun d hd => (List.mem_cons.1 hd).elim (fun e => ⟨D, e, hB, hD⟩) (h.1 d), List.Pairwise.cons (fun d hd => (hn d hd).symm) h.2⟩
theorem marks_leave {F : Fence} {n : Nat} {P : Program} {fn : Func} {tmps : Array Value} {R : Ending → World → Prop} {B : Nat} : ∀ (ds : List Deferred) (W : World), Marks B W ds → B ≤ W.heap.size →
    (∀ W', Below B W W' → (∀ a v, W.cell? a = some v → W'.cell? a = some v) → LeavesInM F n P fn tmps R [] .returning W') → LeavesInM F n P fn tmps R ds .returning W
  | [], W, _, _, h => h W (Below.refl _ _) (fun _ _ h => h)
  | d :: ds, W, hM, hB, h => by
    obtain ⟨D, rfl, hD, hK⟩ := hM.1 d (List.mem_cons_self ..)
    have hp := List.pairwise_cons.1 hM.2
    refine ⟨by simp, .inl ⟨D, _, rfl, run_takeDeferred hK, ?_⟩⟩
    have hbl := putObj_below W _ (.deferred none) hD hK
    refine marks_leave ds _ ⟨fun d hd => ?_, hp.2⟩ (Nat.le_trans hB hbl.size) fun W' hb hc => h W' (hbl.trans hb) fun a v hv => hc a v ?_
    · obtain ⟨D', e, h1, h2⟩ := hM.1 d (List.mem_cons_of_mem _ hd)
      refine ⟨D', e, h1, (World.putObj_heap_other fun e' => ?_).trans h2⟩
      subst e'
      exact hp.1 d hd e.symm
    · exact cell_kept hv (grownBy_putObj' _ D (.deferred none)) (fun r e => by cases e; exact ⟨_, hK, rfl⟩)

theorem Barrier_bad (v : Value) (xs : List Int) (w : World) (hb : boardB xs = false) (h : Ints w v xs) :
    Calls Tryd.prog 24 #[v] w fun e w' => e = .returned (.tuple #[.int .i64 0, .int .i64 0, .int .i64 2]) ∧ Below w.heap.size w w' := by
  have hB0 : Below w.heap.size w (w.alloc (.cells #[v] 22)) := (Below.refl _ w).alloc (Nat.le_refl _) _
  have HB := Lib.hid (isBoard_any v xs _ (h.below hB0 (Nat.le_refl _)))
  rw [hb] at HB
  have HB0 := Lib.hid hB0
  obtain ⟨ao, cap, rfl, _, _, _⟩ := h.open
  have hc := cell_new w (.slice ao xs.length cap) 22
  clear h hB0
  go_enter Tryd.func24, Tryd.ntmps24
  go_wp2_with fail
  refine HB.out.mono ?_
  rintro e w' ⟨rfl, rfl⟩
  go_wp2_with fail
  go_ret3
  exact ⟨rfl, HB0.out⟩

/-- What the columns have in common, after some rows. -/
def cmL (full : Nat) (bs : List Nat) (js : List Nat) : Nat := js.foldl (fun c j => c &&& bs.getD j 0) full
theorem cmL_snoc (full : Nat) (bs js : List Nat) (j : Nat) : cmL full bs (js ++ [j]) = cmL full bs js &&& bs.getD j 0 := by simp [cmL]
theorem cmL_lt {full n : Nat} (bs : List Nat) (hf : full < 2 ^ n) : ∀ js : List Nat, cmL full bs js < 2 ^ n := fun js => by
  unfold cmL
  induction js generalizing full with
  | nil => exact hf
  | cons j js ih => exact ih (Nat.lt_of_le_of_lt Nat.and_le_left hf)
theorem cmL_cm (full : Nat) (bs : List Nat) (S : Nat) : ∀ m, cmL full bs ((List.range m).filter fun j => S.testBit j) = cm full bs S m
  | 0 => rfl
  | m + 1 => by
    rw [List.range_succ, List.filter_append, cm, ← cmL_cm full bs S m]
    cases hs : S.testBit m with
    | true => simp [hs, cmL]
    | false => simp [hs]
theorem cmL_elems {n S : Nat} (bs : List Nat) (hn : n ≤ 6) (hS : S < 2 ^ n) (full : Nat) : cmL full bs (elems S) = cm full bs S n := by
  rw [← cmL_cm]
  congr 1
  unfold elems
  obtain ⟨d, hd⟩ : ∃ d, 6 = n + d := ⟨6 - n, by omega⟩
  rw [hd]
  exact filter_range (fun j => S.testBit j) n (fun i hi => Nat.testBit_lt_two_pow (Nat.lt_of_lt_of_le hS (Nat.pow_le_pow_right (by decide) hi))) d

/-- What Barrier's outer loop keeps. -/
structure BR (n : Nat) (bs : List Nat) (ao : Option Addr) (cap : Nat) (w : World) (k : Nat) (ds : List Deferred) (wr : World) : Prop where
  hk : k ≤ 2 ^ n
  cb : wr.cell? ⟨w.heap.size, 0, none⟩ = some (.slice ao n cap)
  mks : Marks w.heap.size wr ds
  none : ∀ S, S < k → barB n bs S = false
  bel : Below w.heap.size w wr
  lt : w.heap.size < wr.heap.size

set_option maxRecDepth 100000 in
set_option maxHeartbeats 4000000 in
theorem Barrier_any (v : Value) (bs : List Nat) (n : Nat) (w : World) (hb : Brd n bs) (h : Nats w v bs) (hT : Tab w) :
    Calls Tryd.prog 24 #[v] w fun e w' => BarPost n bs e ∧ Below w.heap.size w w' := by
  have hB0 : Below w.heap.size w (w.alloc (.cells #[v] 22)) := (Below.refl _ w).alloc (Nat.le_refl _) _
  have HB := Lib.hid (isBoard_any v (nats bs) _ (h.below hB0 (Nat.le_refl _)))
  rw [boardB_mk hb] at HB
  obtain ⟨ao, cap, rfl, h1, _, hx⟩ := h.open
  have hl := hb.len
  have hn6 := hb.le
  have hcb := cell_new w (.slice ao bs.length cap) 22
  rw [hl] at h1 HB hx hcb hB0 ⊢
  have HX := Lib.hid hx
  have HT := Lib.hid hT
  have hpw := pw6 n hn6
  have hwp := wrap_pw n (by omega)
  have hpc := pw_cast n
  have HLt := Lib.hid (fun k => Nat.lt_of_lt_of_le (hb.get k) hpw.2)
  have HSz := Lib.hid (fun x w hx => size_any x w hx)
  have HBl := Lib.hid (fun w => below_any n w (by omega))
  rw [← hpc] at hwp
  have hlt0 := tab_lt hT
  clear h hx hT hb
  refine (callsIn_wide (n := 10)).1 ?_
  refine callsIn_of_wp_marks Tryd.func24 rfl trivial ?_ rfl
  simp only [Tryd.ntmps24, List.size_toArray, List.length_cons, List.length_nil, Nat.reduceAdd, Nat.reduceSub, Array.replicate_succ, Array.replicate_zero, List.push_toArray, List.append_toArray, List.nil_append, List.cons_append]
  gi_wp2_with fail
  refine ⟨trivial, (callsIn_wide.2 HB.out).mono ?_⟩
  rintro e w' ⟨rfl, rfl⟩
  gi_wp2_with fail
  refine wpIn_loop (fun a' w' => ∃ (k : Nat) (ds : List Deferred) (u5 u6 u7 u15 u16 u17 u18 u19 u20 u21 u22 u23 u24 u25 u26 u27 u28 u29 u30 u31 u32 u33 u34 u35 u36 u37 u38 u39 : Value), a' = { tmps := #[.slice ao n cap, .pointer (some ⟨w.heap.size, 0, none⟩), .int .i64 0, .int .i64 0, .int .i64 0, u5, u6, u7, .slice ao n cap, .bool true, .bool false, .slice ao n cap, .int .i64 n, .int .i64 (2 ^ n), .int .i64 k, u15, u16, u17, u18, u19, u20, u21, u22, u23, u24, u25, u26, u27, u28, u29, u30, u31, u32, u33, u34, u35, u36, u37, u38, u39], defers := ds } ∧ BR n bs ao cap w k ds w')
    (fun a' _ => 2 ^ n - (intOf (a'.tmps.getD 14 undef)).toNat) ?_ ?_
  · exact ⟨0, [], _, _, _, _, _, _, _, _, _, _, _, _, _, _, _, _, _, _, _, _, _, _, _, _, _, _, _, _, rfl, ⟨Nat.zero_le _, hcb, Marks.nil _ _, fun S hS => absurd hS (Nat.not_lt_zero _), hB0, by simp⟩⟩
  rintro a1 wr ⟨k, ds, u5, u6, u7, u15, u16, u17, u18, u19, u20, u21, u22, u23, u24, u25, u26, u27, u28, u29, u30, u31, u32, u33, u34, u35, u36, u37, u38, u39, rfl, hI⟩
  have hcr := hI.cb
  by_cases hlt : k < 2 ^ n
  · have HI := Lib.hid hI
    clear hI
    have hlti : (k:Int) < 2 ^ n := by rw [← hpc]; exact Int.ofNat_lt.2 hlt
    gi_wp2_with fail
    refine ⟨trivial, (callsIn_wide.2 (HBl.out wr)).mono ?_⟩
    rintro e w' ⟨rfl, rfl⟩
    gi_wp2_with fail
    refine ⟨trivial, (callsIn_wide.2 (elements_any _ _)).mono ?_⟩
    rintro e w' ⟨rfl, rfl⟩
    gi_wp2_with fail
    have hfull : (2:Int) ^ n - 1 = ((2 ^ n - 1 : Nat) : Int) := by rw [← hpc]; omega
    rw [hfull]
    have hb2 : Below wr.heap.size wr ((wr.alloc (.cells #[.int .i64 ((2 ^ n - 1 : Nat) : Int)] 3)).alloc (.cells #[.int .i64 k] 3)) := ((Below.refl _ _).alloc (Nat.le_refl _) _).alloc (by simp) _
    have d0 : ((wr.alloc (.cells #[.int .i64 ((2 ^ n - 1 : Nat) : Int)] 3)).alloc (.cells #[.int .i64 k] 3)).heap[wr.heap.size]? = some (.cells #[.int .i64 ((2 ^ n - 1 : Nat) : Int)] 3 (0, 0)) := (Below.heap_alloc _ _ _ (by simp)).trans (heap_alloc_new wr _)
    have cS := cell_new (wr.alloc (.cells #[.int .i64 ((2 ^ n - 1 : Nat) : Int)] 3)) (.int .i64 k) 3
    rw [World.size_alloc] at cS
    have hsz : ((wr.alloc (.cells #[.int .i64 ((2 ^ n - 1 : Nat) : Int)] 3)).alloc (.cells #[.int .i64 k] 3)).heap.size = wr.heap.size + 1 + 1 := by rw [World.size_alloc, World.size_alloc]
    have hcb2 := ck hcr hb2
    have HBW := Lib.hid (HI.out.bel.trans (hb2.mono HI.out.bel.size))
    generalize ((wr.alloc (.cells #[.int .i64 ((2 ^ n - 1 : Nat) : Int)] 3)).alloc (.cells #[.int .i64 k] 3)) = W0 at *
    have hT0 : Tab W0 := tab_block HT.out (HBW.out.block 1 hlt0)
    have hwr := HI.out.lt
    have hk64 : k < 64 := by omega
    refine wpIn_rangeFunc_ownG rfl (by decide) (gf := 81) (lb := #[.pointer (some ⟨wr.heap.size + 1, 0, none⟩)]) rfl trivial (enters_of Tryd.func81 (by kernel_rfl) rfl)
      (elems_stops 9 k hk64 (wr.heap.size + 1) W0 cS hT0) TabK.t (fun W l o o' _ h ho _ => TabK.b W l o o' h ho) (Below.refl _ _) (fun _ => rfl)
      (fun pre W => W.heap[wr.heap.size]? = some (.cells #[.int .i64 ((cmL (2 ^ n - 1) bs (pre.map (·.1)) : Nat) : Int)] 3 (0, 0)) ∧ Mod (· = wr.heap.size) W0 W)
      (fun _ _ _ => False)
      (fun s X Y row hs hg hr => ⟨(hg.block wr.heap.size (by have := hs.2.size; omega) fun e => by have := (hr _ e.symm).1; omega).trans hs.1, hs.2.grown hg fun k e => (hr k e).1⟩)
      (fun _ _ _ _ _ hs _ _ => hs)
      ⟨d0, Mod.refl _ _⟩
      (fun y => { tmps := #[.slice ao n cap, .pointer (some ⟨w.heap.size, 0, none⟩), .int .i64 0, .int .i64 0, .int .i64 0, .int .i64 k, .pointer (some ⟨wr.heap.size, 0, none⟩), .int .i64 y.1, .slice ao n cap, .bool true, .bool false, .slice ao n cap, .int .i64 n, .int .i64 (2 ^ n), .int .i64 k, .bool true, .int .i64 k, .slice ao n cap, .int .i64 n, .int .i64 ((2 ^ n - 1 : Nat) : Int), .int .i64 k, .func (.func 81) #[] #[.pointer (some ⟨wr.heap.size + 1, 0, none⟩)], .int .i64 y.1, u23, u24, u25, u26, u27, u28, u29, u30, u31, u32, u33, u34, u35, u36, u37, u38, u39], defers := [] }) ?assign ?body ?done ?stop
    case assign =>
      intro l y W K hK
      gi_wp2
      exact hK
    case body =>
      rintro l pre y W ⟨hdW, hMW⟩ _
      have hy : y.1 < n := by
        refine Nat.lt_of_not_le fun hle => ?_
        have := y.2.1
        rw [Nat.testBit_lt_two_pow (Nat.lt_of_lt_of_le hlt (Nat.pow_le_pow_right (by decide) hle))] at this
        cases this
      obtain ⟨b, o, rfl, hcy⟩ := HX.out y.1 hy
      have hblt := World.block_lt_of_cell? w _ hcy
      have hcy' := mod_cell hMW (a := ⟨b, o + y.1, none⟩) (by simp at hblt; show b ≠ _; have := HI.out.bel.size; omega) (ck hcy HBW.out)
      have hcgW := mod_cell hMW (a := ⟨w.heap.size, 0, none⟩) (by show w.heap.size ≠ _; omega) hcb2
      obtain ⟨hcm, hfm⟩ := boxB_cell hdW
      have hmx : Tryd.prog.follows .mixedOrders = true := by kernel_rfl
      have hix0 : (0:Int) ≤ (y.1:Int) := by omega
      have hix1 : (y.1:Int) < (n:Int) := by omega
      have hcl := cmL_lt (n := n) bs (show 2 ^ n - 1 < 2 ^ n by omega) (pre.map (·.1))
      have HSn := Lib.hid (cmL_snoc (2 ^ n - 1) bs (pre.map (·.1)) y.1)
      have hr := HLt.out y.1
      have HMW := Lib.hid hMW
      have HDW := Lib.hid hdW
      clear hcy hcb2 hdW hMW d0 cS hT0
      generalize cmL (2 ^ n - 1) bs (pre.map (·.1)) = c at *
      generalize bs.getD y.1 0 = r at *
      have hand : bits .and .i64 (c:Int) (r:Int) = ((c &&& r : Nat) : Int) := i64_and c r (by omega) (by omega)
      gi_wp2_with fail
      refine round_region_held (fun w' => w'.cell? ⟨w.heap.size, 0, none⟩ = some (.slice (some ⟨b, o, none⟩) n cap) ∧ w'.cell? ⟨b, o + y.1, none⟩ = some (.int .i64 r)) hmx (by rintro ⟨_, _, h⟩; exact h) (by kernel_rfl) ⟨hcgW, hcy'⟩ (fun hS0 => ?_)
      refine wpAnyH_take (i := 1) (v := .slice (some ⟨b, o, none⟩) n cap) rfl (by kernel_rfl) (by kernel_rfl) (by kernel_rfl) (fun _ _ _ h => h) (Or.inl ⟨by rfl, ?_⟩) hS0 ?_
      · intro w' hSw
        go_simp
      simp only [Act.put]
      refine wpAnyH_take (i := 2) (v := .int .i64 y.1) rfl (by kernel_rfl) (by kernel_rfl) (by kernel_rfl) (fun _ _ _ h => h) (Or.inl ⟨by rfl, ?_⟩) hS0 ?_
      · intro w' hSw
        go_simp
      simp only [Act.put]
      refine wpAnyH_take (i := 3) (v := .pointer (some ⟨b, o + y.1, none⟩)) rfl (by kernel_rfl) (by kernel_rfl) (by kernel_rfl) (fun _ _ _ h => h) (Or.inl ⟨by rfl, ?_⟩) hS0 ?_
      · intro w' hSw
        go_simp
      simp only [Act.put]
      refine wpAnyH_take (i := 4) (v := .int .i64 r) rfl (by kernel_rfl) (by kernel_rfl) (by kernel_rfl) (fun _ _ _ h => h) (Or.inl ⟨by rfl, ?_⟩) hS0 ?_
      · intro w' hSw
        go_simp
      simp only [Act.put]
      refine wpAnyH_ready (rs := [0]) (by kernel_rfl) (by simp) (AllReadyH.cons rfl (fun K hK => ?_) AllReadyH.nil)
      go_simp
      refine hK.out _ _ hS0 fun hS1 => ?_
      clear hK K
      refine wpAnyH_take (i := 5) (v := .int .i64 (c &&& r : Nat)) rfl (by kernel_rfl) (by kernel_rfl) (by kernel_rfl) (fun _ _ _ h => h) (Or.inl ⟨by rfl, ?_⟩) hS1 ?_
      · intro w' hSw
        go_simp
      simp only [Act.put]
      refine wpAnyH_ready (rs := [6]) (by kernel_rfl) (by simp) (AllReadyH.cons rfl (fun K hK => ?_) AllReadyH.nil)
      go_simp
      have ne1 : (⟨wr.heap.size, 0, none⟩ : Addr) ≠ ⟨w.heap.size, 0, none⟩ := by intro e'; simp only [Addr.mk.injEq] at e'; omega
      have ne2 : (⟨wr.heap.size, 0, none⟩ : Addr) ≠ ⟨b, o + y.1, none⟩ := by intro e'; simp only [Addr.mk.injEq] at e'; omega
      refine hK.out _ _ ⟨(World.cell?_setCell_other W _ _ _ ne1).trans hcgW, (World.cell?_setCell_other W _ _ _ ne2).trans hcy'⟩ fun _ => ?_
      clear hK K
      refine wpAnyH_done (by kernel_rfl) ?_ _
      gi_wp2_with fail
      have hMs : Mod (· = wr.heap.size) W (W.setCell ⟨wr.heap.size, 0, none⟩ (.int .i64 (c &&& r : Nat))) := (Mod.refl (· = wr.heap.size) W).setCell (p := ⟨wr.heap.size, 0, none⟩) (.inl rfl) _
      refine ⟨⟨hMs.size, fun k o hk hh _ => (hMs.block k (Array.getElem?_eq_some_iff.1 hh).1 (by omega)).trans hh⟩, fun hT => tab_block hT (hMs.block 1 (tab_lt hT) (by omega)), ?_, (HMW.out.trans hMs fun _ h => .inl h).drew⟩
      rw [List.map_append, List.map_singleton, HSn.out]
      exact heap_set_at (k := 0) HDW.out (.int .i64 (c &&& r : Nat))
    case done =>
      rintro D zs W hD hS ⟨hdW, hMW⟩ hK
      have hsW := hMW.size
      have hmk : Marks w.heap.size W ds := HI.out.mks.kept fun D' hD' => by
        have h1 := (Array.getElem?_eq_some_iff.1 hD').1
        exact (hMW.block D' (by omega) (by omega)).trans (hb2.block D' h1)
      have hme : ∀ d ∈ ds, d ≠ { target := .collected D, args := #[] } := fun d hd e => by
        obtain ⟨D', e', _, h3⟩ := HI.out.mks.1 d hd
        rw [e] at e'
        simp only [Deferred.mk.injEq, Target.collected.injEq, and_true] at e'
        subst e'
        have := (Array.getElem?_eq_some_iff.1 h3).1
        omega
      rw [hS, cmL_elems bs hn6 hlt] at hdW
      obtain ⟨hcm, hfm⟩ := boxB_cell hdW
      have hcgW := mod_cell hMW (a := ⟨w.heap.size, 0, none⟩) (by show w.heap.size ≠ _; omega) hcb2
      have hbw : Below w.heap.size w W := ⟨hMW.os.trans HBW.out.os, hMW.tape.trans HBW.out.tape, hMW.output.trans HBW.out.output, Nat.le_trans HBW.out.size hMW.size, fun j hj => (hMW.block j (by omega) (by omega)).trans (HBW.out.block j hj)⟩
      have HBB : Hid (barB n bs k = decide (n < fl k + fl (cm (2 ^ n - 1) bs k n))) := rfl
      have hcl := cm_lt (n := n) bs k (show 2 ^ n - 1 < 2 ^ n by omega) n
      have HMk := Lib.hid (hmk.cons (by omega) hK hme)
      have HBwF := Lib.hid hbw
      have HZ := Lib.hid HI.out.none
      have HPk := Lib.hid (fun h2 => BarPost.yes (n := n) (bs := bs) hlt h2 HZ.out)
      have b1 := fl_bd k hk64
      have b2 := fl_bd (cm (2 ^ n - 1) bs k n) (by omega)
      clear hmk hme hdW hMW d0 cS hT0 hcb2 hbw hS
      generalize cm (2 ^ n - 1) bs k n = c at *
      have HS1 := Lib.hid (fun w => HSz.out k w hk64)
      have HS2 := Lib.hid (fun w => HSz.out c w (by omega))
      generalize fl k = s1 at *
      generalize fl c = s2 at *
      by_cases hgt : n < s1 + s2
      · have HBt : Hid (barB n bs k = true) := Lib.hid (by rw [HBB.out]; exact decide_eq_true hgt)
        clear HBB hcr HI HX HT
        gi_wp2_with fail
        refine wpIn_wide.2 ?_
        go_quiet ((first | (go_at_call_of 60 (Value.int .i64 (k : Int)); exact quiet_eq (HS1.out _)) | (go_at_call_of 60 (Value.int .i64 (c : Int)); exact quiet_eq (HS2.out _))))
        gi_wp2_with fail
        refine wpIn_wide.2 ?_
        go_quiet (fail)
        gi_wp2_with fail
        refine marks_leave (B := w.heap.size) _ _ HMk.out (by show w.heap.size ≤ W.heap.size; omega) fun W' hb hc => ?_
        exact ⟨.tuple #[.int .i64 k, .int .i64 c, .int .i64 0], by simp [results, Tryd.f24], HPk.out HBt.out, (below_drewN (below_drewN HBwF.out _) _).trans hb⟩
      · have HBt : Hid (barB n bs k = false) := Lib.hid (by rw [HBB.out]; exact decide_eq_false hgt)
        clear HBB hcr HX HT
        gi_wp2_with fail
        refine wpIn_wide.2 ?_
        go_quiet ((first | (go_at_call_of 60 (Value.int .i64 (k : Int)); exact quiet_eq (HS1.out _)) | (go_at_call_of 60 (Value.int .i64 (c : Int)); exact quiet_eq (HS2.out _))))
        gi_wp2_with fail
        refine ⟨⟨k + 1, _, _, _, _, _, _, _, _, _, _, _, _, _, _, _, _, _, _, _, _, _, _, _, _, _, _, _, _, _, rfl, ?_⟩, by simp [intOf]; omega⟩
        refine ⟨by omega, ck hcgW (below_drewN (Below.refl _ _) _), HMk.out, fun S hS => ?_, below_drewN HBwF.out _, by show w.heap.size < W.heap.size; omega⟩
        by_cases e : S = k
        · subst e; exact HBt.out
        · exact HZ.out S (by omega)
    case stop =>
      rintro D c pre W _ _ h _
      exact h.elim
  · have hk2 : k = 2 ^ n := by have := hI.hk; omega
    have HR : Hid (BarPost n bs (.returned (.tuple #[.int .i64 0, .int .i64 0, .int .i64 4]))) := Lib.hid (BarPost.no fun S hS => hI.none S (by omega))
    have HI := Lib.hid hI
    have hnl : ¬ ((k:Int) < 2 ^ n) := by rw [← hpc, hk2]; exact Int.lt_irrefl _
    clear hI hk2 hlt
    gi_wp2_with fail
    refine marks_leave (B := w.heap.size) _ _ HI.out.mks HI.out.bel.size fun W' hb hc => ?_
    exact ⟨.tuple #[.int .i64 0, .int .i64 0, .int .i64 4], by simp [results, Tryd.f24], HR.out, HI.out.bel.trans hb⟩
end Go.Proofs.YtellnklbkjajbaaDoor
