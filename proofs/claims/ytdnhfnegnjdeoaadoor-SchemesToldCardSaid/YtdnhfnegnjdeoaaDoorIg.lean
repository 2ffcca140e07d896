/- isGraph -/
import Derived.Test.YtdnhfnegnjdeoaaDoorRd
namespace Go.Proofs.YtdnhfnegnjdeoaaDoor
open Go.RowKit Go.Shelf
attribute [local go_sem] Oper.semAt_some

theorem tab_below {w w' : World} (hT : Tab w) (hb : Below w.heap.size w w') : Tab w' := tab_block hT (hb.block 1 (tab_lt hT))

theorem frozen_new (w : World) (x : Value) (t : TypeId) : (w.alloc (.cells #[x] t)).frozen? ⟨w.heap.size, 0, none⟩ = false := by
  have h : (w.alloc (.cells #[x] t)).heap[w.heap.size]? = some (.cells #[x] t) := heap_alloc_new w _
  unfold World.frozen?
  rw [show (⟨w.heap.size, 0, none⟩ : Addr).block = w.heap.size from rfl, h]
  rfl
theorem fz {w w' : World} {a : Addr} {v : Value} (h : w.cell? a = some v) (hf : w.frozen? a = false) (hb : Below w.heap.size w w') : w'.frozen? a = false :=
  (World.frozen?_of_block (hb.block _ (World.block_lt_of_cell? w _ h))).trans hf
theorem Marks.mod {B r : Nat} {W W' : World} {ds : List Deferred} {x : Value} (h : Marks B W ds) (hm : Mod (· = r) W W') (hc : W.cell? ⟨r, 0, none⟩ = some x) : Marks B W' ds :=
  h.kept fun D hD => hm.block D (Array.getElem?_eq_some_iff.1 hD).1 fun e => by
    subst e
    obtain ⟨o, ho, hcs⟩ := cells_of_cell hc
    rw [hD] at ho
    cases ho
    cases hcs
/-- What isGraph's outer loop keeps. -/
structure IG (xs : List Int) (ao : Option Addr) (cap : Nat) (w : World) (k : Nat) (ds : List Deferred) (wr : World) : Prop where
  hk : k ≤ xs.length
  cg : wr.cell? ⟨w.heap.size, 0, none⟩ = some (.slice ao xs.length cap)
  cr : wr.cell? ⟨w.heap.size + 1, 0, none⟩ = some (.bool false)
  fr : wr.frozen? ⟨w.heap.size + 1, 0, none⟩ = false
  mks : Marks w.heap.size wr ds
  good : ∀ i, i < k → (setB (xs.getD i 0) xs.length = true ∧ ibit (xs.getD i 0) i = false) ∧ ∀ j, j < xs.length → ibit (xs.getD i 0) j = true → ibit (xs.getD j 0) i = true
  bel : Below w.heap.size w wr
  lt : w.heap.size + 1 < wr.heap.size

set_option maxRecDepth 100000 in
set_option maxHeartbeats 4000000 in
theorem isGraph_any (v : Value) (xs : List Int) (w : World) (h : Ints w v xs) (hT : Tab w) :
    Calls Tryd.prog 60 #[v] w fun e w' => e = .returned (.bool (graphB xs)) ∧ Below w.heap.size w w' := by
  obtain ⟨ao, cap, rfl, h1, h2, hx⟩ := h.open
  have HX := Lib.hid hx
  have HT := Lib.hid hT
  clear h hx hT
  refine (callsIn_wide (n := 9)).1 ?_
  refine callsIn_of_wp_marks Tryd.func60 rfl trivial ?_ rfl
  simp only [Tryd.ntmps60, List.size_toArray, List.length_cons, List.length_nil, Nat.reduceAdd, Nat.reduceSub, Array.replicate_succ, Array.replicate_zero, List.push_toArray, List.append_toArray, List.nil_append, List.cons_append]
  have hb0 : Below w.heap.size w ((w.alloc (.cells #[.slice ao xs.length cap] 22)).alloc (.cells #[.bool false] 4)) := (((Below.refl _ w).alloc (Nat.le_refl _) _).alloc (by simp) _)
  have hcg : ((w.alloc (.cells #[.slice ao xs.length cap] 22)).alloc (.cells #[.bool false] 4)).cell? ⟨w.heap.size, 0, none⟩ = some (.slice ao xs.length cap) :=
    (World.cell?_of_block (Below.heap_alloc _ _ _ (by simp))).trans (cell_new w _ 22)
  have hcr := cell_new (w.alloc (.cells #[.slice ao xs.length cap] 22)) (.bool false) 4
  rw [World.size_alloc] at hcr
  have hfr := frozen_new (w.alloc (.cells #[.slice ao xs.length cap] 22)) (.bool false) 4
  rw [World.size_alloc] at hfr
  by_cases hlo : xs.length < 1
  · have HB : Hid (graphB xs = false) := graphB_len (by omega)
    have hl1 : (xs.length : Int) < 1 := by omega
    gi_wp2_with fail
    refine marks_leave (B := w.heap.size) [] _ (Marks.nil _ _) hb0.size fun W' hb hc => ?_
    have hres := hc _ _ hcr
    exact ⟨.bool false, by simp [results, Tryd.f60, go_sem, hres], by rw [HB.out], hb0.trans hb⟩
  by_cases hhi : 16 < xs.length
  · have HB : Hid (graphB xs = false) := graphB_len (by omega)
    have hl1 : ¬ ((xs.length : Int) < 1) := by omega
    have hl2 : (16:Int) < xs.length := by omega
    gi_wp2_with fail
    refine marks_leave (B := w.heap.size) [] _ (Marks.nil _ _) hb0.size fun W' hb hc => ?_
    have hres := hc _ _ hcr
    exact ⟨.bool false, by simp [results, Tryd.f60, go_sem, hres], by rw [HB.out], hb0.trans hb⟩
  have hl1 : ¬ ((xs.length : Int) < 1) := by omega
  have hl2 : ¬ ((16:Int) < xs.length) := by omega
  gi_wp2_with fail
  refine wpIn_loop (fun a' w' => ∃ (k : Nat) (ds : List Deferred) (u3 u4 u17 u18 u19 u20 u21 u22 u23 u24 u25 u26 u27 u28 u29 u30 u31 u32 u41 : Value), a' = { tmps := #[.slice ao xs.length cap, .pointer (some ⟨w.heap.size, 0, none⟩), .pointer (some ⟨w.heap.size + 1, 0, none⟩), u3, u4, undef, .slice ao xs.length cap, .int .i64 xs.length, .bool false, .bool false, .slice ao xs.length cap, .int .i64 xs.length, .bool false, .bool false, .slice ao xs.length cap, .int .i64 xs.length, .int .i64 k, u17, u18, u19, u20, u21, u22, u23, u24, u25, u26, u27, u28, u29, u30, u31, u32, undef, undef, undef, undef, undef, undef, undef, undef, u41], defers := ds } ∧ IG xs ao cap w k ds w')
    (fun a' _ => xs.length - (intOf (a'.tmps.getD 16 undef)).toNat) ?_ ?_
  · exact ⟨0, [], _, _, _, _, _, _, _, _, _, _, _, _, _, _, _, _, _, _, _, rfl, ⟨Nat.zero_le _, hcg, hcr, hfr, Marks.nil _ _, fun i hi => absurd hi (by omega), hb0, by simp⟩⟩
  rintro a1 wr ⟨k, ds, u3, u4, u17, u18, u19, u20, u21, u22, u23, u24, u25, u26, u27, u28, u29, u30, u31, u32, u41, rfl, hI⟩
  by_cases hlt : k < xs.length
  · have hpw := pw_bd xs.length (by omega)
    obtain ⟨b, o, rfl, hck⟩ := HX.out k hlt
    have hck' := ck hck hI.bel
    have HZ := Lib.hid (fun w => isSet_any (xs.getD k 0) xs.length w (by omega))
    have hba : Below wr.heap.size wr (wr.alloc (.cells #[.int .i64 k] 3)) := (Below.refl _ _).alloc (Nat.le_refl _) _
    have hcg1 := ck hI.cg hba
    have hcr1 := ck hI.cr hba
    have hfr1 := fz hI.cr hI.fr hba
    have hci := cell_new wr (.int .i64 k) 3
    cases hz : setB (xs.getD k 0) xs.length with
    | false =>
      have HB : Hid (graphB xs = false) := graphB_set hlt hz
      rw [hz] at HZ
      generalize xs.getD k 0 = z at *
      gi_wp2_with fail
      refine ⟨trivial, (callsIn_wide.2 (HZ.out _)).mono ?_⟩
      rintro e w' ⟨rfl, rfl⟩
      gi_wp2_with fail
      refine ⟨trivial, ?_⟩
      gi_wp2_with fail
      have hmd : Mod (· = w.heap.size + 1) wr ((wr.alloc (.cells #[.int .i64 k] 3)).setCell ⟨w.heap.size + 1, 0, none⟩ (.bool false)) := ((Mod.refl (· = w.heap.size + 1) wr).alloc _).setCell (.inl rfl) _
      refine marks_leave ds _ (hI.mks.mod hmd hI.cr) (by have := hmd.size; have := hI.bel.size; omega) fun W' hb hc => ?_
      have hres := hc _ _ (World.cell?_setCell_same' _ ⟨w.heap.size + 1, 0, none⟩ (.bool false) (by rw [hcr1]; rfl))
      refine ⟨.bool false, by simp [results, Tryd.f60, go_sem, hres], by rw [HB.out], ?_⟩
      exact (hI.bel.trans (hmd.below hI.bel.size (fun k e => by omega))).trans hb
    | true =>
      obtain ⟨hz0, hz1⟩ := of_decide_eq_true hz
      have HV := Lib.hid (fun w => hasI_any (xs.getD k 0) k w (by omega))
      rw [hz] at HZ
      cases hz2 : ibit (xs.getD k 0) k with
      | true =>
        have HB : Hid (graphB xs = false) := graphB_irr hlt hz2
        rw [hz2] at HV
        generalize xs.getD k 0 = z at *
        gi_wp2_with fail
        refine ⟨trivial, (callsIn_wide.2 (HZ.out _)).mono ?_⟩
        rintro e w' ⟨rfl, rfl⟩
        gi_wp2_with fail
        refine ⟨trivial, (callsIn_wide.2 (HV.out _)).mono ?_⟩
        rintro e w' ⟨rfl, rfl⟩
        gi_wp2_with fail
        have hmd : Mod (· = w.heap.size + 1) wr ((wr.alloc (.cells #[.int .i64 k] 3)).setCell ⟨w.heap.size + 1, 0, none⟩ (.bool false)) := ((Mod.refl (· = w.heap.size + 1) wr).alloc _).setCell (.inl rfl) _
        refine marks_leave ds _ (hI.mks.mod hmd hI.cr) (by have := hmd.size; have := hI.bel.size; omega) fun W' hb hc => ?_
        have hres := hc _ _ (World.cell?_setCell_same' _ ⟨w.heap.size + 1, 0, none⟩ (.bool false) (by rw [hcr1]; rfl))
        refine ⟨.bool false, by simp [results, Tryd.f60, go_sem, hres], by rw [HB.out], ?_⟩
        exact (hI.bel.trans (hmd.below hI.bel.size (fun k e => by omega))).trans hb
      | false =>
        rw [hz2] at HV
        have HE := Lib.hid (fun w => elements_any (xs.getD k 0) w)
        obtain ⟨x, hx⟩ : ∃ x : Nat, xs.getD k 0 = x := ⟨(xs.getD k 0).toNat, by omega⟩
        have HXK : Hid (xs.getD k 0 = x) := hx
        rw [hx] at HZ HV HE hck' hz1
        have hx16 : x < 65536 := by omega
        have HX1 : Hid (x < 2 ^ xs.length) := Lib.hid (by rw [← pw_cast] at hz1; exact Int.ofNat_lt.1 hz1)
        have HGK : Hid (setB (xs.getD k 0) xs.length = true ∧ ibit (xs.getD k 0) k = false) := ⟨hz, hz2⟩
        clear hx hz hz2 hz0 hz1 hck hpw
        gi_wp2_with fail
        refine ⟨trivial, (callsIn_wide.2 (HZ.out _)).mono ?_⟩
        rintro e w' ⟨rfl, rfl⟩
        gi_wp2_with fail
        refine ⟨trivial, (callsIn_wide.2 (HV.out _)).mono ?_⟩
        rintro e w' ⟨rfl, rfl⟩
        gi_wp2_with fail
        refine ⟨trivial, (callsIn_wide.2 (HE.out _)).mono ?_⟩
        rintro e w' ⟨rfl, rfl⟩
        gi_wp2_with fail
        have hb2 : Below wr.heap.size wr ((wr.alloc (.cells #[.int .i64 k] 3)).alloc (.cells #[.int .i64 x] 3)) := hba.alloc (by simp) _
        have cS := cell_new (wr.alloc (.cells #[.int .i64 k] 3)) (.int .i64 x) 3
        rw [World.size_alloc] at cS
        have hsz : ((wr.alloc (.cells #[.int .i64 k] 3)).alloc (.cells #[.int .i64 x] 3)).heap.size = wr.heap.size + 1 + 1 := by rw [World.size_alloc, World.size_alloc]
        have hcg2 := ck hI.cg hb2
        have hcr2 := ck hI.cr hb2
        have hfr2 := fz hI.cr hI.fr hb2
        have hci2 := ck hci ((Below.refl _ _).alloc (Nat.le_refl _) (.cells #[.int .i64 x] 3))
        have HBW := Lib.hid (hI.bel.trans (hb2.mono hI.bel.size))
        generalize ((wr.alloc (.cells #[.int .i64 k] 3)).alloc (.cells #[.int .i64 x] 3)) = W0 at *
        have HI := Lib.hid hI
        have hT0 : Tab W0 := tab_below HT.out HBW.out
        have hr0 : w.heap.size + 1 < W0.heap.size := by have := hI.lt; omega
        clear HZ HV HE hcg1 hcr1 hfr1 hci hba hI hb0 hcg hcr hfr
        refine wpIn_rangeFunc_ownG rfl (by decide) (gf := 102) (lb := #[.pointer (some ⟨wr.heap.size + 1, 0, none⟩)]) rfl trivial (enters_of Tryd.func102 (by kernel_rfl) rfl)
          (elems_stops 8 x hx16 (wr.heap.size + 1) W0 cS hT0) TabK.t (fun W l o o' _ h ho _ => TabK.b W l o o' h ho) (Below.refl _ _) (fun _ => rfl)
          (fun pre W => (∀ y ∈ pre, ibit (xs.getD y.1 0) k = true) ∧ Below W0.heap.size W0 W)
          (fun c _ W => c = .ret ∧ graphB xs = false ∧ W.cell? ⟨w.heap.size + 1, 0, none⟩ = some (.bool false) ∧ Mod (· = w.heap.size + 1) W0 W)
          (OwnFrom.and (fun s A B row hs _ _ => hs) (ownFrom_below (Nat.le_refl _) (Nat.le_refl _)))
          (fun c s A B row hs hg hr => ⟨hs.1, hs.2.1, cell_kept hs.2.2.1 hg (fun r e => (hr r e).2), hs.2.2.2.grown hg fun r e => (hr r e).1⟩)
          ⟨by simp, Below.refl _ _⟩
          (fun y => { tmps := #[.slice (some ⟨b, o, none⟩) xs.length cap, .pointer (some ⟨w.heap.size, 0, none⟩), .pointer (some ⟨w.heap.size + 1, 0, none⟩), .pointer (some ⟨wr.heap.size, 0, none⟩), .int .i64 x, .int .i64 y.1, .slice (some ⟨b, o, none⟩) xs.length cap, .int .i64 xs.length, .bool false, .bool false, .slice (some ⟨b, o, none⟩) xs.length cap, .int .i64 xs.length, .bool false, .bool false, .slice (some ⟨b, o, none⟩) xs.length cap, .int .i64 xs.length, .int .i64 k, .bool true, .int .i64 k, .pointer (some ⟨b, o + k, none⟩), .int .i64 x, .int .i64 x, .slice (some ⟨b, o, none⟩) xs.length cap, .int .i64 xs.length, .bool true, .bool false, .bool false, .int .i64 x, .int .i64 k, .bool false, .bool false, .int .i64 x, .func (.func 102) #[] #[.pointer (some ⟨wr.heap.size + 1, 0, none⟩)], .int .i64 y.1, undef, undef, undef, undef, undef, undef, undef, u41], defers := [] }) ?assign ?body ?done ?stop
        case assign =>
          intro l y W K hK
          gi_wp2
          exact hK
        case body =>
          rintro l pre y W ⟨hp, hB⟩ _
          have hy : y.1 < xs.length := by
            refine Nat.lt_of_not_le fun hle => ?_
            have := y.2.1
            rw [Nat.testBit_lt_two_pow (Nat.lt_of_lt_of_le HX1.out (Nat.pow_le_pow_right (by decide) hle))] at this
            cases this
          obtain ⟨b', o', e, hcy⟩ := HX.out y.1 hy
          cases e
          have hcy' := ck hcy (HBW.out.trans (hB.mono HBW.out.size))
          have hcgW := ck hcg2 hB
          have hcrW := ck hcr2 hB
          have hfrW := fz hcr2 hfr2 hB
          have hciW := ck hci2 hB
          have HV := Lib.hid (fun w => hasI_any (xs.getD y.1 0) k w (by omega))
          have HXb : Hid (ibit (xs.getD k 0) y.1 = true) := Lib.hid (by rw [HXK.out, ibit_nat]; exact y.2.1)
          have hmx : Tryd.prog.follows .mixedOrders = true := by kernel_rfl
          have hix0 : (0:Int) ≤ (y.1:Int) := by omega
          have hix1 : (y.1:Int) < (xs.length:Int) := by omega
          cases hv : ibit (xs.getD y.1 0) k with
          | false =>
            have HG : Hid (graphB xs = false) := Lib.hid (graphB_sym hlt hy (by rw [HXb.out, hv]; simp))
            rw [hv] at HV
            clear hcy hcg2 hcr2 hfr2 hci2 hck'
            generalize xs.getD y.1 0 = zy at *
            gi_wp2_with fail
            refine round_region_quiet_lit hmx (by rintro ⟨_, _, h⟩; exact h) (by kernel_rfl) (by kernel_rfl) ?_
            repeat (quiet_step ((go_at_call 74; exact quiet_eq (HV.out _))))
            refine wpQuiet_nil ?_
            intro _ hw'
            obtain ⟨nq, hw''⟩ := hw'
            subst hw''
            gi_wp2_with fail
            have hko : KeepsFrom W0.heap.size W ((W.drewN nq).setCell ⟨w.heap.size + 1, 0, none⟩ (.bool false)) := by
              have h1 := (KeepsOthers.setCell (W.drewN nq) ⟨w.heap.size + 1, 0, none⟩ (.bool false)).from W0.heap.size
              exact ⟨h1.size, h1.same⟩
            exact ⟨hko, rfl, HG.out, World.cell?_setCell_same' _ ⟨w.heap.size + 1, 0, none⟩ (.bool false) (by show ((W.cell? _).isSome = true); rw [hcrW]; rfl),
              (Mod.of_below (S := (· = w.heap.size + 1)) (below_drewN hB nq)).setCell (.inl rfl) _⟩
          | true =>
            rw [hv] at HV
            have HP : Hid (∀ y' ∈ pre ++ [y], ibit (xs.getD y'.1 0) k = true) := Lib.hid (fun y' hy' => (List.mem_append.1 hy').elim (hp y') fun e => by rw [List.mem_singleton.1 e]; exact hv)
            clear hcy hcg2 hcr2 hfr2 hci2 hck' hp hv
            generalize xs.getD y.1 0 = zy at *
            gi_wp2_with fail
            refine round_region_quiet_lit hmx (by rintro ⟨_, _, h⟩; exact h) (by kernel_rfl) (by kernel_rfl) ?_
            repeat (quiet_step ((go_at_call 74; exact quiet_eq (HV.out _))))
            refine wpQuiet_nil ?_
            intro _ hw'
            obtain ⟨nq, hw''⟩ := hw'
            subst hw''
            gi_wp2_with fail
            exact ⟨⟨Nat.le_refl _, fun _ _ _ h _ => h⟩, fun h => h, HP.out, below_drewN hB nq⟩
        case done =>
          rintro D zs W hD hS ⟨hp, hB⟩ hK
          have hbk : Below wr.heap.size wr W := hb2.trans (hB.mono (by omega))
          have hcw := ck hcg2 hB
          have hrw := ck hcr2 hB
          have hfw := fz hcr2 hfr2 hB
          have hmk : Marks w.heap.size W ds := HI.out.mks.kept fun D' hD' => hbk.block D' (Array.getElem?_eq_some_iff.1 hD').1
          have hme : ∀ d ∈ ds, d ≠ { target := .collected D, args := #[] } := fun d hd e => by
            obtain ⟨D', e', _, h3⟩ := HI.out.mks.1 d hd
            rw [e] at e'
            simp only [Deferred.mk.injEq, Target.collected.injEq, and_true] at e'
            subst e'
            have := (Array.getElem?_eq_some_iff.1 h3).1
            omega
          have hgd : ∀ i, i < k + 1 → (setB (xs.getD i 0) xs.length = true ∧ ibit (xs.getD i 0) i = false) ∧ ∀ j, j < xs.length → ibit (xs.getD i 0) j = true → ibit (xs.getD j 0) i = true := fun i hi => by
            by_cases e : i = k
            · subst e
              refine ⟨HGK.out, fun j hj hb => ?_⟩
              rw [HXK.out, ibit_nat] at hb
              have hm : j ∈ elems x := elems_iff.2 ⟨by omega, hb⟩
              rw [← hS] at hm
              obtain ⟨y, hy, rfl⟩ := List.mem_map.1 hm
              exact hp y hy
            · exact HI.out.good i (by omega)
          have hbw := HBW.out.trans (hB.mono HBW.out.size)
          have HIG : Hid (IG xs (some ⟨b, o, none⟩) cap w (k + 1) ({ target := .collected D, args := #[] } :: ds) W) := Lib.hid ⟨by omega, hcw, hrw, hfw, hmk.cons (by have := HI.out.lt; omega) hK hme, hgd, hbw, by have := hB.size; omega⟩
          clear hbk hmk hme hgd hbw hcw hrw hfw HI HXK HX1 HT HBW HX hp hS
          gi_wp2_with fail
          refine ⟨⟨k + 1, _, _, _, _, _, _, _, _, _, _, _, _, _, _, _, _, _, _, _, _, rfl, HIG.out⟩, ?_⟩
          simp [intOf]; omega
        case stop =>
          rintro D c pre W hD _ ⟨rfl, hg, hcr, hmd⟩ hK
          have hmw : Mod (· = w.heap.size + 1) wr W := (Mod.of_below hb2).trans hmd fun _ h => .inl h
          have hmk : Marks w.heap.size W ds := HI.out.mks.mod hmw HI.out.cr
          have hme : ∀ d ∈ ds, d ≠ { target := .collected D, args := #[] } := fun d hd e => by
            obtain ⟨D', e', _, h3⟩ := HI.out.mks.1 d hd
            rw [e] at e'
            simp only [Deferred.mk.injEq, Target.collected.injEq, and_true] at e'
            subst e'
            have := (Array.getElem?_eq_some_iff.1 h3).1
            omega
          have hsW := hmw.size
          have hsI := HI.out.bel.size
          have hbw := HI.out.bel.trans (hmw.below hsI (fun k e => by omega))
          gi_wp2_with fail
          refine marks_leave _ _ (hmk.cons (by omega) hK hme) (by omega) fun W' hb hc => ?_
          have hres := hc _ _ hcr
          exact ⟨.bool false, by simp [results, Tryd.f60, go_sem, hres], by rw [hg], hbw.trans hb⟩
  · obtain rfl : k = xs.length := by have := hI.hk; omega
    have HB : Hid (graphB xs = true) := graphB_good1 (by omega) (by omega) (fun i hi => (hI.good i hi).1) fun i hi j hj => (hI.good i hi).2 j hj
    have hcr1 := hI.cr
    have hfr1 := hI.fr
    gi_wp2_with fail
    have hmd : Mod (· = w.heap.size + 1) wr (wr.setCell ⟨w.heap.size + 1, 0, none⟩ (.bool true)) := (Mod.refl (· = w.heap.size + 1) wr).setCell (.inl rfl) _
    refine marks_leave ds _ (hI.mks.mod hmd hI.cr) (by have := hmd.size; have := hI.bel.size; omega) fun W' hb hc => ?_
    have hres := hc _ _ (World.cell?_setCell_same' _ ⟨w.heap.size + 1, 0, none⟩ (.bool true) (by rw [hcr1]; rfl))
    refine ⟨.bool true, by simp [results, Tryd.f60, go_sem, hres], by rw [HB.out], ?_⟩
    exact (hI.bel.trans (hmd.below hI.bel.size (fun k e => by omega))).trans hb
end Go.Proofs.YtdnhfnegnjdeoaaDoor
