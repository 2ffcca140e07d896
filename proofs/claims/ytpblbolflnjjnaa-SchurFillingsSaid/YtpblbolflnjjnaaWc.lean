/- test -/
import Derived.Test.YtpblbolflnjjnaaWb
namespace Go.Proofs.Ytpblbolflnjjnaa
open Go.RowKit

theorem Try.info3 : (Try.prog.info? 3).map (fun i => (i.zero, i.size, i.bytes)) = some (some (.int .i64 0), 1, 8) := by kernel_rfl
theorem Try.info22 : (Try.prog.info? 22).map (fun i => (i.zero, i.size, i.bytes)) = some (some (.slice none 0 0), 1, 24) := by kernel_rfl

set_option maxHeartbeats 400000 in
theorem clone1_any (v : Value) (zs : List Int) (w : World) (h : Ints w v zs) :
    Calls Try.prog 59 #[v] w fun e w' => ∃ ao c, e = .returned (.slice ao zs.length c) ∧ w'.ownsRow w.heap.size 3 1 (.slice ao zs.length c) zs.length (ints zs) ∧ Below w.heap.size w w' := by
  obtain ⟨ao, cap, rfl, h1, h2, hc⟩ := h.open
  have hq := fun w a n c => Lib.run_eql_slice_nil (P := Try.prog) w 22 3 a n c 0 0 Try.underlying22
  rcases ao with _ | ad
  · obtain rfl : zs = [] := by
      cases zs with
      | nil => rfl
      | cons x t =>
        obtain ⟨b, o, e, _⟩ := hc 0 (by simp)
        cases e
    clear h h1 h2 hc
    go_enter Try.func59, Try.ntmps59
    go_wp2
    go_ret
    exact ⟨_, _, rfl, World.ownsRow_nil _ _ _ _, Below.refl _ _⟩
  · obtain ⟨i0, hi, hz0, hz1, hz2⟩ := info_parts Try.info3
    clear h
    go_enter Try.func59, Try.ntmps59
    go_wp2_with (at_builtin; go_must (refine wpList_append_own _ rfl _ _ 22 rfl w.heap.size 3 i0 (.int .i64 0) 1 8 Try.underlying22 hi hz0 hz1 hz2 rfl (by decide) _ _ _ rfl (World.ownsRow_made w #[] 0 (Nat.le_refl _) (Nat.zero_le _) rfl) ad zs.length cap (ints zs) rfl (by simp [ints]) ?c1 ?c2 ?c3 ?c4 ?c5 ?_))
    case c1 =>
      intro j u hj
      have hlt : j < zs.length := by have := (List.getElem?_eq_some_iff.1 hj).1; simpa [ints] using this
      obtain ⟨b, o, e, hck⟩ := hc j hlt
      obtain rfl := Option.some.inj e
      have hu : u = .int .i64 (zs.getD j 0) := by simp [ints, hlt] at hj; simp [hlt, ← hj]
      rw [Addr.add_lit, hu, ← hck]
      exact World.cell?_alloc_past _ _ _ (by have := World.block_lt_of_cell? w _ hck; exact this)
    case c2 => exact ints_oneCell _ _
    case c3 => unfold maxLen; omega
    case c4 => omega
    case c5 => simp
    intro v' w1 hown hg _
    have HO : w1.ownsRow w.heap.size 3 1 v' zs.length (ints zs) := by simpa using hown
    have HB : Below w.heap.size w w1 := ((Below.refl _ _).alloc (Nat.le_refl _) _).grown hg (by simp) (by intro k hk; simp [Value.ownBlock] at hk; omega)
    obtain ⟨ao', c', rfl⟩ := owns_form HO
    clear hown hg hc hq
    go_wp2
    go_ret
    exact ⟨_, _, rfl, HO, HB⟩

set_option maxHeartbeats 400000 in
theorem equal_any (v v' : Value) (xs ys : List Int) (w : World) (h : Ints w v xs) (h' : Ints w v' ys) :
    Calls Try.prog 47 #[v, v'] w fun e w' => e = .returned (.bool (eqB xs ys)) ∧ Below w.heap.size w w' := by
  obtain ⟨ao, cap, rfl, h1, h2, hc⟩ := h.open
  obtain ⟨ao', cap', rfl, h1', h2', hc'⟩ := h'.open
  clear h h'
  by_cases hl : xs.length = ys.length
  · have hL : ((xs.length : Int) != (ys.length : Int)) = false := by simp [hl]
    have HL : Hid (xs.length = ys.length) := hl
    rw [← hl] at h1' h2' hc' hL ⊢
    clear hl
    go_enter Try.func47, Try.ntmps47
    go_wp2
    go_loopw [13] (fun i wr => ∃ k : Nat, k ≤ xs.length ∧ i = .int .i64 k ∧ (∀ j, j < k → xs.getD j 0 = ys.getD j 0) ∧ Below w.heap.size w wr) (fun i _ => xs.length - (intOf i).toNat)
    case atStart => exact ⟨0, Nat.zero_le _, rfl, fun j hj => absurd hj (by omega), Below.refl _ _⟩
    case round =>
      obtain ⟨k, hk, rfl, hall, hb⟩ := hrel
      by_cases hlt : k < xs.length
      · obtain ⟨b, o, rfl, hck⟩ := hc k hlt
        obtain ⟨b', o', rfl, hck'⟩ := hc' k (by omega)
        clear hc hc'
        have hk1 := (hb.cell (p := ⟨b, o + k, none⟩) (World.block_lt_of_cell? w _ hck)).trans hck
        have hk2 := (hb.cell (p := ⟨b', o' + k, none⟩) (World.block_lt_of_cell? w _ hck')).trans hck'
        clear hck hck'
        have HF : Hid (xs.getD k 0 ≠ ys.getD k 0 → eqB xs ys = false) := fun hx => eqB_at hx
        have HA : Hid (xs.getD k 0 = ys.getD k 0 → ∀ j, j < k + 1 → xs.getD j 0 = ys.getD j 0) := fun hx j hj => by
          by_cases e : j = k
          · subst e; exact hx
          · exact hall j (by omega)
        clear hall
        generalize xs.getD k 0 = x at *
        generalize ys.getD k 0 = y at *
        go_wp2
        go_region
        by_cases hxy : x = y
        · subst hxy
          go_wp2
          go_roundw
          case rel => exact ⟨k + 1, by omega, by go_num, HA.out rfl, hb.drew⟩
          case measure => simp [intOf]; omega
        · have hne : (x != y) = true := by simpa using hxy
          go_wp2
          go_ret
          exact ⟨ret_bool (HF.out hxy).symm, hb.drew⟩
      · obtain rfl : k = xs.length := by omega
        have HE : Hid (eqB xs ys = true) := eqB_all HL.out hall
        clear hall hc hc'
        go_wp2
        go_ret
        exact ⟨ret_bool HE.out.symm, hb⟩
  · have hL : ((xs.length : Int) != (ys.length : Int)) = true := by simp; omega
    have HE : Hid (eqB xs ys = false) := eqB_len hl
    clear hc hc'
    go_enter Try.func47, Try.ntmps47
    go_wp2
    go_ret
    exact ⟨ret_bool HE.out.symm, Below.refl _ _⟩

theorem Try.zero22 (w : World) : (zeroValue 22).run Try.prog w = .ok (.slice none 0 0) w := by kernel_rfl

/-- The state of clone's loop behind k rounds. -/
def CloneInv (w : World) (xss : List (List Int)) (k : Nat) (wr : World) : Prop :=
  ∃ vs, wr.ownsRow w.heap.size 22 1 (.slice (some ⟨w.heap.size, 0, none⟩) xss.length xss.length) xss.length (vs ++ List.replicate (xss.length - k) (.slice none 0 0)) ∧
    RowsOwned wr (w.heap.size + 1) vs (xss.take k) ∧ Below w.heap.size w wr

theorem CloneInv.step {w wr w1 : World} {xss : List (List Int)} {k : Nat} {u : Value} (h : CloneInv w xss k wr) (hk : k < xss.length) (hsz : w.heap.size < wr.heap.size)
    (hu : w1.ownsRow wr.heap.size 3 1 u (xss.getD k []).length (ints (xss.getD k []))) (hb : Below wr.heap.size wr w1) :
    CloneInv w xss (k+1) (w1.setCell ⟨w.heap.size, k, none⟩ u) := by
  obtain ⟨vs, h1, h2, h3⟩ := h
  have hl : vs.length = k := by rw [h2.1]; simp; omega
  have h1' := owns_below h1 hb (Nat.le_refl _)
  have hs := (World.ownsRow.stored h1' k u).1
  have e : (vs ++ List.replicate (xss.length - k) (Value.slice none 0 0)).set k u = (vs ++ [u]) ++ List.replicate (xss.length - (k+1)) (.slice none 0 0) := by
    rw [List.set_append_right _ _ (by omega), hl, Nat.sub_self]
    obtain ⟨m, hm⟩ : ∃ m, xss.length - k = m + 1 := ⟨xss.length - k - 1, by omega⟩
    rw [hm, List.replicate_succ, List.set_cons_zero, show xss.length - (k+1) = m by omega]
    simp
  rw [e] at hs
  refine ⟨vs ++ [u], hs, ?_, h3.trans ?_⟩
  · have e2 : xss.take (k+1) = xss.take k ++ [xss.getD k []] := by
      rw [List.take_succ_eq_append_getElem hk]; simp [hk]
    rw [e2]
    refine RowsOwned.setBelow (RowsOwned.snoc (C := wr.heap.size) (h2.below hb (Nat.le_refl _)) hu (by omega) fun i x b hx hb' => (h2.lt hx hb').2) ?_ u
    show w.heap.size < _
    omega
  · exact (hb.mono h3.size).setCell (Nat.le_refl _) u

set_option maxHeartbeats 400000 in
theorem clone_any (v : Value) (xss : List (List Int)) (w : World) (h : IntRows w v xss) (hn : xss.length ≤ 1000000) :
    Calls Try.prog 68 #[v] w fun e w' => ∃ v', e = .returned v' ∧ OwnRows w' w.heap.size v' xss ∧ Below w.heap.size w w' := by
  have h0 := h
  obtain ⟨ao, cap, rfl, h1, h2, hc⟩ := h.open
  obtain ⟨i0, hi, hz0, hz1, hz2⟩ := info_parts Try.info22
  clear h
  go_enter Try.func68, Try.ntmps68
  go_wp2_with (at_make; go_must (refine wpList_make_full _ rfl _ _ 34 rfl w.heap.size 22 i0 (.slice none 0 0) 1 Try.underlying34 hi hz0 hz1 _ _ _ _ xss.length rfl rfl rfl rfl ?b1 ?b2 ?b3 ?_))
  case b1 => rw [hz2]; omega
  case b2 => unfold maxLen; omega
  case b3 => exact Nat.le_refl _
  intro w1 hown hg
  have HI : CloneInv w xss 0 w1 := ⟨[], by simpa [toList_madeCells_one] using hown, by simpa using RowsOwned.nil w1 _, (Below.refl _ _).grown hg (Nat.le_refl _) (by intro k hk; cases hk)⟩
  have hsz : w.heap.size < w1.heap.size := by
    obtain ⟨_, h | ⟨g, cap', cur, e, _, hh, _⟩⟩ := hown
    · exact absurd h.1 (by simp)
    · simp only [Value.slice.injEq, Option.some.injEq, Addr.mk.injEq] at e
      exact e.1.1 ▸ lt_of_block hh
  clear hown hg hz0 hz1 hz2 hi
  go_wp2
  go_loopw [11] (fun i wr => ∃ k : Nat, k ≤ xss.length ∧ i = .int .i64 k ∧ CloneInv w xss k wr ∧ w.heap.size < wr.heap.size) (fun i _ => xss.length - (intOf i).toNat)
  case atStart => exact ⟨0, Nat.zero_le _, rfl, HI, hsz⟩
  case round =>
    clear HI hsz
    obtain ⟨k, hk, rfl, HI, hsz⟩ := hrel
    by_cases hlt : k < xss.length
    · obtain ⟨b, o, u, rfl, hck, hu⟩ := hc k (xss[k]) (by simp [hlt])
      have hbel := HI.choose_spec.2.2
      have hk1 := (hbel.cell (p := ⟨b, o + k, none⟩) (World.block_lt_of_cell? w _ hck)).trans hck
      have hu' := hu.below hbel (Nat.le_refl _)
      clear hc hck hbel hu
      go_wp2_with fail
      refine (clone1_any u xss[k] _ hu').mono ?_
      rintro e w2 ⟨ao', c', rfl, hv', hb'⟩
      have hu2 : w2.ownsRow wr.heap.size 3 1 (.slice ao' xss[k].length c') (xss.getD k []).length (ints (xss.getD k [])) := by simpa [hlt] using hv'
      have HS : Hid (CloneInv w xss (k+1) (w2.setCell ⟨w.heap.size, k, none⟩ (.slice ao' xss[k].length c'))) := HI.step hlt hsz hu2 hb'
      have hfr : w2.frozen? ⟨w.heap.size, k, none⟩ = false := by
        obtain ⟨vs, h1, _⟩ := HI
        exact (owns_below h1 hb' (Nat.le_refl _)).frozenAt k
      obtain ⟨old, hcell⟩ : ∃ old, w2.cell? ⟨w.heap.size, k, none⟩ = some old := by
        obtain ⟨vs, h1, h2, _⟩ := HI
        have := (owns_below h1 hb' (Nat.le_refl _)).cellAt k (by omega)
        have hl : vs.length = k := by rw [h2.1]; simp; omega
        exact ⟨.slice none 0 0, by rw [this, List.getElem?_append_right (by omega), List.getElem?_replicate, if_pos (by omega)]⟩
      have hsz2 : w.heap.size < w2.heap.size := Nat.lt_of_lt_of_le hsz hb'.size
      clear hu2 HI hv' hb' hu' hk1 h1 h2
      generalize xss[k].length = n at *
      go_wp2
      go_roundw
      case rel => exact ⟨k + 1, by omega, by go_num, HS.out, by simpa [World.setCell] using hsz2⟩
      case measure => simp [intOf]; omega
    · obtain rfl : k = xss.length := by omega
      clear hc
      go_wp2
      go_ret
      obtain ⟨vs, h1, h2, h3⟩ := HI
      simp at h1 h2
      exact ⟨_, rfl, ⟨vs, h1, h2.1, fun i u xs a b => owns_mono (h2.2.1 i u xs a b) (by omega), h2.2.2⟩, h3⟩
end Go.Proofs.Ytpblbolflnjjnaa
