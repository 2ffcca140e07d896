/- slices: clone, equal, list; worlds that extend a world -/
import Derived.Test.YtopmdmafameknaaRows
import Derived.Test.YtopmdmafameknaaLib
import Derived.Lib.Hide
import Derived.Deep.DeepCutAuto
import Derived.Laws.EntriesVeiled
namespace Go.Proofs.Ytopmdmafameknaa
open Go.RowKit

theorem below_drewN {B : Nat} {a w : World} (h : Below B a w) (n : Nat) : Below B a (w.drewN n) := ⟨h.os, h.tape, h.output, h.size, h.block⟩
theorem ck {W w1 : World} {a : Addr} {v : Value} (h : W.cell? a = some v) (hb : Below W.heap.size W w1) : w1.cell? a = some v := (hb.cell (World.block_lt_of_cell? W _ h)).trans h
theorem newOne (w : World) (x : Value) (t : TypeId) : ∀ (j : Nat) (u : Value), [x][j]? = some u → (w.alloc (.cells #[x] t)).cell? ((⟨w.heap.size, 0, none⟩ : Addr).add j) = some u := by
  intro j u hj
  match j, hj with
  | 0, hj => simp at hj; subst hj; simp [Addr.add]
theorem oneInt (x : Int) : ∀ u ∈ [Value.int .i64 x], u.oneCell' = true := by
  intro u hu; simp at hu; subst hu; rfl
theorem Try.info3 : (Try.prog.info? 3).map (fun i => (i.zero, i.size, i.bytes)) = some (some (.int .i64 0), 1, 8) := by kernel_rfl


theorem Ints.take {w : World} {ao : Option Addr} {n cap : Nat} {xs : List Int} (h : Ints w (.slice ao n cap) xs) {k : Nat} (hk : k ≤ n) : Ints w (.slice ao k cap) (xs.take k) := by
  obtain ⟨⟨ao', cap', hv, h1, h2, h3, h4⟩, hb⟩ := h
  simp only [Value.slice.injEq] at hv
  obtain ⟨rfl, hn, rfl⟩ := hv
  rw [ints_length] at *
  have hl : (xs.take k).length = k := by rw [List.length_take]; omega
  refine ⟨⟨ao, cap, by rw [ints_length, hl], by rw [ints_length]; omega, by rw [ints_length]; omega, h3, ?_⟩, fun x hx => hb x (List.mem_of_mem_take hx)⟩
  rcases h4 with h4 | ⟨b, o, rfl, hlt, hc⟩
  · left
    have : xs = [] := by simpa [ints] using h4
    subst this; simp [ints]
  · refine .inr ⟨b, o, rfl, hlt, fun j x hx => hc j x ?_⟩
    have hj := (List.getElem?_eq_some_iff.1 hx).1
    rw [ints_length] at hj
    simp only [ints, List.map_take] at hx ⊢
    rw [List.getElem?_take_of_lt (by omega)] at hx
    exact hx

theorem int_step {w wr w1 : World} {B : Nat} {v v' : Value} {xs : List Int} {x : Int} {o : Obj} (hown : wr.ownsRow B 3 1 v xs.length (ints xs)) (hnx : Below B w wr) (hB : B ≤ wr.heap.size)
    (hown' : w1.ownsRow B 3 1 v' (xs.length + 1) (ints xs ++ [.int .i64 x])) (hg : (wr.alloc o).grownBy w1 v.ownBlock) :
    w1.ownsRow B 3 1 v' (xs ++ [x]).length (ints (xs ++ [x])) ∧ Below B w w1 := by
  refine ⟨by simpa [ints] using hown', (hnx.alloc hB _).grown hg (by simp; omega) fun k hk => (hown.lt k hk).1⟩


theorem ints_oneCell (zs : List Int) : ∀ u ∈ ints zs, u.oneCell' = true := by
  intro u hu; simp only [ints, List.mem_map] at hu; obtain ⟨x, _, rfl⟩ := hu; rfl

set_option maxHeartbeats 400000 in
theorem clone1_any (v : Value) (zs : List Int) (w : World) (h : Ints w v zs) :
    Calls Try.prog 53 #[v] w fun e w' => ∃ ao c, e = .returned (.slice ao zs.length c) ∧ w'.ownsRow w.heap.size 3 1 (.slice ao zs.length c) zs.length (ints zs) ∧ Below w.heap.size w w' := by
  obtain ⟨ao, cap, rfl, h1, h2, hc⟩ := h.open
  have hq := fun w a n c => Lib.run_eql_slice_nil (P := Try.prog) w 22 3 a n c 0 0 Try.underlying22
  rcases ao with _ | ad
  · obtain rfl : zs = [] := by
      cases zs with
      | nil => rfl
      | cons x t =>
        obtain ⟨b, o, e, _⟩ := hc 0 (by simp)
        cases e
    clear h h1 h2 hc
    go_enter Try.func53, Try.ntmps53
    go_wp2
    go_ret
    exact ⟨_, _, rfl, World.ownsRow_nil _ _ _ _, Below.refl _ _⟩
  · obtain ⟨i0, hi, hz0, hz1, hz2⟩ := info_parts Try.info3
    clear h
    go_enter Try.func53, Try.ntmps53
    go_wp2_with (at_builtin; go_must (refine wpList_append_own _ rfl _ _ 22 rfl w.heap.size 3 i0 (.int .i64 0) 1 8 Try.underlying22 hi hz0 hz1 hz2 rfl (by decide) _ _ _ rfl (World.ownsRow_made w #[] 0 (Nat.le_refl _) (Nat.zero_le _) rfl) ad zs.length cap (ints zs) rfl (by simp [ints]) ?c1 ?c2 ?c3 ?c4 ?c5 ?_))
    case c1 =>
      intro j u hj
      have hlt : j < zs.length := by have := (List.getElem?_eq_some_iff.1 hj).1; simpa [ints] using this
      obtain ⟨b, o, e, hck⟩ := hc j hlt
      obtain rfl := Option.some.inj e
      have hu : u = .int .i64 (zs.getD j 0) := by simp [ints, hlt] at hj; simp [hlt, ← hj]
      rw [Addr.add_lit, hu, ← hck]
      exact World.cell?_alloc_past _ _ _ (by have := World.block_lt_of_cell? w _ hck; exact this)
    case c2 => exact ints_oneCell _
    case c3 => unfold maxLen; omega
    case c4 => omega
    case c5 => simp
    intro v' w1 hown hg _
    have HO : w1.ownsRow w.heap.size 3 1 v' zs.length (ints zs) := by simpa using hown
    have HB : Below w.heap.size w w1 := ((Below.refl _ _).alloc (Nat.le_refl _) _).grown hg (by simp) (by intro k hk; simp [Value.ownBlock] at hk; omega)
    obtain ⟨ao', c', rfl⟩ := owns_form HO
    clear hown hg hc hq
    go_wp2
    go_ret
    exact ⟨_, _, rfl, HO, HB⟩

theorem Ints.of_owns {w : World} {B : Nat} {v : Value} {n : Nat} {xs : List Int} (h : w.ownsRow B 3 1 v n (ints xs)) (hn : n ≤ 17592186044416) (hb : ∀ x ∈ xs, I64 x) : Ints w v xs := ⟨Sl.of_owns h hn, hb⟩

set_option maxHeartbeats 400000 in
theorem list_any (v : Value) (zs : List Int) (w : World) (h : Ints w v zs) :
    Calls Try.prog 18 #[v] w fun e w' => ∃ v', e = .returned v' ∧ Ints w' v' (zs.take 20) ∧ Below w.heap.size w w' := by
  obtain ⟨ao, cap, rfl, h1, h2, hc⟩ := h.open
  have HT := Lib.hid (fun k (hk : k ≤ zs.length) => clone1_any _ _ w (h.take hk))
  have HB := Lib.hid h.2
  clear h hc
  by_cases hl : zs.length ≤ 20
  · have HT' := Lib.hid (HT.out zs.length (Nat.le_refl _))
    have hm : min (zs.length : Int) 20 = zs.length := by omega
    have hm2 : min zs.length 20 = zs.length := by omega
    have HE : Hid (zs.take 20 = zs) := List.take_of_length_le hl
    rw [List.take_length] at HT'
    go_enter Try.func18, Try.ntmps18
    go_wp2_with fail
    refine HT'.out.mono ?_
    rintro e w1 ⟨ao1, c1, rfl, hown, hb1⟩
    have HO := Lib.hid (Ints.of_owns hown h2 HB.out)
    have HB1 := Lib.hid hb1
    clear hown hb1
    go_wp2
    go_ret
    exact ⟨_, rfl, by rw [HE.out]; exact HO.out, HB1.out⟩
  · have HT' := Lib.hid (HT.out 20 (by omega))
    have hm : min (zs.length : Int) 20 = 20 := by omega
    have hln : (zs.take 20).length = 20 := by rw [List.length_take]; omega
    rw [hln] at HT'
    clear hln
    go_enter Try.func18, Try.ntmps18
    go_wp2_with fail
    refine HT'.out.mono ?_
    rintro e w1 ⟨ao1, c1, rfl, hown, hb1⟩
    have HO := Lib.hid (Ints.of_owns hown (by omega) (fun x hx => HB.out x (List.mem_of_mem_take hx)))
    have HB1 := Lib.hid hb1
    clear hown hb1
    go_wp2
    go_ret
    exact ⟨_, rfl, HO.out, HB1.out⟩


set_option maxHeartbeats 400000 in
theorem equal_any (v v' : Value) (xs ys : List Int) (w : World) (h : Ints w v xs) (h' : Ints w v' ys) :
    Calls Try.prog 23 #[v, v'] w fun e w' => e = .returned (.bool (eqB xs ys)) ∧ Below w.heap.size w w' := by
  obtain ⟨ao, cap, rfl, h1, h2, hc⟩ := h.open
  obtain ⟨ao', cap', rfl, h1', h2', hc'⟩ := h'.open
  clear h h'
  by_cases hl : xs.length = ys.length
  · have hL : ((xs.length : Int) != (ys.length : Int)) = false := by simp [hl]
    have HL : Hid (xs.length = ys.length) := hl
    rw [← hl] at h1' h2' hc' hL ⊢
    clear hl
    go_enter Try.func23, Try.ntmps23
    go_wp2
    go_loopw [13] (fun i wr => ∃ k : Nat, k ≤ xs.length ∧ i = .int .i64 k ∧ (∀ j, j < k → xs.getD j 0 = ys.getD j 0) ∧ Below w.heap.size w wr) (fun i _ => xs.length - (intOf i).toNat)
    case atStart => exact ⟨0, Nat.zero_le _, rfl, fun j hj => absurd hj (by omega), Below.refl _ _⟩
    case round =>
      obtain ⟨k, hk, rfl, hall, hb⟩ := hrel
      by_cases hlt : k < xs.length
      · obtain ⟨b, o, rfl, hck⟩ := hc k hlt
        obtain ⟨b', o', rfl, hck'⟩ := hc' k (by omega)
        clear hc hc'
        have hk1 := (hb.cell (p := ⟨b, o + k, none⟩) (World.block_lt_of_cell? w _ hck)).trans hck
        have hk2 := (hb.cell (p := ⟨b', o' + k, none⟩) (World.block_lt_of_cell? w _ hck')).trans hck'
        clear hck hck'
        have HF : Hid (xs.getD k 0 ≠ ys.getD k 0 → eqB xs ys = false) := fun hx => eqB_at hx
        have HA : Hid (xs.getD k 0 = ys.getD k 0 → ∀ j, j < k + 1 → xs.getD j 0 = ys.getD j 0) := fun hx j hj => by
          by_cases e : j = k
          · subst e; exact hx
          · exact hall j (by omega)
        clear hall
        generalize xs.getD k 0 = x at *
        generalize ys.getD k 0 = y at *
        go_wp2
        go_region
        by_cases hxy : x = y
        · subst hxy
          go_wp2
          go_roundw
          case rel => exact ⟨k + 1, by omega, by go_num, HA.out rfl, hb.drew⟩
          case measure => simp [intOf]; omega
        · have hne : (x != y) = true := by simpa using hxy
          go_wp2
          go_ret
          exact ⟨ret_bool (HF.out hxy).symm, hb.drew⟩
      · obtain rfl : k = xs.length := by omega
        have HE : Hid (eqB xs ys = true) := eqB_all HL.out hall
        clear hall hc hc'
        go_wp2
        go_ret
        exact ⟨ret_bool HE.out.symm, hb⟩
  · have hL : ((xs.length : Int) != (ys.length : Int)) = true := by simp; omega
    have HE : Hid (eqB xs ys = false) := eqB_len hl
    clear hc hc'
    go_enter Try.func23, Try.ntmps23
    go_wp2
    go_ret
    exact ⟨ret_bool HE.out.symm, Below.refl _ _⟩

end Go.Proofs.Ytopmdmafameknaa
