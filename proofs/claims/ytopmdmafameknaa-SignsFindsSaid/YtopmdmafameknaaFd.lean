/- arrays of four ints compared; Index and Contains of rows of four; slices.Sort of an array of four -/
import Derived.Test.YtopmdmafameknaaFc
import Derived.Test.YtopmdmafameknaaSo
import Derived.Deep.RegionHeld3
namespace Go.Proofs.Ytopmdmafameknaa
open Go.RowKit

abbrev qv (a b c d : Int) : Value := .agg #[.int .i64 a, .int .i64 b, .int .i64 c, .int .i64 d]
theorem run_part4 (a b c d : Int) (w : World) : (part 3 #[.int .i64 a, .int .i64 b, .int .i64 c, .int .i64 d] 0).run Try.prog w = .ok (.int .i64 a) w ∧ (part 3 #[.int .i64 a, .int .i64 b, .int .i64 c, .int .i64 d] 1).run Try.prog w = .ok (.int .i64 b) w ∧ (part 3 #[.int .i64 a, .int .i64 b, .int .i64 c, .int .i64 d] 2).run Try.prog w = .ok (.int .i64 c) w ∧ (part 3 #[.int .i64 a, .int .i64 b, .int .i64 c, .int .i64 d] 3).run Try.prog w = .ok (.int .i64 d) w := by
  refine ⟨?_, ?_, ?_, ?_⟩ <;> kernel_rfl
theorem run_size3 (w : World) : (sizeOf 3).run Try.prog w = .ok 1 w := by kernel_rfl
theorem eqIn_four (D : Nat) (a b c d x y z u : Int) (w : World) : (Op.equalIn (D + 2) 43 (qv a b c d) (qv x y z u)).run Try.prog w = .ok (decide ((a, b, c, d) = (x, y, z, u))) w := by
  have h : Try.prog.underlying 43 = some (.array 4 3) := Try.underlying43
  have p1 := run_part4 a b c d
  have p2 := run_part4 x y z u
  have e := fun (a b : Int) => run_equalIn_int (P := Try.prog) w D 3 .i64 .i64 a b Try.underlying3
  rw [Op.equalIn]
  simp only [Sem.run_bind, run_underlying h, Result.andThen_ok, run_size3]
  simp only [Std.Legacy.Range.forIn_eq_forIn_range', Std.Legacy.Range.size]
  simp [List.range', p1, p2, e]
  by_cases h1 : a = x <;> by_cases h2 : b = y <;> by_cases h3 : c = z <;> by_cases h4 : d = u <;> simp [h1, h2, h3, h4]
theorem run_eql_four (a b c d x y z u : Int) (w : World) : (binOp .eql 43 (qv a b c d) (qv x y z u)).run Try.prog w = .ok (.bool (decide ((a, b, c, d) = (x, y, z, u)))) w := by
  rw [run_eql_struct, eqIn_four 9998]; rfl
/-- Rows of four that are read. -/
def RowsC (w : World) (v : Value) (L : List (List Nat)) : Prop := ∃ ao c, v = .slice ao L.length c ∧ L.length ≤ c ∧ L.length ≤ 1000 ∧ ∀ k x, L[k]? = some x → ∃ g, ao = some ⟨g, 0, none⟩ ∧ w.cell? ⟨g, k * 4, none⟩ = some (.int .i64 (x.getD 0 0 : Nat)) ∧ w.cell? ⟨g, k * 4 + 1, none⟩ = some (.int .i64 (x.getD 1 0 : Nat)) ∧ w.cell? ⟨g, k * 4 + 2, none⟩ = some (.int .i64 (x.getD 2 0 : Nat)) ∧ w.cell? ⟨g, k * 4 + 3, none⟩ = some (.int .i64 (x.getD 3 0 : Nat))
theorem RowsC.below {w w' : World} {v : Value} {L : List (List Nat)} (h : RowsC w v L) (hb : Below w.heap.size w w') : RowsC w' v L := by
  obtain ⟨ao, c, e, h1, h2, h3⟩ := h
  exact ⟨ao, c, e, h1, h2, fun k x hx => let ⟨g, e, a, b, c, d⟩ := h3 k x hx; ⟨g, e, ck a hb, ck b hb, ck c hb, ck d hb⟩⟩
theorem flat4_get : ∀ (L : List (List Nat)) (k : Nat) (x : List Nat) (j : Nat), (∀ y ∈ L, y.length = 4) → L[k]? = some x → j < 4 → (flat4 L)[k * 4 + j]? = some (.int .i64 (x.getD j 0 : Nat))
  | [], k, x, j, _, h, _ => by simp at h
  | y :: L, 0, x, j, hl, h, hj => by
    have hy := hl y (by simp)
    simp at h
    subst h
    have hj' : j < y.length := by omega
    show (ints (nats y) ++ flat4 L)[0 * 4 + j]? = _
    rw [List.getElem?_append_left (by simp [ints, nats]; omega)]
    simp [ints, nats, hj']
  | y :: L, k + 1, x, j, hl, h, hj => by
    have hy := hl y (by simp)
    have ih := flat4_get L k x j (fun z hz => hl z (by simp [hz])) (by simpa using h) hj
    have hln : (ints (nats y)).length = 4 := by simp [ints, nats, hy]
    show (ints (nats y) ++ flat4 L)[(k + 1) * 4 + j]? = _
    rw [List.getElem?_append_right (by omega), hln, show (k + 1) * 4 + j - 4 = k * 4 + j by omega]
    exact ih
theorem RowsF.read {w : World} {v : Value} {L : List (List Nat)} (h : RowsF w v L) (hl : ∀ y ∈ L, y.length = 4) (h1 : L.length ≤ 1000) : RowsC w v L := by
  obtain ⟨B1, _, h2⟩ := h
  rcases h2 with ⟨rfl, h0⟩ | ⟨g, cap, cur, rfl, _, hh, hc, _, hs, hx⟩
  · refine ⟨none, 0, by rw [h0], by omega, h1, fun k x hx => ?_⟩
    have := (List.getElem?_eq_some_iff.1 hx).1
    omega
  · refine ⟨_, cap, rfl, hc, h1, fun k x hk => ⟨g, rfl, ?_⟩⟩
    have hkl := (List.getElem?_eq_some_iff.1 hk).1
    have cell : ∀ j, j < 4 → w.cell? ⟨g, k * 4 + j, none⟩ = some (.int .i64 (x.getD j 0 : Nat)) := fun j hj => by
      have h9 := flat4_get L k x j hl hk hj
      rw [← hx, List.getElem?_take_of_lt (by omega), Array.getElem?_toList] at h9
      simp [World.cell?, hh, h9]
    exact ⟨cell 0 (by omega), cell 1 (by omega), cell 2 (by omega), cell 3 (by omega)⟩
theorem fourL_four {n : Nat} (h1 : 1 ≤ n) (h2 : n ≤ 100) : ∀ y ∈ fourL n, y.length = 4 := by
  have h := List.all_eq_true.1 found_chk n (List.mem_range.2 (by omega))
  simp only [Bool.or_eq_true, Bool.and_eq_true, beq_iff_eq, List.all_eq_true] at h
  rcases h with h | h
  · omega
  · exact fun y hy => (h.1.1.1 y hy).1.1.1

theorem below_drew' {B : Nat} {a w : World} (h : Below B a w) : Below B a w.drew := ⟨h.os, h.tape, h.output, h.size, h.block⟩
def four4 (x : List Nat) : Int × Int × Int × Int := ((x.getD 0 0 : Nat), (x.getD 1 0 : Nat), (x.getD 2 0 : Nat), (x.getD 3 0 : Nat))
set_option maxHeartbeats 1000000 in
theorem index4_any (v : Value) (L : List (List Nat)) (a b c d : Int) (w : World) (h : RowsC w v L) (hm : ∃ x ∈ L, four4 x = (a, b, c, d)) :
    Calls Try.prog 91 #[v, qv a b c d] w fun e w' => ∃ k : Nat, e = .returned (.int .i64 (k : Nat)) ∧ Below w.heap.size w w' := by
  obtain ⟨ao, cap, rfl, h1, h2, h5⟩ := h
  have HX := Lib.hid h5
  have HM := Lib.hid hm
  clear h5 hm
  have b0 : (w.alloc (.cells #[.int .i64 a, .int .i64 b, .int .i64 c, .int .i64 d] 43)).cell? ⟨w.heap.size, 0, none⟩ = some (.int .i64 a) := (Blk.new 43 w #[.int .i64 a, .int .i64 b, .int .i64 c, .int .i64 d]).cell 0
  have b1 : (w.alloc (.cells #[.int .i64 a, .int .i64 b, .int .i64 c, .int .i64 d] 43)).cell? ⟨w.heap.size, 1, none⟩ = some (.int .i64 b) := (Blk.new 43 w #[.int .i64 a, .int .i64 b, .int .i64 c, .int .i64 d]).cell 1
  have b2 : (w.alloc (.cells #[.int .i64 a, .int .i64 b, .int .i64 c, .int .i64 d] 43)).cell? ⟨w.heap.size, 2, none⟩ = some (.int .i64 c) := (Blk.new 43 w #[.int .i64 a, .int .i64 b, .int .i64 c, .int .i64 d]).cell 2
  have b3 : (w.alloc (.cells #[.int .i64 a, .int .i64 b, .int .i64 c, .int .i64 d] 43)).cell? ⟨w.heap.size, 3, none⟩ = some (.int .i64 d) := (Blk.new 43 w #[.int .i64 a, .int .i64 b, .int .i64 c, .int .i64 d]).cell 3
  have hB0 : Below w.heap.size w (w.alloc (.cells #[.int .i64 a, .int .i64 b, .int .i64 c, .int .i64 d] 43)) := (Below.refl _ _).alloc (Nat.le_refl _) _
  have HB0 := Lib.hid hB0
  have B0 := Lib.hid b0
  have B1 := Lib.hid b1
  have B2 := Lib.hid b2
  have B3 := Lib.hid b3
  clear b0 b1 b2 b3 hB0
  go_enter Try.func91, Try.ntmps91
  go_wp2_with fail
  generalize w.alloc (.cells #[.int .i64 a, .int .i64 b, .int .i64 c, .int .i64 d] 43) = wz at *
  go_loopw [8] (fun i wr => ∃ k : Nat, k ≤ L.length ∧ i = .int .i64 k ∧ (∀ j u, j < k → L[j]? = some u → four4 u ≠ (a, b, c, d)) ∧ Below wz.heap.size wz wr) (fun i _ => L.length - (intOf i).toNat)
  case atStart => exact ⟨0, Nat.zero_le _, rfl, fun j u hj => absurd hj (by omega), Below.refl _ _⟩
  case round =>
    obtain ⟨k, hk, rfl, hall, hb⟩ := hrel
    have HA := Lib.hid hall
    have HB := Lib.hid hb
    clear hall hb
    by_cases hlt : k < L.length
    · obtain ⟨x, ht⟩ : ∃ t, L[k]? = some t := ⟨L[k], by simp [hlt]⟩
      obtain ⟨g, rfl, c1, c2, c3, c4⟩ := HX.out k _ ht
      have HT := Lib.hid ht
      clear ht
      obtain ⟨x0, hx0⟩ : ∃ z : Int, z = (x.getD 0 0 : Nat) := ⟨_, rfl⟩
      obtain ⟨x1, hx1⟩ : ∃ z : Int, z = (x.getD 1 0 : Nat) := ⟨_, rfl⟩
      obtain ⟨x2, hx2⟩ : ∃ z : Int, z = (x.getD 2 0 : Nat) := ⟨_, rfl⟩
      obtain ⟨x3, hx3⟩ : ∃ z : Int, z = (x.getD 3 0 : Nat) := ⟨_, rfl⟩
      rw [← hx0] at c1
      rw [← hx1] at c2
      rw [← hx2] at c3
      rw [← hx3] at c4
      have HF : Hid (four4 x = (x0, x1, x2, x3)) := Lib.hid (by rw [hx0, hx1, hx2, hx3]; rfl)
      clear hx0 hx1 hx2 hx3
      have c1 := ck (ck c1 HB0.out) HB.out
      have c2 := ck (ck c2 HB0.out) HB.out
      have c3 := ck (ck c3 HB0.out) HB.out
      have c4 := ck (ck c4 HB0.out) HB.out
      have b0 := ck B0.out HB.out
      have b1 := ck B1.out HB.out
      have b2 := ck B2.out HB.out
      have b3 := ck B3.out HB.out
      have HBd := Lib.hid (HB0.out.trans ((below_drew' HB.out).mono HB0.out.size))
      have HBe := Lib.hid (below_drew' HB.out)
      by_cases heq : (a, b, c, d) = (x0, x1, x2, x3)
      · have he : ∀ w, (binOp .eql 43 (qv a b c d) (qv x0 x1 x2 x3)).run Try.prog w = .ok (.bool true) w := fun w => by rw [run_eql_four, decide_eq_true heq]
        unfold qv at he
        clear heq
        go_wp2_with fail
        go_region_held3 (fun W => W.cell? ⟨w.heap.size, 0, none⟩ = some (.int .i64 a) ∧ W.cell? ⟨w.heap.size, 1, none⟩ = some (.int .i64 b) ∧ W.cell? ⟨w.heap.size, 2, none⟩ = some (.int .i64 c) ∧ W.cell? ⟨w.heap.size, 3, none⟩ = some (.int .i64 d) ∧ W.cell? ⟨g, k * 4, none⟩ = some (.int .i64 x0) ∧ W.cell? ⟨g, k * 4 + 1, none⟩ = some (.int .i64 x1) ∧ W.cell? ⟨g, k * 4 + 2, none⟩ = some (.int .i64 x2) ∧ W.cell? ⟨g, k * 4 + 3, none⟩ = some (.int .i64 x3)) (go_keep) (fail)
        go_wp2_with fail
        go_ret
        exact ⟨k, rfl, HBd.out⟩
      · have he : ∀ w, (binOp .eql 43 (qv a b c d) (qv x0 x1 x2 x3)).run Try.prog w = .ok (.bool false) w := fun w => by rw [run_eql_four, decide_eq_false heq]
        unfold qv at he
        have H : Hid (∀ j u, j < k + 1 → L[j]? = some u → four4 u ≠ (a, b, c, d)) := by
          intro j u hj hu
          by_cases e : j = k
          · subst e; rw [HT.out] at hu; cases hu; rw [HF.out]; exact fun h => heq h.symm
          · exact HA.out j u (by omega) hu
        clear heq
        go_wp2_with fail
        go_region_held3 (fun W => W.cell? ⟨w.heap.size, 0, none⟩ = some (.int .i64 a) ∧ W.cell? ⟨w.heap.size, 1, none⟩ = some (.int .i64 b) ∧ W.cell? ⟨w.heap.size, 2, none⟩ = some (.int .i64 c) ∧ W.cell? ⟨w.heap.size, 3, none⟩ = some (.int .i64 d) ∧ W.cell? ⟨g, k * 4, none⟩ = some (.int .i64 x0) ∧ W.cell? ⟨g, k * 4 + 1, none⟩ = some (.int .i64 x1) ∧ W.cell? ⟨g, k * 4 + 2, none⟩ = some (.int .i64 x2) ∧ W.cell? ⟨g, k * 4 + 3, none⟩ = some (.int .i64 x3)) (go_keep) (fail)
        go_wp2_with fail
        go_roundw
        case rel => exact ⟨k + 1, by omega, by go_num, H.out, HBe.out⟩
        case measure => (first | (simp [intOf]; done) | (simp [intOf]; omega))
    · exfalso
      obtain ⟨x, hx, e⟩ := HM.out
      obtain ⟨j, hj, rfl⟩ := List.mem_iff_getElem.1 hx
      exact HA.out j L[j] (by omega) (by simp) e
set_option maxHeartbeats 400000 in
theorem contains4_any (v : Value) (L : List (List Nat)) (a b c d : Int) (w : World) (h : RowsC w v L) (hm : ∃ x ∈ L, four4 x = (a, b, c, d)) :
    Calls Try.prog 58 #[v, qv a b c d] w fun e w' => e = .returned (.bool true) ∧ Below w.heap.size w w' := by
  have HI := Lib.hid (fun W hW => index4_any v L a b c d W hW hm)
  have HX := Lib.hid (h.below ((Below.refl w.heap.size w).alloc (Nat.le_refl _) (.cells #[.int .i64 a, .int .i64 b, .int .i64 c, .int .i64 d] 43)))
  clear h
  unfold qv at *
  go_enter Try.func58, Try.ntmps58
  go_wp2_with fail
  refine (HI.out _ HX.out).mono ?_
  rintro e w1 ⟨k, rfl, hb⟩
  have HB := Lib.hid (((Below.refl w.heap.size w).alloc (Nat.le_refl _) (.cells #[.int .i64 a, .int .i64 b, .int .i64 c, .int .i64 d] 43)).trans (hb.mono (by simp)))
  clear hb
  go_wp2_with fail
  go_ret
  exact ⟨rfl, HB.out⟩

open Go.Sort in
theorem sort4_any (q : Nat → Int) (g : Nat) (w : World) (h : Blk 43 w g (fourV q)) :
    Calls Try.prog 57 #[.slice (some ⟨g, 0, none⟩) 4 4] w fun e w' => e = .returned (.tuple #[]) ∧ (∃ z : List Int, z = ([q 0, q 1, q 2, q 3].mergeSort fun x y => decide (x ≤ y)) ∧ Blk 43 w' g (ints z).toArray) ∧ w.grownBy w' (some g) := by
  have hx' : (fourV q).toList.take [q 0, q 1, q 2, q 3].length = [q 0, q 1, q 2, q 3].map (Value.int .i64) := rfl
  refine (sort57 g 0 4 [q 0, q 1, q 2, q 3] w (holds_of_blockI h hx') (lt_of_block h) (by simp)).mono fun e w' ⟨he, n, os, hw⟩ => ⟨he, ⟨_, rfl, ?_⟩, ?_⟩
  · subst hw
    have h9 := ownsRow_sortedI (w := w) (base := 0) (g := g) (cap := 4) (n := n) (e := 43) (os := os) (cur := fourV q) (ss := [q 0, q 1, q 2, q 3]) (List.length_mergeSort (le := fun x y => decide (x ≤ y)) _) (Nat.zero_le _) h (by simp) (by unfold maxLen; omega) rfl
    obtain ⟨_, h2⟩ := h9
    rcases h2 with ⟨e, _⟩ | ⟨g', cap', cur', e, _, hh, _, _, hs, hx⟩
    · cases e
    · cases e
      have hsz : cur'.size = 4 := by rw [hs]
      have hE : cur'.toList = ints ([q 0, q 1, q 2, q 3].mergeSort fun x y => decide (x ≤ y)) := by
        rw [List.take_of_length_le (by simp [hsz])] at hx
        exact hx
      have hC : cur' = (ints ([q 0, q 1, q 2, q 3].mergeSort fun x y => decide (x ≤ y))).toArray := by rw [← hE]
      rw [hC] at hh
      exact hh
  · subst hw; exact grownBy_sortedI _
end Go.Proofs.Ytopmdmafameknaa
