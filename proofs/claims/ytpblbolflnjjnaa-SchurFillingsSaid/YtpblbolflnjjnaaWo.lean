/- same, awake -/
import Derived.Test.YtpblbolflnjjnaaWn
namespace Go.Proofs.Ytpblbolflnjjnaa
open Go.RowKit

def eqRowsB (xss yss : List (List Int)) : Bool := decide (xss = yss)

theorem eqRows_len {xs ys : List (List Int)} (h : xs.length ≠ ys.length) : eqRowsB xs ys = false := decide_eq_false fun e => h (by rw [e])
theorem eqRows_at {xs ys : List (List Int)} {k : Nat} (h : eqB (xs.getD k []) (ys.getD k []) = false) : eqRowsB xs ys = false := decide_eq_false fun e => by
  rw [e] at h; simp [eqB] at h
theorem eqRows_all {xs ys : List (List Int)} (hl : xs.length = ys.length) (h : ∀ j, j < xs.length → xs.getD j [] = ys.getD j []) : eqRowsB xs ys = true := by
  refine decide_eq_true (List.ext_getElem hl fun j h1 h2 => ?_)
  have := h j h1
  simpa [List.getD, h1, h2] using this

set_option maxHeartbeats 1000000 in
theorem equalRows_any (v v' : Value) (xs ys : List (List Int)) (w : World) (h : IntRows w v xs) (h' : IntRows w v' ys) :
    Calls Try.prog 71 #[v, v', .func (.func 47) #[] #[]] w fun e w' => e = .returned (.bool (eqRowsB xs ys)) ∧ Below w.heap.size w w' := by
  obtain ⟨ao, cap, rfl, h1, h2, hc⟩ := h.open
  obtain ⟨ao', cap', rfl, h1', h2', hc'⟩ := h'.open
  clear h h'
  by_cases hl : xs.length = ys.length
  · have hL : ((xs.length : Int) != (ys.length : Int)) = false := by simp [hl]
    have HL : Hid (xs.length = ys.length) := hl
    rw [← hl] at h1' h2' hL ⊢
    clear hl
    go_enter Try.func71, Try.ntmps71
    go_wp2
    go_loopw [17] (fun i wr => ∃ k : Nat, k ≤ xs.length ∧ i = .int .i64 k ∧ (∀ j, j < k → xs.getD j [] = ys.getD j []) ∧ Below w.heap.size w wr) (fun i _ => xs.length - (intOf i).toNat)
    case atStart => exact ⟨0, Nat.zero_le _, rfl, fun j hj => absurd hj (by omega), Below.refl _ _⟩
    case round =>
      obtain ⟨k, hk, rfl, hall, hb⟩ := hrel
      by_cases hlt : k < xs.length
      · obtain ⟨b, o, u, rfl, hck, hu⟩ := hc k xs[k] (by simp [hlt])
        have hlt' : k < ys.length := by rw [← HL.out]; exact hlt
        obtain ⟨b', o', u', rfl, hck', hu'⟩ := hc' k ys[k] (by simp [hlt'])
        clear hc hc'
        have hk1 := (hb.cell (p := ⟨b, o + k, none⟩) (World.block_lt_of_cell? w _ hck)).trans hck
        have hk2 := (hb.cell (p := ⟨b', o' + k, none⟩) (World.block_lt_of_cell? w _ hck')).trans hck'
        have heq := equal_any u u' xs[k] ys[k] wr (hu.below hb (Nat.le_refl _)) (hu'.below hb (Nat.le_refl _))
        have HE := hidIt heq
        have e1 : xs.getD k [] = xs[k] := by simp [List.getD, hlt]
        have e2 : ys.getD k [] = ys[k] := by simp [List.getD, hlt']
        have HF : Hid (eqB xs[k] ys[k] = false → eqRowsB xs ys = false) := fun hx => eqRows_at (k := k) (by rw [e1, e2]; exact hx)
        have HA : Hid (eqB xs[k] ys[k] = true → ∀ j, j < k + 1 → xs.getD j [] = ys.getD j []) := fun hx j hj => by
          by_cases e : j = k
          · subst e; rw [e1, e2]; exact of_decide_eq_true hx
          · exact hall j (by omega)
        clear hall hck hck' heq e1 e2 hu hu'
        go_wp2_with fail
        refine HE.out.mono ?_
        rintro e w1 ⟨rfl, hb1⟩
        clear HE hk1 hk2
        have HB : Hid (Below w.heap.size w w1) := hb.trans (hb1.mono hb.size)
        clear hb hb1
        generalize eqB xs[k] ys[k] = t at *
        cases t
        · go_wp2
          go_ret
          exact ⟨ret_bool (HF.out (by simp)).symm, HB.out⟩
        · go_wp2
          go_roundw
          case rel => exact ⟨k + 1, by omega, by go_num, HA.out (by simp), HB.out⟩
          case measure => simp [intOf]; omega
      · obtain rfl : k = xs.length := by omega
        have HE : Hid (eqRowsB xs ys = true) := eqRows_all HL.out hall
        clear hall hc hc'
        go_wp2
        go_ret
        exact ⟨ret_bool HE.out.symm, hb⟩
  · have hL : ((xs.length : Int) != (ys.length : Int)) = true := by simp; omega
    have HE : Hid (eqRowsB xs ys = false) := eqRows_len hl
    clear hc hc'
    go_enter Try.func71, Try.ntmps71
    go_wp2
    go_ret
    exact ⟨ret_bool HE.out.symm, Below.refl _ _⟩

theorem same_any (v v' : Value) (xs ys : List (List Int)) (w : World) (h : IntRows w v xs) (h' : IntRows w v' ys) :
    Calls Try.prog 27 #[v, v'] w fun e w' => e = .returned (.bool (eqRowsB xs ys)) ∧ Below w.heap.size w w' := by
  have HE := hidIt (equalRows_any v v' xs ys w h h')
  clear h h'
  go_enter Try.func27, Try.ntmps27
  go_wp2_with fail
  refine HE.out.mono ?_
  rintro e w1 ⟨rfl, hb1⟩
  go_wp2
  go_ret
  exact ⟨rfl, hb1⟩

theorem awake_fill : fillS [1] [0, 1] = [[[2]]] := by decide +kernel
theorem awake_ok : (shB [1] && coB [0, 1]) = true := by decide +kernel

theorem newInts (w : World) (xs : List Int) (hn : xs.length ≤ 100) (hb : ∀ x ∈ xs, I64 x) (t : TypeId) : Ints (w.alloc (.cells (ints xs).toArray t)) (.slice (some ⟨w.heap.size, 0, none⟩) xs.length xs.length) xs := by
  refine ⟨⟨_, xs.length, by rw [ints_length], by rw [ints_length]; exact Nat.le_refl _, by rw [ints_length]; omega, by unfold maxLen; omega, .inr ⟨w.heap.size, 0, rfl, by simp, fun k x hx => ?_⟩⟩, hb⟩
  rw [Nat.zero_add, World.cell?_alloc_new]
  simpa using hx

set_option maxHeartbeats 1000000 in
theorem awake_any (w : World) : Calls Try.prog 24 #[] w fun e w' => e = .returned (.bool true) ∧ Below w.heap.size w w' := by
  have h1 : Ints (w.alloc (.cells #[.int .i64 1] 3)) (.slice (some ⟨w.heap.size, 0, none⟩) 1 1) [1] := newInts w [1] (by decide) (by intro x hx; simp at hx; subst hx; exact ⟨by decide, by decide⟩) 3
  have h2 : Ints ((w.alloc (.cells #[.int .i64 1] 3)).alloc (.cells #[.int .i64 0, .int .i64 1] 3)) (.slice (some ⟨w.heap.size + 1, 0, none⟩) 2 2) [0, 1] := by
    have := newInts (w.alloc (.cells #[.int .i64 1] 3)) [0, 1] (by decide) (by intro x hx; simp at hx; rcases hx with rfl | rfl <;> exact ⟨by decide, by decide⟩) 3
    simpa [ints] using this
  have h1' := h1.below ((Below.refl _ _).alloc (Nat.le_refl _) (.cells #[.int .i64 0, .int .i64 1] 3)) (Nat.le_refl _)
  have hF := fillingsAll_any _ _ _ _ _ h1' h2
  unfold FilPost at hF
  rw [awake_ok, if_pos rfl, if_pos rfl, awake_fill] at hF
  have HF := hidIt hF
  have HB0 : Hid (Below w.heap.size w ((w.alloc (.cells #[.int .i64 1] 3)).alloc (.cells #[.int .i64 0, .int .i64 1] 3))) := ((Below.refl _ _).alloc (Nat.le_refl _) _).alloc (by simp) _
  clear h1 h2 h1' hF
  go_enter Try.func24, Try.ntmps24
  go_wp2_with fail
  refine HF.out.mono ?_
  rintro e w1 ⟨ao, c, rfl, hR, hb⟩
  have HB : Hid (Below w.heap.size w w1) := HB0.out.trans (hb.mono HB0.out.size)
  obtain ⟨ao', cap', he, _, _, hc⟩ := hR.open
  obtain ⟨b, o, u, hao, hck, hu⟩ := hc 0 [[2]] rfl
  simp only [Value.slice.injEq] at he
  obtain ⟨rfl, _, rfl⟩ := he
  subst hao
  rw [Nat.add_zero] at hck
  have hblt := World.block_lt_of_cell? w1 _ hck
  have hs : IntRows ((w1.alloc (.cells #[.int .i64 2] 3)).alloc (.cells #[.slice (some ⟨w1.heap.size, 0, none⟩) 1 1] 22)) (.slice (some ⟨w1.heap.size + 1, 0, none⟩) 1 1) [[2]] := by
    have h3 : Ints (w1.alloc (.cells #[.int .i64 2] 3)) (.slice (some ⟨w1.heap.size, 0, none⟩) 1 1) [2] := newInts w1 [2] (by decide) (by intro x hx; simp at hx; subst hx; exact ⟨by decide, by decide⟩) 3
    have h4 := h3.below ((Below.refl _ _).alloc (Nat.le_refl _) (.cells #[.slice (some ⟨w1.heap.size, 0, none⟩) 1 1] 22)) (Nat.le_refl _)
    refine ⟨[.slice (some ⟨w1.heap.size, 0, none⟩) 1 1], ⟨_, 1, rfl, by simp, by simp, by unfold maxLen; omega, .inr ⟨w1.heap.size + 1, 0, rfl, by simp, fun k x hx => ?_⟩⟩, rfl, fun i y x hy hx => ?_⟩
    · match k, hx with
      | 0, hx =>
        simp at hx; subst hx
        simp
    · match i, hy, hx with
      | 0, hy, hx =>
        simp at hy hx; subst hy hx
        exact h4
  have HS := hidIt (same_any u _ [[2]] [[2]] _ (hu.below (((Below.refl _ _).alloc (Nat.le_refl _) (.cells #[.int .i64 2] 3)).alloc (by simp) (.cells #[.slice (some ⟨w1.heap.size, 0, none⟩) 1 1] 22)) (Nat.le_refl _)) hs)
  clear HF HB0 hR hc hu hs hb
  go_wp2_with fail
  refine HS.out.mono ?_
  rintro e w2 ⟨rfl, hb2⟩
  rw [show eqRowsB [[2]] [[2]] = true by decide]
  have HB2 : Hid (Below w.heap.size w w2) := (((HB.out.alloc HB.out.size _).alloc (Nat.le_trans HB.out.size (by simp)) _)).trans (hb2.mono (Nat.le_trans HB.out.size (by simp; omega)))
  clear HS HB hb2 hck hblt
  go_wp2
  go_ret
  exact ⟨rfl, HB2.out⟩
end Go.Proofs.Ytpblbolflnjjnaa
