/- the rows of the reference's P; the reference's P -/
import Derived.Test.YtlnbodpdgebflaaTf
namespace Go.Proofs.Ytlnbodpdgebflaa
open Go.RowKit

theorem lo_le_chk : ((List.range 17).all fun g => (List.range (nE g)).all fun x => (List.range (nE g)).all fun u => !(lom g x).testBit u || decide (u ≤ x)) = true := by decide +kernel
theorem lo_le {g u x : Nat} (hg : g < 17) (hu : u < nE g) (hx : x < nE g) (h : loB g u x = true) : u ≤ x := by
  have h1 := List.all_eq_true.1 (List.all_eq_true.1 (List.all_eq_true.1 lo_le_chk g (List.mem_range.2 hg)) x (List.mem_range.2 hx)) u (List.mem_range.2 hu)
  rw [← lo_bit hg hu hx, h] at h1
  simpa using h1
def vals (n : Nat) (G : Nat → Value) : List Value := (List.range n).map G
theorem vals_get {n j : Nat} (G : Nat → Value) (h : j < n) : (vals n G)[j]? = some (G j) := by simp [vals, h]
theorem run_make33 (n : Nat) (hn : n ≤ 1000) (W : World) : (Instr.makeSlice 33 (.int .i64 n) (.int .i64 n)).run Try.prog W = .ok (.slice (some ⟨W.heap.size, 0, none⟩) n n) (W.alloc (.cells (vals n fun _ => .slice none 0 0).toArray 24)) := by
  rw [run_make_row' (P := Try.prog) 33 24 (.slice none 0 0) 24 Try.underlying33 Try.info24 rfl .i64 .i64 n (by omega) (by omega) W]
  have e : madeCells #[Value.slice none 0 0] n = (vals n fun _ => .slice none 0 0).toArray := by
    apply Array.ext'
    rw [toList_madeCells_one]
    exact (List.eq_replicate_iff.2 ⟨by simp [vals], fun b hb => by obtain ⟨j, _, rfl⟩ := List.mem_map.1 hb; rfl⟩).symm
  rw [e]
/-- What stands in row j when it is done. -/
def AL (g u x j : Nat) : List Int := if loB g j x = true ∧ (j = u ∨ loB g u j = true) then dP g j x else []
/-- The rows: from m on they are done. -/
structure AllS (wr : World) (g u x ab n m : Nat) (G : Nat → Value) : Prop where
  blk : Blk 24 wr ab (vals n G).toArray
  done : ∀ j, m ≤ j → j ≤ x → ∃ a c, G j = .slice a (AL g u x j).length c ∧ Ints wr (G j) (AL g u x j)
  rest : ∀ j, j < m → G j = .slice none 0 0
  sl : ∀ j, ∃ a k c, G j = .slice a k c
theorem AllS.below {w w' : World} {g u x ab n m : Nat} {G : Nat → Value} (h : AllS w g u x ab n m G) (hb : Below w.heap.size w w') : AllS w' g u x ab n m G :=
  ⟨h.blk.below hb, fun j h1 h2 => let ⟨a, c, e, hi⟩ := h.done j h1 h2; ⟨a, c, e, hi.below hb (Nat.le_refl _)⟩, h.rest, h.sl⟩
theorem AllS.cell {w : World} {g u x ab n m : Nat} {G : Nat → Value} (h : AllS w g u x ab n m G) {j : Nat} (hj : j < n) : w.cell? ⟨ab, j, none⟩ = some (G j) := by
  rw [h.blk.cell, List.getElem?_toArray, vals_get G hj]
theorem AllS.fr {w : World} {g u x ab n m : Nat} {G : Nat → Value} (h : AllS w g u x ab n m G) (j : Nat) : w.frozen? ⟨ab, j, none⟩ = false := h.blk.fr j
theorem Ints.setA {w : World} {ab n : Nat} {G : Nat → Value} {v : Value} {l : List Int} (h : Ints w v l) (hb : Blk 24 w ab (vals n G).toArray) (hs : ∀ j, ∃ a k c, G j = .slice a k c) (i : Nat) (u : Value) : Ints (w.setCell ⟨ab, i, none⟩ u) v l := by
  obtain ⟨⟨ao, cap, rfl, h1, h2, hm, h3⟩, h4⟩ := h
  refine ⟨⟨ao, cap, rfl, h1, h2, hm, ?_⟩, h4⟩
  rcases h3 with h3 | ⟨b, o, rfl, hlt, hc⟩
  · exact .inl h3
  · refine .inr ⟨b, o, rfl, by simpa [World.setCell] using hlt, fun k y hy => ?_⟩
    have hcell := hc k y hy
    have hne : b ≠ ab := by
      rintro rfl
      rw [hb.cell, List.getElem?_toArray] at hcell
      obtain ⟨j, _, e⟩ := List.mem_map.1 (List.mem_of_getElem? hcell)
      obtain ⟨a', k', c', e'⟩ := hs j
      obtain ⟨z, _, e2⟩ := List.mem_map.1 (List.mem_of_getElem? hy)
      rw [e', ← e2] at e
      cases e
    exact (World.cell?_setCell_other _ _ _ _ (by intro q; exact hne (congrArg Addr.block q).symm)).trans hcell
theorem AllS.step {w : World} {g u x ab n y : Nat} {G : Nat → Value} (h : AllS w g u x ab n (y + 1) G) {a : Option Addr} {c : Nat} (hi : Ints w (.slice a (AL g u x y).length c) (AL g u x y)) :
    AllS (w.setCell ⟨ab, y, none⟩ (.slice a (AL g u x y).length c)) g u x ab n y (fun j => if j = y then .slice a (AL g u x y).length c else G j) := by
  refine ⟨?_, fun j h1 h2 => ?_, fun j hj => ?_, fun j => ?_⟩
  · have := h.blk.set y (.slice a (AL g u x y).length c)
    have e : (vals n G).toArray.setIfInBounds y (.slice a (AL g u x y).length c) = (vals n fun j => if j = y then .slice a (AL g u x y).length c else G j).toArray := by
      apply Array.ext'
      simp only [Array.toList_setIfInBounds]
      apply List.ext_getElem?
      intro i
      by_cases hi : i < n
      · rw [vals_get _ hi, List.getElem?_set]
        by_cases e : y = i
        · subst e; simp [vals, hi]
        · rw [if_neg e, vals_get _ hi, if_neg (Ne.symm e)]
      · rw [List.getElem?_eq_none (by simp [vals]; omega), List.getElem?_eq_none (by simp [vals]; omega)]
    rw [e] at this
    exact this
  · by_cases e : j = y
    · subst e; simp only [if_pos]; exact ⟨a, c, rfl, hi.setA h.blk h.sl _ _⟩
    · simp only [if_neg e]
      obtain ⟨a', c', e', hi'⟩ := h.done j (by omega) h2
      exact ⟨a', c', e', hi'.setA h.blk h.sl _ _⟩
  · simp only [if_neg (show ¬ j = y by omega)]; exact h.rest j (by omega)
  · by_cases e : j = y
    · subst e; simp only [if_pos]; exact ⟨a, _, c, rfl⟩
    · simp only [if_neg e]; exact h.sl j
theorem AllS.skip {w : World} {g u x ab n y : Nat} {G : Nat → Value} (h : AllS w g u x ab n (y + 1) G) (he : AL g u x y = []) : AllS w g u x ab n y G := by
  refine ⟨h.blk, fun j h1 h2 => ?_, fun j hj => h.rest j (by omega), h.sl⟩
  by_cases e : j = y
  · subst e
    rw [he, h.rest j (Nat.lt_succ_self _)]
    exact ⟨none, 0, rfl, ints_none _⟩
  · exact h.done j (by omega) h2
theorem AllS.new (w : World) (g u x n : Nat) : AllS (w.alloc (.cells (vals n fun _ => .slice none 0 0).toArray 24)) g u x w.heap.size n (x + 1) (fun _ => .slice none 0 0) :=
  ⟨Blk.new _ _ _, fun j h1 h2 => absurd h1 (by omega), fun _ _ => rfl, fun _ => ⟨none, 0, 0, rfl⟩⟩
theorem AL_yes {g u x j : Nat} (h1 : loB g j x = true) (h2 : j = u ∨ loB g u j = true) : AL g u x j = dP g j x := if_pos ⟨h1, h2⟩
theorem AL_no {g u x j : Nat} (h : ¬ (loB g j x = true ∧ (j = u ∨ loB g u j = true))) : AL g u x j = [] := if_neg h
end Go.Proofs.Ytlnbodpdgebflaa

namespace Go.Proofs.Ytlnbodpdgebflaa
open Go.RowKit

set_option maxRecDepth 20000 in
set_option maxHeartbeats 4000000 in
theorem RefP_any (g b0 c0 b1 c1 b2 c2 u x : Nat) (hg : g < 17) (h3 : g ≠ 3) (w : World) (h : RP w g b0 b1 b2) (hu : u < nE g) (hx : x < nE g) :
    Calls Try.prog 55 #[rV g b0 c0 b1 c1 b2 c2, .int .i64 u, .int .i64 x] w fun e w' => ∃ a c, e = .returned (.slice a (dP g u x).length c) ∧ Ints w' (.slice a (dP g u x).length c) (dP g u x) ∧ Below w.heap.size w w' := by
  have HR0 := Lib.hid (h.box c0 c1 c2)
  have HB0 : Hid (Below w.heap.size w (w.alloc (.cells #[.slice (some ⟨b0, 0, none⟩) (nE g) c0, .slice (some ⟨b1, 0, none⟩) (nE g) c1, .slice (some ⟨b2, 0, none⟩) (nE g) c2] 39))) := Lib.hid (a1 _ _)
  have HLow := Lib.hid (fun j (hj : j < nE g) W hW => Lower_any g b0 c0 b1 c1 b2 c2 j hg W hW hj)
  have HLoB := Lib.hid (fun j (hj : j < nE g) i (hi : i < nE g) => lwF_lo hg _ j rfl hj i hi)
  have HLen := Lib.hid (fun j (hj : j < nE g) W hW => Len_any g b0 c0 b1 c1 b2 c2 j hg W hW hj)
  have HRR := Lib.hid (fun y z (hy : y < nE g) (hz : z < nE g) W hW => RR_any g hg h3 b0 c0 b1 c1 b2 c2 13 z y W (by have := (tx hg hz).2.1; omega) hz hy hW)
  have h48 := nE_le hg h3
  clear h
  unfold rV at HLow HLen HRR ⊢
  go_enter Try.func55, Try.ntmps55
  go_wp2_with fail
  generalize w.alloc (.cells #[.slice (some ⟨b0, 0, none⟩) (nE g) c0, .slice (some ⟨b1, 0, none⟩) (nE g) c1, .slice (some ⟨b2, 0, none⟩) (nE g) c2] 39) = wz at *
  refine (HLow.out x hx _ HR0.out.rp).mono ?_
  rintro e w1 ⟨lb, lc, rfl, hO, hb⟩
  have HR1 := Lib.hid (HR0.out.below hb)
  have HB1 : Hid (Below w.heap.size w w1) := Lib.hid (HB0.out.trans (hb.mono HB0.out.size))
  have HL1 : Hid (∀ j, j < nE g → w1.cell? ⟨lb, j, none⟩ = some (.bool (loB g j x))) := Lib.hid (fun j hj => by rw [hO.cell hj, HLoB.out x hx j hj])
  have hoc := hO.capOk
  clear hb hO HR0 HB0
  have l0 := HL1.out u hu
  cases hlo : loB g u x with
  | false =>
    have hne : u ≠ x := fun e => by rw [e, (ord_one hg hx).2.2] at hlo; cases hlo
    have HE := Lib.hid (dP_nil hg h3 hu hx hne hlo)
    rw [hlo] at l0
    clear hlo hne
    go_wp2_with fail
    go_ret
    refine ⟨none, 0, ?_, ?_, HB1.out⟩
    · rw [HE.out]; rfl
    · rw [HE.out]; exact ints_none _
  | true =>
    have hux := lo_le hg hu hx hlo
    rw [hlo] at l0
    have hmk := run_make33 (nE g) (by omega)
    have t0 := HR1.out.at.1
    go_wp2_with fail
    have HA0 := Lib.hid (AllS.new w1 g u x (nE g))
    have HBA : Hid (Below w1.heap.size w1 (w1.alloc (.cells (vals (nE g) fun _ => .slice none 0 0).toArray 24))) := Lib.hid (a1 _ _)
    clear hmk t0 l0
    go_loopw [9] (fun i wr => ∃ (m : Nat) (G : Nat → Value), u ≤ m ∧ m ≤ x + 1 ∧ i = .int .i64 ((m : Int) - 1) ∧ AllS wr g u x w1.heap.size (nE g) m G ∧ Below w1.heap.size w1 wr) (fun i _ => (intOf i + 1).toNat)
    case atStart => exact ⟨x + 1, _, by omega, Nat.le_refl _, congrArg (Value.int .i64) (by omega), HA0.out, HBA.out⟩
    case round =>
      clear HA0 HBA
      obtain ⟨m, G, hum, hmx, rfl, hA, hb⟩ := hrel
      have HA := Lib.hid hA
      have HB := Lib.hid hb
      clear hA hb
      rcases Nat.eq_or_lt_of_le hum with hm | hm
      · subst hm
        obtain ⟨a, c, e, hi⟩ := HA.out.done u (Nat.le_refl _) hux
        have hc := HA.out.cell hu
        rw [e] at hc hi
        rw [AL_yes hlo (.inl rfl)] at hc hi
        have HI := Lib.hid hi
        clear e hi
        go_wp2_with fail
        go_ret
        exact ⟨a, c, rfl, HI.out, HB1.out.trans (HB.out.mono HB1.out.size)⟩
      · obtain ⟨y, rfl⟩ : ∃ y, m = y + 1 := ⟨m - 1, by omega⟩
        have hki : ((y + 1 : Nat) : Int) - 1 = (y : Nat) := by omega
        rw [hki]
        have hy : y < nE g := by omega
        have hyx : y ≤ x := by omega
        have huy : u ≤ y := by omega
        have HRr := Lib.hid (HR1.out.below HB.out)
        have l1 := ck (HL1.out y hy) HB.out
        clear hum hmx hm hki
        by_cases e1 : y = x
        · have hq : ((y : Int) == (x : Int)) = true := beq_iff_eq.2 (by omega)
          have hAL : AL g u x y = [1] := by rw [AL_yes (by rw [e1]; exact (ord_one hg hx).2.2) (.inr (by rw [e1]; exact hlo))]; exact dP_one hg h3 hy hx e1
          have HA1 := Lib.hid (HA.out.below (a1 wr (.cells #[.int .i64 1] 3)))
          have t1 := HA1.out.cell hy
          have t2 := HA1.out.fr y
          have hX := HA1.out.step (a := some ⟨wr.heap.size, 0, none⟩) (c := 1) (by rw [hAL]; exact ints_one wr)
          rw [hAL] at hX
          have HX := Lib.hid hX
          have HBX := Lib.hid (below_cell (a := ⟨w1.heap.size, y, none⟩) (HB.out.alloc HB.out.size (.cells #[.int .i64 1] 3)) (Nat.le_refl _) (.slice (some ⟨wr.heap.size, 0, none⟩) 1 1))
          clear hX hAL e1 l1
          go_wp2_with fail
          go_roundw
          case rel => exact ⟨y, _, huy, by omega, by go_num, HX.out, HBX.out⟩
          case measure => (first | (simp [intOf]; done) | (simp [intOf]; omega))
        · have hq : ((y : Int) == (x : Int)) = false := beq_eq_false_iff_ne.2 (by omega)
          cases hb1 : loB g y x with
          | false =>
            have HX := Lib.hid (HA.out.skip (AL_no (fun q => by rw [hb1] at q; exact absurd q.1 (by simp))))
            rw [hb1] at l1
            clear hb1 e1
            go_wp2_with fail
            go_roundw
            case rel => exact ⟨y, _, huy, by omega, by go_num, HX.out, HB.out⟩
            case measure => (first | (simp [intOf]; done) | (simp [intOf]; omega))
          | true =>
            rw [hb1] at l1
            have hltl : ln g y < ln g x := ((ord_two hg hy hx).2.2 hb1).2.resolve_right e1
            have hlx := (tx hg hx).2.1
            by_cases e2 : y = u
            · have hn : ((y : Int) == (u : Int)) = true := beq_iff_eq.2 (by omega)
              have hn2 : ((y : Int) != (u : Int)) = false := by simp [e2]
              have HCo : Hid (y = u ∨ loB g u y = true) := Lib.hid (.inl e2)
              have HA2 := HA
              have HB2 := HB
              have HR2 := HRr
              clear e2 HA HB HRr
              have HSt := Lib.hid (dP_step hg h3 hy hx e1 hb1)
              have HSum := Lib.hid (sumR_ok hg h3 hy hx)
              have HEnd := Lib.hid (sumR_end hg hy hx)
              have HB1' := Lib.hid hb1
              clear hb1 e1
              go_wp2_with fail
              go_loopw [10, 11] (fun v i wi => ∃ (k : Nat) (a : Option Addr) (c : Nat), k ≤ x - y ∧ i = .int .i64 ((y + 1 + k : Nat) : Int) ∧ v = .slice a (sumRK g y x k).length c ∧ Ints wi v (sumRK g y x k) ∧ Below wr.heap.size wr wi) (fun _ i _ => x + 1 - (intOf i).toNat)
              case atStart => exact ⟨0, none, 0, Nat.zero_le _, rfl, rfl, ints_none _, Below.refl _ _⟩
              case round =>
                rename World => wi
                obtain ⟨k, a, c, hk, rfl, rfl, hI, hbi⟩ := hrel
                have HI := Lib.hid hI
                have HBi := Lib.hid hbi
                clear hI hbi
                have HAi := Lib.hid (HA2.out.below HBi.out)
                have HRi := Lib.hid (HR2.out.below HBi.out)
                have HBw : Hid (Below w1.heap.size w1 wi) := Lib.hid (HB2.out.trans (HBi.out.mono HB2.out.size))
                by_cases hlt : y + 1 + k ≤ x
                · obtain ⟨z, hz⟩ : ∃ z, z = y + 1 + k := ⟨_, rfl⟩
                  have hzx : z < nE g := by omega
                  have hyz : y + 1 ≤ z := by omega
                  have HZ := Lib.hid hz
                  have HYes := Lib.hid (fun h => sumRK_yes (g := g) (u := y) (x := x) (k := k) h)
                  have HNo := Lib.hid (fun h => sumRK_no (g := g) (u := y) (x := x) (k := k) h)
                  have hs17 := (HSum.out k hk).1
                  have HSB := Lib.hid (HSum.out k hk).2
                  have hk47 : k * 832 ≤ 100000 := by
                    have : k * 832 ≤ 48 * 832 := Nat.mul_le_mul_right _ (by omega)
                    omega
                  rw [← hz] at HYes HNo hlt ⊢
                  clear hz HSum HSt HEnd
                  have l3 := ck (HL1.out z hzx) HBw.out
                  cases h1 : loB g z x with
                  | false =>
                    have hE := HNo.out (by rw [h1]; simp)
                    have HX : Hid (Ints wi (.slice a (sumRK g y x (k + 1)).length c) (sumRK g y x (k + 1))) := Lib.hid (by rw [hE]; exact HI.out)
                    have HXe := Lib.hid hE
                    rw [h1] at l3
                    clear hE h1
                    go_wp2_with fail
                    go_roundw
                    case rel => exact ⟨k + 1, a, c, by have := HZ.out; omega, by rw [HZ.out]; go_num, by rw [HXe.out], by rw [← HXe.out]; exact HX.out, HBi.out⟩
                    case measure => (first | (simp [intOf]; done) | (simp [intOf]; omega))
                  | true =>
                    rw [h1] at l3
                    have t0 := HRi.out.at.1
                    have t1 := HRi.out.at.2.1
                    have t2 := HRi.out.at.2.2
                    go_wp2_with fail
                    clear t0 t1 t2
                    refine (HLow.out z hzx _ HRi.out.rp).mono ?_
                    rintro e w5 ⟨lb5, lc5, rfl, hO5, hb5⟩
                    have l5 := hO5.cell hy
                    rw [HLoB.out z hzx y hy] at l5
                    have hoc5 := hO5.capOk
                    have HI5 := Lib.hid (HI.out.below hb5 (Nat.le_refl _))
                    have HB5 : Hid (Below wr.heap.size wr w5) := Lib.hid (HBi.out.trans (hb5.mono HBi.out.size))
                    have HR5 := Lib.hid (HRi.out.below hb5)
                    have HA5 := Lib.hid (HAi.out.below hb5)
                    clear hO5 hb5 HI HBi HRi HAi HBw l3
                    cases h2 : loB g y z with
                    | false =>
                      have hE := HNo.out (by rw [h2]; simp)
                      have HX : Hid (Ints w5 (.slice a (sumRK g y x (k + 1)).length c) (sumRK g y x (k + 1))) := Lib.hid (by rw [hE]; exact HI5.out)
                      have HXe := Lib.hid hE
                      rw [h2] at l5
                      clear hE h1 h2
                      go_wp2_with fail
                      go_roundw
                      case rel => exact ⟨k + 1, a, c, by have := HZ.out; omega, by rw [HZ.out]; go_num, by rw [HXe.out], by rw [← HXe.out]; exact HX.out, HB5.out⟩
                      case measure => (first | (simp [intOf]; done) | (simp [intOf]; omega))
                    | true =>
                      rw [h2] at l5
                      have HE := Lib.hid (HYes.out (by rw [h1, h2]; rfl))
                      have hALz : AL g u x z = dP g z x := AL_yes h1 (HCo.out.elim (fun q => .inr (by rw [← q]; exact h2)) (fun q => .inr (lo_trans hg hu hy hzx q h2)))
                      obtain ⟨za, zc, hz1, hz2⟩ := HA5.out.done z hyz hlt
                      have hz3 := HA5.out.cell hzx
                      rw [hz1] at hz2 hz3
                      rw [hALz] at hz2 hz3
                      have HP := Lib.hid hz2
                      have HPc := Lib.hid hz3
                      have t0 := HR5.out.at.1
                      have t1 := HR5.out.at.2.1
                      have t2 := HR5.out.at.2.2
                      have hR13 := dR_len g y z
                      have hP4 := dP_len g z x
                      have HbR := Lib.hid (dR_bd hg h3 hy hzx)
                      have HbP := Lib.hid (dP_bd hg h3 hzx hx)
                      clear h1 h2 HYes HNo hz1 hz2 hz3 hALz
                      go_wp2_with fail
                      refine (HRR.out y z hy hzx _ HR5.out.rp).mono ?_
                      rintro e w6 ⟨ra, rc, rfl, hi6, hb6⟩
                      have HI6 := Lib.hid (HI5.out.below hb6 (Nat.le_refl _))
                      have HB6 : Hid (Below wr.heap.size wr w6) := Lib.hid (HB5.out.trans (hb6.mono HB5.out.size))
                      have HP6 := Lib.hid (HP.out.below hb6 (Nat.le_refl _))
                      have HPc6 := Lib.hid (ck HPc.out hb6)
                      obtain ⟨_, _, e', hrc, _, hrx⟩ := hi6.open
                      cases e'
                      have HRx := Lib.hid hrx
                      clear hi6 hb6 hrx HI5 HB5 HR5 HA5 HP HPc l5 t0 t1 t2
                      have HIn := Lib.hid (fun (r : List Int) (hr : r.length ≤ 13) (br : Bnd 8 r) => inR_ok hP4 HbP.out r 0 (k * 832) (sumRK g y x k) (by omega) br hs17 HSB.out)
                      have HSn := Lib.hid (fun (r : List Int) c => inR_snoc (dP g z x) c r 0 (sumRK g y x k))
                      generalize sumRK g y x k = S0 at *
                      generalize hPz : dP g z x = PZ at *
                      generalize hRz : dR g y z = RZ at *
                      have HRl := Lib.hid (rfl : RZ.length = RZ.length)
                      clear hPz hRz
                      go_wp2_with fail
                      go_loopw [10, 85] (fun v j wc => ∃ (t : Nat) (a : Option Addr) (c : Nat), t ≤ RZ.length ∧ j = .int .i64 (t : Nat) ∧ v = .slice a (inR PZ (RZ.take t) 0 S0).length c ∧ Ints wc v (inR PZ (RZ.take t) 0 S0) ∧ Below w6.heap.size w6 wc) (fun _ j _ => RZ.length - (intOf j).toNat)
                      case atStart => exact ⟨0, a, c, Nat.zero_le _, rfl, rfl, HI6.out, Below.refl _ _⟩
                      case round =>
                        rename World => wc
                        clear HI6
                        obtain ⟨t, a, c, ht, rfl, rfl, hI, hbc⟩ := hrel
                        have HI := Lib.hid hI
                        have HBc := Lib.hid hbc
                        clear hI hbc
                        by_cases htl : t < RZ.length
                        · obtain ⟨rb, ro, rfl, r1⟩ := HRx.out t htl
                          have r1 := ck r1 HBc.out
                          have p1 := ck HPc6.out HBc.out
                          have HPx := Lib.hid (HP6.out.below HBc.out (Nat.le_refl _))
                          have hin := HIn.out (RZ.take t) (by rw [List.length_take]; omega) (fun c hc => HbR.out c (List.mem_of_mem_take hc))
                          have htk : (RZ.take t).length = t := by rw [List.length_take]; omega
                          rw [htk] at hin
                          have hin1 := hin.1
                          have HIn2 := Lib.hid hin.2
                          have hrb := HbR.out.get t
                          have HNx : Hid (addL (inR PZ (RZ.take t) 0 S0) PZ (RZ.getD t 0) t = inR PZ (RZ.take (t + 1)) 0 S0) := Lib.hid (by
                            rw [take_snoc RZ t htl, HSn.out, htk, Nat.zero_add])
                          clear hin htk
                          have HAd := Lib.hid (fun v v' W h h' => add_any v v' (inR PZ (RZ.take t) 0 S0) PZ W h h' (by omega) (by omega) (HIn2.out.mono (by omega)) (HbP.out.mono (by omega)) (RZ.getD t 0) (by omega) t (by omega))
                          rw [HNx.out] at HAd
                          generalize inR PZ (RZ.take t) 0 S0 = S1 at *
                          generalize hS2 : inR PZ (RZ.take (t + 1)) 0 S0 = S2 at *
                          have HS2 := Lib.hid hS2
                          clear hS2
                          generalize RZ.getD t 0 = rt_ at *
                          clear HIn HSn
                          go_wp2_with fail
                          refine (HAd.out _ _ _ HI.out HPx.out).mono ?_
                          rintro e w7 ⟨a7, c7, rfl, hi7, hb7⟩
                          have HX := Lib.hid hi7
                          have HBX := Lib.hid (HBc.out.trans (hb7.mono HBc.out.size))
                          clear hi7 hb7 HAd
                          go_wp2_with fail
                          go_roundw
                          case rel => exact ⟨t + 1, a7, c7, by omega, by go_num, by rw [HS2.out], by rw [HS2.out]; exact HX.out, HBX.out⟩
                          case measure => (first | (simp [intOf]; done) | (simp [intOf]; omega))
                        · have htt : t = RZ.length := by omega
                          have hE2 : inR PZ (RZ.take t) 0 S0 = sumRK g y x (k + 1) := by rw [htt, List.take_length, HE.out]
                          have HX : Hid (Ints wc (.slice a (sumRK g y x (k + 1)).length c) (sumRK g y x (k + 1))) := Lib.hid (by rw [← hE2]; exact HI.out)
                          have HXe := Lib.hid hE2
                          have HBX : Hid (Below wr.heap.size wr wc) := Lib.hid (HB6.out.trans (HBc.out.mono HB6.out.size))
                          clear hE2 htt HI HIn HSn
                          go_wp2_with fail
                          go_roundw
                          case rel => exact ⟨k + 1, a, c, by have := HZ.out; omega, by rw [HZ.out]; go_num, by rw [HXe.out], by rw [HXe.out]; exact HX.out, HBX.out⟩
                          case measure => (first | (simp [intOf]; done) | (simp [intOf]; omega))
                · have hkk : k = x - y := by omega
                  have hSe : sumRK g y x k = pSumR g y x := by rw [hkk, HEnd.out]
                  have hs17 : (pSumR g y x).length ≤ 17 := by rw [← hSe]; exact (HSum.out k hk).1
                  have HSB : Hid (Bnd 100000 (pSumR g y x)) := Lib.hid (by
                    rw [← hSe]
                    refine (HSum.out k hk).2.mono ?_
                    have : k * 832 ≤ 48 * 832 := Nat.mul_le_mul_right _ (by omega)
                    omega)
                  rw [hSe] at HI ⊢
                  have hP := HSt.out.2.2
                  obtain ⟨mm, hmm⟩ : ∃ mm, mm = min ((ln g x - ln g y + 1) / 2) (pSumR g y x).length := ⟨_, rfl⟩
                  rw [← hmm] at hP
                  have HP := Lib.hid hP
                  have HLx := Lib.hid (fun W hW => HLen.out x hx W hW)
                  have HLy := Lib.hid (fun W hW => HLen.out y hy W hW)
                  clear hkk hSe hP HSum HSt HEnd
                  have hlx' := hlx
                  have hltl' := hltl
                  clear hlx hltl HLen
                  generalize ln g x = q at *
                  generalize ln g y = p at *
                  generalize hSR : pSumR g y x = SR at *
                  clear hSR
                  obtain ⟨d, hd⟩ : ∃ d, (q - p + 1) / 2 = d + 1 := ⟨(q - p + 1) / 2 - 1, by omega⟩
                  have hwm : min ((d : Int) + 1) ((SR.length : Nat) : Int) = (mm : Nat) := by omega
                  have hmle : mm ≤ SR.length := by omega
                  have hw1 : IntKind.i64.wrap ((q : Int) - (p : Int)) = (q : Int) - (p : Int) := IntWalk.i64_in _ (by omega)
                  have hw2 : IntKind.i64.wrap ((q : Int) - (p : Int) - 1) = (q : Int) - (p : Int) - 1 := IntWalk.i64_in _ (by omega)
                  have hw3 : Int.tdiv ((q : Int) - (p : Int) - 1) 2 = (d : Nat) := by rw [Int.tdiv_eq_ediv_of_nonneg (by omega)]; omega
                  have hw4 : IntKind.i64.wrap (d : Int) = (d : Nat) := IntWalk.i64_in _ (by omega)
                  have hd12 : d ≤ 12 := by omega
                  have HI' := HI
                  obtain ⟨_, _, e', hsc, _, _⟩ := HI.out.open
                  cases e'
                  clear hmm hd
                  go_wp2_with fail
                  refine wp_region_held_drew (S := fun W => RB W w.heap.size g b0 c0 b1 c1 b2 c2) (by kernel_rfl) (HRi.out.below (below_drew (Below.refl _ _))) (fun hS0 => ?_)
                  have hBd : Below wi.heap.size wi wi.drew := below_drew (Below.refl _ _)
                  refine tk0 (v := (.agg #[.slice (some ⟨b0, 0, none⟩) (nE g) c0, .slice (some ⟨b1, 0, none⟩) (nE g) c1, .slice (some ⟨b2, 0, none⟩) (nE g) c2])) (by kernel_rfl) (by kernel_rfl) (by kernel_rfl) (fun _ _ _ h => h) (Or.inl ⟨by kernel_rfl, fun w' hSw => by (have h0 := hSw.at.1; have h1 := hSw.at.2.1; have h2 := hSw.at.2.2; go_simp)⟩) hS0 ?_
                  try simp only [Act.put, List.setIfInBounds_toArray, List.set_cons_zero, List.set_cons_succ]
                  refine tk1 (v := (.int .i64 (x : Nat))) (by kernel_rfl) (by kernel_rfl) (by kernel_rfl) (fun _ _ _ h => h) (Or.inl ⟨by kernel_rfl, fun w' hSw => by go_simp⟩) hS0 ?_
                  try simp only [Act.put, List.setIfInBounds_toArray, List.set_cons_zero, List.set_cons_succ]
                  refine tk3 (v := (.agg #[.slice (some ⟨b0, 0, none⟩) (nE g) c0, .slice (some ⟨b1, 0, none⟩) (nE g) c1, .slice (some ⟨b2, 0, none⟩) (nE g) c2])) (by kernel_rfl) (by kernel_rfl) (by kernel_rfl) (fun _ _ _ h => h) (Or.inl ⟨by kernel_rfl, fun w' hSw => by (have h0 := hSw.at.1; have h1 := hSw.at.2.1; have h2 := hSw.at.2.2; go_simp)⟩) hS0 ?_
                  try simp only [Act.put, List.setIfInBounds_toArray, List.set_cons_zero, List.set_cons_succ]
                  refine tk4 (v := (.int .i64 (y : Nat))) (by kernel_rfl) (by kernel_rfl) (by kernel_rfl) (fun _ _ _ h => h) (Or.inl ⟨by kernel_rfl, fun w' hSw => by go_simp⟩) hS0 ?_
                  try simp only [Act.put, List.setIfInBounds_toArray, List.set_cons_zero, List.set_cons_succ]
                  refine wpAnyH_ready (rs := [2]) (by kernel_rfl) (by simp) (AllReadyH.cons rfl (fun K hK => ?_) AllReadyH.nil)
                  rw [if_pos (by kernel_rfl)]
                  go_simp
                  refine (HLx.out _ hS0.rp).mono ?_
                  rintro e wa ⟨rfl, hba⟩
                  have hSa := hS0.below hba
                  refine hK.out _ _ hSa fun _ => ?_
                  clear hK
                  refine wpAnyH_ready (rs := [5]) (by kernel_rfl) (by simp) (AllReadyH.cons rfl (fun K hK => ?_) AllReadyH.nil)
                  rw [if_pos (by kernel_rfl)]
                  go_simp
                  refine (HLy.out _ hSa.rp).mono ?_
                  rintro e wb ⟨rfl, hbb⟩
                  have hSb := hSa.below hbb
                  refine hK.out _ _ hSb fun _ => ?_
                  clear hK
                  refine tk6 (v := (.int .i64 ((q : Int) - (p : Int)))) (by kernel_rfl) (by kernel_rfl) (by kernel_rfl) (fun _ _ _ h => h) (Or.inl ⟨by kernel_rfl, fun w' hSw => by (first | (go_simp; done) | (go_simp; simp [hw1]; done))⟩) hSb ?_
                  try simp only [Act.put, List.setIfInBounds_toArray, List.set_cons_zero, List.set_cons_succ]
                  refine tk7 (v := (.int .i64 ((q : Int) - (p : Int) - 1))) (by kernel_rfl) (by kernel_rfl) (by kernel_rfl) (fun _ _ _ h => h) (Or.inl ⟨by kernel_rfl, fun w' hSw => by (first | (go_simp; done) | (go_simp; simp [hw2]; done))⟩) hSb ?_
                  try simp only [Act.put, List.setIfInBounds_toArray, List.set_cons_zero, List.set_cons_succ]
                  refine tk8 (v := (.int .i64 (d : Nat))) (by kernel_rfl) (by kernel_rfl) (by kernel_rfl) (fun _ _ _ h => h) (Or.inl ⟨by kernel_rfl, fun w' hSw => by (first | (go_simp; done) | (go_simp; simp [hw3, hw4]; done))⟩) hSb ?_
                  try simp only [Act.put, List.setIfInBounds_toArray, List.set_cons_zero, List.set_cons_succ]
                  refine tk9 (v := (.int .i64 (d : Nat))) (by kernel_rfl) (by kernel_rfl) (by kernel_rfl) (fun _ _ _ h => h) (Or.inl ⟨by kernel_rfl, fun w' hSw => by go_simp⟩) hSb ?_
                  try simp only [Act.put, List.setIfInBounds_toArray, List.set_cons_zero, List.set_cons_succ]
                  refine wpAnyH_done (by kernel_rfl) ?_ _
                  have hBb : Below wi.heap.size wi wb := hBd.trans ((hba.mono hBd.size).trans (hbb.mono (Nat.le_trans hBd.size hba.size)))
                  have HBb := Lib.hid (HBw.out.trans (hBb.mono HBw.out.size))
                  have HAb := Lib.hid (HAi.out.below hBb)
                  have HIb := Lib.hid (HI.out.below hBb (Nat.le_refl _))
                  clear hS0 hSa hSb hBd hba hbb hBb HI HI' HAi HBi HBw HRi HLx HLy hw1 hw2 hw3 hw4
                  have HT := Lib.hid (trimmed_any _ _ _ (HIb.out.take hmle))
                  have hTl : (trL (SR.take mm)).length ≤ 17 := Nat.le_trans (trL_le _) (by rw [List.length_take]; omega)
                  have HTb : Hid (Bnd 1000000 (trL (SR.take mm))) := Lib.hid ((Bnd.trim (fun c hc => HSB.out c (List.mem_of_mem_take hc))).mono (by omega))
                  have HAd : Hid (∀ v W, Ints W v (trL (SR.take mm)) → Calls Try.prog 88 #[.slice none 0 0, v, .int .i64 (-1), .int .i64 0] W fun e w' => ∃ a c, e = .returned (.slice a (addL [] (trL (SR.take mm)) (-1) 0).length c) ∧ Ints w' (.slice a (addL [] (trL (SR.take mm)) (-1) 0).length c) (addL [] (trL (SR.take mm)) (-1) 0) ∧ Below W.heap.size W w') :=
                    Lib.hid (fun v W h => add_any _ v [] _ W (ints_none W) h (by simp) (by omega) (by intro c hc; simp at hc) HTb.out (-1) (by omega) 0 (by omega))
                  have hAL : AL g u x y = dP g y x := AL_yes HB1'.out HCo.out
                  rw [← HP.out, ← hAL] at HAd
                  clear hAL HP HTb
                  generalize trL (SR.take mm) = TT at *
                  generalize SR.length = sl at *
                  rcases Nat.lt_trichotomy (d + 1) sl with hc | hc | hc
                  · obtain rfl : mm = d + 1 := by omega
                    clear hwm
                    go_wp2_with fail
                    refine HT.out.mono ?_
                    rintro e w7 ⟨a7, c7, rfl, hi7, rfl⟩
                    have HI7 := Lib.hid hi7
                    clear hi7 HT
                    go_wp2_with fail
                    refine (HAd.out _ _ HI7.out).mono ?_
                    rintro e w8 ⟨a8, c8, rfl, hi8, hb8⟩
                    have HA8 := Lib.hid (HAb.out.below hb8)
                    have HB8 : Hid (Below w1.heap.size w1 w8) := Lib.hid (HBb.out.trans (hb8.mono HBb.out.size))
                    have HX := Lib.hid (HA8.out.step hi8)
                    have t1 := HA8.out.cell hy
                    have t2 := HA8.out.fr y
                    have HBX := Lib.hid (below_cell (a := ⟨w1.heap.size, y, none⟩) HB8.out (Nat.le_refl _) (.slice a8 (AL g u x y).length c8))
                    clear hi8 hb8 HAd HI7 HAb HIb
                    go_wp2_with fail
                    go_roundw
                    case rel => exact ⟨y, _, huy, by omega, by go_num, HX.out, HBX.out⟩
                    case measure => (first | (simp [intOf]; done) | (simp [intOf]; omega))
                  · subst hc
                    obtain rfl : mm = d + 1 := by omega
                    clear hwm
                    go_wp2_with fail
                    refine HT.out.mono ?_
                    rintro e w7 ⟨a7, c7, rfl, hi7, rfl⟩
                    have HI7 := Lib.hid hi7
                    clear hi7 HT
                    go_wp2_with fail
                    refine (HAd.out _ _ HI7.out).mono ?_
                    rintro e w8 ⟨a8, c8, rfl, hi8, hb8⟩
                    have HA8 := Lib.hid (HAb.out.below hb8)
                    have HB8 : Hid (Below w1.heap.size w1 w8) := Lib.hid (HBb.out.trans (hb8.mono HBb.out.size))
                    have HX := Lib.hid (HA8.out.step hi8)
                    have t1 := HA8.out.cell hy
                    have t2 := HA8.out.fr y
                    have HBX := Lib.hid (below_cell (a := ⟨w1.heap.size, y, none⟩) HB8.out (Nat.le_refl _) (.slice a8 (AL g u x y).length c8))
                    clear hi8 hb8 HAd HI7 HAb HIb
                    go_wp2_with fail
                    go_roundw
                    case rel => exact ⟨y, _, huy, by omega, by go_num, HX.out, HBX.out⟩
                    case measure => (first | (simp [intOf]; done) | (simp [intOf]; omega))
                  · obtain rfl : mm = sl := by omega
                    clear hwm
                    go_wp2_with fail
                    refine HT.out.mono ?_
                    rintro e w7 ⟨a7, c7, rfl, hi7, rfl⟩
                    have HI7 := Lib.hid hi7
                    clear hi7 HT
                    go_wp2_with fail
                    refine (HAd.out _ _ HI7.out).mono ?_
                    rintro e w8 ⟨a8, c8, rfl, hi8, hb8⟩
                    have HA8 := Lib.hid (HAb.out.below hb8)
                    have HB8 : Hid (Below w1.heap.size w1 w8) := Lib.hid (HBb.out.trans (hb8.mono HBb.out.size))
                    have HX := Lib.hid (HA8.out.step hi8)
                    have t1 := HA8.out.cell hy
                    have t2 := HA8.out.fr y
                    have HBX := Lib.hid (below_cell (a := ⟨w1.heap.size, y, none⟩) HB8.out (Nat.le_refl _) (.slice a8 (AL g u x y).length c8))
                    clear hi8 hb8 HAd HI7 HAb HIb
                    go_wp2_with fail
                    go_roundw
                    case rel => exact ⟨y, _, huy, by omega, by go_num, HX.out, HBX.out⟩
                    case measure => (first | (simp [intOf]; done) | (simp [intOf]; omega))
            · have hn : ((y : Int) == (u : Int)) = false := beq_eq_false_iff_ne.2 (by omega)
              have hn2 : ((y : Int) != (u : Int)) = true := by simp; omega
              have t0 := HRr.out.at.1
              have t1 := HRr.out.at.2.1
              have t2 := HRr.out.at.2.2
              go_wp2_with fail
              clear t0 t1 t2
              refine (HLow.out y hy _ HRr.out.rp).mono ?_
              rintro e w2 ⟨lb2, lc2, rfl, hO2, hb2⟩
              have l2 := hO2.cell hu
              rw [HLoB.out y hy u hu] at l2
              have hoc2 := hO2.capOk
              have HA2 := Lib.hid (HA.out.below hb2)
              have HB2 : Hid (Below w1.heap.size w1 w2) := Lib.hid (HB.out.trans (hb2.mono HB.out.size))
              have HR2 := Lib.hid (HRr.out.below hb2)
              clear hO2 hb2 HA HB HRr l1
              cases hb3 : loB g u y with
              | false =>
                have HX := Lib.hid (HA2.out.skip (AL_no (fun q => q.2.elim e2 (fun q => by rw [hb3] at q; cases q))))
                rw [hb3] at l2
                clear hb3 e1 e2
                go_wp2_with fail
                go_roundw
                case rel => exact ⟨y, _, huy, by omega, by go_num, HX.out, HB2.out⟩
                case measure => (first | (simp [intOf]; done) | (simp [intOf]; omega))
              | true =>
                rw [hb3] at l2
                have HCo : Hid (y = u ∨ loB g u y = true) := Lib.hid (.inr hb3)
                clear hb3 e2
                have HSt := Lib.hid (dP_step hg h3 hy hx e1 hb1)
                have HSum := Lib.hid (sumR_ok hg h3 hy hx)
                have HEnd := Lib.hid (sumR_end hg hy hx)
                have HB1' := Lib.hid hb1
                clear hb1 e1
                go_wp2_with fail
                go_loopw [10, 11] (fun v i wi => ∃ (k : Nat) (a : Option Addr) (c : Nat), k ≤ x - y ∧ i = .int .i64 ((y + 1 + k : Nat) : Int) ∧ v = .slice a (sumRK g y x k).length c ∧ Ints wi v (sumRK g y x k) ∧ Below w2.heap.size w2 wi) (fun _ i _ => x + 1 - (intOf i).toNat)
                case atStart => exact ⟨0, none, 0, Nat.zero_le _, rfl, rfl, ints_none _, Below.refl _ _⟩
                case round =>
                  rename World => wi
                  obtain ⟨k, a, c, hk, rfl, rfl, hI, hbi⟩ := hrel
                  have HI := Lib.hid hI
                  have HBi := Lib.hid hbi
                  clear hI hbi
                  have HAi := Lib.hid (HA2.out.below HBi.out)
                  have HRi := Lib.hid (HR2.out.below HBi.out)
                  have HBw : Hid (Below w1.heap.size w1 wi) := Lib.hid (HB2.out.trans (HBi.out.mono HB2.out.size))
                  by_cases hlt : y + 1 + k ≤ x
                  · obtain ⟨z, hz⟩ : ∃ z, z = y + 1 + k := ⟨_, rfl⟩
                    have hzx : z < nE g := by omega
                    have hyz : y + 1 ≤ z := by omega
                    have HZ := Lib.hid hz
                    have HYes := Lib.hid (fun h => sumRK_yes (g := g) (u := y) (x := x) (k := k) h)
                    have HNo := Lib.hid (fun h => sumRK_no (g := g) (u := y) (x := x) (k := k) h)
                    have hs17 := (HSum.out k hk).1
                    have HSB := Lib.hid (HSum.out k hk).2
                    have hk47 : k * 832 ≤ 100000 := by
                      have : k * 832 ≤ 48 * 832 := Nat.mul_le_mul_right _ (by omega)
                      omega
                    rw [← hz] at HYes HNo hlt ⊢
                    clear hz HSum HSt HEnd
                    have l3 := ck (HL1.out z hzx) HBw.out
                    cases h1 : loB g z x with
                    | false =>
                      have hE := HNo.out (by rw [h1]; simp)
                      have HX : Hid (Ints wi (.slice a (sumRK g y x (k + 1)).length c) (sumRK g y x (k + 1))) := Lib.hid (by rw [hE]; exact HI.out)
                      have HXe := Lib.hid hE
                      rw [h1] at l3
                      clear hE h1
                      go_wp2_with fail
                      go_roundw
                      case rel => exact ⟨k + 1, a, c, by have := HZ.out; omega, by rw [HZ.out]; go_num, by rw [HXe.out], by rw [← HXe.out]; exact HX.out, HBi.out⟩
                      case measure => (first | (simp [intOf]; done) | (simp [intOf]; omega))
                    | true =>
                      rw [h1] at l3
                      have t0 := HRi.out.at.1
                      have t1 := HRi.out.at.2.1
                      have t2 := HRi.out.at.2.2
                      go_wp2_with fail
                      clear t0 t1 t2
                      refine (HLow.out z hzx _ HRi.out.rp).mono ?_
                      rintro e w5 ⟨lb5, lc5, rfl, hO5, hb5⟩
                      have l5 := hO5.cell hy
                      rw [HLoB.out z hzx y hy] at l5
                      have hoc5 := hO5.capOk
                      have HI5 := Lib.hid (HI.out.below hb5 (Nat.le_refl _))
                      have HB5 : Hid (Below w2.heap.size w2 w5) := Lib.hid (HBi.out.trans (hb5.mono HBi.out.size))
                      have HR5 := Lib.hid (HRi.out.below hb5)
                      have HA5 := Lib.hid (HAi.out.below hb5)
                      clear hO5 hb5 HI HBi HRi HAi HBw l3
                      cases h2 : loB g y z with
                      | false =>
                        have hE := HNo.out (by rw [h2]; simp)
                        have HX : Hid (Ints w5 (.slice a (sumRK g y x (k + 1)).length c) (sumRK g y x (k + 1))) := Lib.hid (by rw [hE]; exact HI5.out)
                        have HXe := Lib.hid hE
                        rw [h2] at l5
                        clear hE h1 h2
                        go_wp2_with fail
                        go_roundw
                        case rel => exact ⟨k + 1, a, c, by have := HZ.out; omega, by rw [HZ.out]; go_num, by rw [HXe.out], by rw [← HXe.out]; exact HX.out, HB5.out⟩
                        case measure => (first | (simp [intOf]; done) | (simp [intOf]; omega))
                      | true =>
                        rw [h2] at l5
                        have HE := Lib.hid (HYes.out (by rw [h1, h2]; rfl))
                        have hALz : AL g u x z = dP g z x := AL_yes h1 (HCo.out.elim (fun q => .inr (by rw [← q]; exact h2)) (fun q => .inr (lo_trans hg hu hy hzx q h2)))
                        obtain ⟨za, zc, hz1, hz2⟩ := HA5.out.done z hyz hlt
                        have hz3 := HA5.out.cell hzx
                        rw [hz1] at hz2 hz3
                        rw [hALz] at hz2 hz3
                        have HP := Lib.hid hz2
                        have HPc := Lib.hid hz3
                        have t0 := HR5.out.at.1
                        have t1 := HR5.out.at.2.1
                        have t2 := HR5.out.at.2.2
                        have hR13 := dR_len g y z
                        have hP4 := dP_len g z x
                        have HbR := Lib.hid (dR_bd hg h3 hy hzx)
                        have HbP := Lib.hid (dP_bd hg h3 hzx hx)
                        clear h1 h2 HYes HNo hz1 hz2 hz3 hALz
                        go_wp2_with fail
                        refine (HRR.out y z hy hzx _ HR5.out.rp).mono ?_
                        rintro e w6 ⟨ra, rc, rfl, hi6, hb6⟩
                        have HI6 := Lib.hid (HI5.out.below hb6 (Nat.le_refl _))
                        have HB6 : Hid (Below w2.heap.size w2 w6) := Lib.hid (HB5.out.trans (hb6.mono HB5.out.size))
                        have HP6 := Lib.hid (HP.out.below hb6 (Nat.le_refl _))
                        have HPc6 := Lib.hid (ck HPc.out hb6)
                        obtain ⟨_, _, e', hrc, _, hrx⟩ := hi6.open
                        cases e'
                        have HRx := Lib.hid hrx
                        clear hi6 hb6 hrx HI5 HB5 HR5 HA5 HP HPc l5 t0 t1 t2
                        have HIn := Lib.hid (fun (r : List Int) (hr : r.length ≤ 13) (br : Bnd 8 r) => inR_ok hP4 HbP.out r 0 (k * 832) (sumRK g y x k) (by omega) br hs17 HSB.out)
                        have HSn := Lib.hid (fun (r : List Int) c => inR_snoc (dP g z x) c r 0 (sumRK g y x k))
                        generalize sumRK g y x k = S0 at *
                        generalize hPz : dP g z x = PZ at *
                        generalize hRz : dR g y z = RZ at *
                        have HRl := Lib.hid (rfl : RZ.length = RZ.length)
                        clear hPz hRz
                        go_wp2_with fail
                        go_loopw [10, 85] (fun v j wc => ∃ (t : Nat) (a : Option Addr) (c : Nat), t ≤ RZ.length ∧ j = .int .i64 (t : Nat) ∧ v = .slice a (inR PZ (RZ.take t) 0 S0).length c ∧ Ints wc v (inR PZ (RZ.take t) 0 S0) ∧ Below w6.heap.size w6 wc) (fun _ j _ => RZ.length - (intOf j).toNat)
                        case atStart => exact ⟨0, a, c, Nat.zero_le _, rfl, rfl, HI6.out, Below.refl _ _⟩
                        case round =>
                          rename World => wc
                          clear HI6
                          obtain ⟨t, a, c, ht, rfl, rfl, hI, hbc⟩ := hrel
                          have HI := Lib.hid hI
                          have HBc := Lib.hid hbc
                          clear hI hbc
                          by_cases htl : t < RZ.length
                          · obtain ⟨rb, ro, rfl, r1⟩ := HRx.out t htl
                            have r1 := ck r1 HBc.out
                            have p1 := ck HPc6.out HBc.out
                            have HPx := Lib.hid (HP6.out.below HBc.out (Nat.le_refl _))
                            have hin := HIn.out (RZ.take t) (by rw [List.length_take]; omega) (fun c hc => HbR.out c (List.mem_of_mem_take hc))
                            have htk : (RZ.take t).length = t := by rw [List.length_take]; omega
                            rw [htk] at hin
                            have hin1 := hin.1
                            have HIn2 := Lib.hid hin.2
                            have hrb := HbR.out.get t
                            have HNx : Hid (addL (inR PZ (RZ.take t) 0 S0) PZ (RZ.getD t 0) t = inR PZ (RZ.take (t + 1)) 0 S0) := Lib.hid (by
                              rw [take_snoc RZ t htl, HSn.out, htk, Nat.zero_add])
                            clear hin htk
                            have HAd := Lib.hid (fun v v' W h h' => add_any v v' (inR PZ (RZ.take t) 0 S0) PZ W h h' (by omega) (by omega) (HIn2.out.mono (by omega)) (HbP.out.mono (by omega)) (RZ.getD t 0) (by omega) t (by omega))
                            rw [HNx.out] at HAd
                            generalize inR PZ (RZ.take t) 0 S0 = S1 at *
                            generalize hS2 : inR PZ (RZ.take (t + 1)) 0 S0 = S2 at *
                            have HS2 := Lib.hid hS2
                            clear hS2
                            generalize RZ.getD t 0 = rt_ at *
                            clear HIn HSn
                            go_wp2_with fail
                            refine (HAd.out _ _ _ HI.out HPx.out).mono ?_
                            rintro e w7 ⟨a7, c7, rfl, hi7, hb7⟩
                            have HX := Lib.hid hi7
                            have HBX := Lib.hid (HBc.out.trans (hb7.mono HBc.out.size))
                            clear hi7 hb7 HAd
                            go_wp2_with fail
                            go_roundw
                            case rel => exact ⟨t + 1, a7, c7, by omega, by go_num, by rw [HS2.out], by rw [HS2.out]; exact HX.out, HBX.out⟩
                            case measure => (first | (simp [intOf]; done) | (simp [intOf]; omega))
                          · have htt : t = RZ.length := by omega
                            have hE2 : inR PZ (RZ.take t) 0 S0 = sumRK g y x (k + 1) := by rw [htt, List.take_length, HE.out]
                            have HX : Hid (Ints wc (.slice a (sumRK g y x (k + 1)).length c) (sumRK g y x (k + 1))) := Lib.hid (by rw [← hE2]; exact HI.out)
                            have HXe := Lib.hid hE2
                            have HBX : Hid (Below w2.heap.size w2 wc) := Lib.hid (HB6.out.trans (HBc.out.mono HB6.out.size))
                            clear hE2 htt HI HIn HSn
                            go_wp2_with fail
                            go_roundw
                            case rel => exact ⟨k + 1, a, c, by have := HZ.out; omega, by rw [HZ.out]; go_num, by rw [HXe.out], by rw [HXe.out]; exact HX.out, HBX.out⟩
                            case measure => (first | (simp [intOf]; done) | (simp [intOf]; omega))
                  · have hkk : k = x - y := by omega
                    have hSe : sumRK g y x k = pSumR g y x := by rw [hkk, HEnd.out]
                    have hs17 : (pSumR g y x).length ≤ 17 := by rw [← hSe]; exact (HSum.out k hk).1
                    have HSB : Hid (Bnd 100000 (pSumR g y x)) := Lib.hid (by
                      rw [← hSe]
                      refine (HSum.out k hk).2.mono ?_
                      have : k * 832 ≤ 48 * 832 := Nat.mul_le_mul_right _ (by omega)
                      omega)
                    rw [hSe] at HI ⊢
                    have hP := HSt.out.2.2
                    obtain ⟨mm, hmm⟩ : ∃ mm, mm = min ((ln g x - ln g y + 1) / 2) (pSumR g y x).length := ⟨_, rfl⟩
                    rw [← hmm] at hP
                    have HP := Lib.hid hP
                    have HLx := Lib.hid (fun W hW => HLen.out x hx W hW)
                    have HLy := Lib.hid (fun W hW => HLen.out y hy W hW)
                    clear hkk hSe hP HSum HSt HEnd
                    have hlx' := hlx
                    have hltl' := hltl
                    clear hlx hltl HLen
                    generalize ln g x = q at *
                    generalize ln g y = p at *
                    generalize hSR : pSumR g y x = SR at *
                    clear hSR
                    obtain ⟨d, hd⟩ : ∃ d, (q - p + 1) / 2 = d + 1 := ⟨(q - p + 1) / 2 - 1, by omega⟩
                    have hwm : min ((d : Int) + 1) ((SR.length : Nat) : Int) = (mm : Nat) := by omega
                    have hmle : mm ≤ SR.length := by omega
                    have hw1 : IntKind.i64.wrap ((q : Int) - (p : Int)) = (q : Int) - (p : Int) := IntWalk.i64_in _ (by omega)
                    have hw2 : IntKind.i64.wrap ((q : Int) - (p : Int) - 1) = (q : Int) - (p : Int) - 1 := IntWalk.i64_in _ (by omega)
                    have hw3 : Int.tdiv ((q : Int) - (p : Int) - 1) 2 = (d : Nat) := by rw [Int.tdiv_eq_ediv_of_nonneg (by omega)]; omega
                    have hw4 : IntKind.i64.wrap (d : Int) = (d : Nat) := IntWalk.i64_in _ (by omega)
                    have hd12 : d ≤ 12 := by omega
                    have HI' := HI
                    obtain ⟨_, _, e', hsc, _, _⟩ := HI.out.open
                    cases e'
                    clear hmm hd
                    go_wp2_with fail
                    refine wp_region_held_drew (S := fun W => RB W w.heap.size g b0 c0 b1 c1 b2 c2) (by kernel_rfl) (HRi.out.below (below_drew (Below.refl _ _))) (fun hS0 => ?_)
                    have hBd : Below wi.heap.size wi wi.drew := below_drew (Below.refl _ _)
                    refine tk0 (v := (.agg #[.slice (some ⟨b0, 0, none⟩) (nE g) c0, .slice (some ⟨b1, 0, none⟩) (nE g) c1, .slice (some ⟨b2, 0, none⟩) (nE g) c2])) (by kernel_rfl) (by kernel_rfl) (by kernel_rfl) (fun _ _ _ h => h) (Or.inl ⟨by kernel_rfl, fun w' hSw => by (have h0 := hSw.at.1; have h1 := hSw.at.2.1; have h2 := hSw.at.2.2; go_simp)⟩) hS0 ?_
                    try simp only [Act.put, List.setIfInBounds_toArray, List.set_cons_zero, List.set_cons_succ]
                    refine tk1 (v := (.int .i64 (x : Nat))) (by kernel_rfl) (by kernel_rfl) (by kernel_rfl) (fun _ _ _ h => h) (Or.inl ⟨by kernel_rfl, fun w' hSw => by go_simp⟩) hS0 ?_
                    try simp only [Act.put, List.setIfInBounds_toArray, List.set_cons_zero, List.set_cons_succ]
                    refine tk3 (v := (.agg #[.slice (some ⟨b0, 0, none⟩) (nE g) c0, .slice (some ⟨b1, 0, none⟩) (nE g) c1, .slice (some ⟨b2, 0, none⟩) (nE g) c2])) (by kernel_rfl) (by kernel_rfl) (by kernel_rfl) (fun _ _ _ h => h) (Or.inl ⟨by kernel_rfl, fun w' hSw => by (have h0 := hSw.at.1; have h1 := hSw.at.2.1; have h2 := hSw.at.2.2; go_simp)⟩) hS0 ?_
                    try simp only [Act.put, List.setIfInBounds_toArray, List.set_cons_zero, List.set_cons_succ]
                    refine tk4 (v := (.int .i64 (y : Nat))) (by kernel_rfl) (by kernel_rfl) (by kernel_rfl) (fun _ _ _ h => h) (Or.inl ⟨by kernel_rfl, fun w' hSw => by go_simp⟩) hS0 ?_
                    try simp only [Act.put, List.setIfInBounds_toArray, List.set_cons_zero, List.set_cons_succ]
                    refine wpAnyH_ready (rs := [2]) (by kernel_rfl) (by simp) (AllReadyH.cons rfl (fun K hK => ?_) AllReadyH.nil)
                    rw [if_pos (by kernel_rfl)]
                    go_simp
                    refine (HLx.out _ hS0.rp).mono ?_
                    rintro e wa ⟨rfl, hba⟩
                    have hSa := hS0.below hba
                    refine hK.out _ _ hSa fun _ => ?_
                    clear hK
                    refine wpAnyH_ready (rs := [5]) (by kernel_rfl) (by simp) (AllReadyH.cons rfl (fun K hK => ?_) AllReadyH.nil)
                    rw [if_pos (by kernel_rfl)]
                    go_simp
                    refine (HLy.out _ hSa.rp).mono ?_
                    rintro e wb ⟨rfl, hbb⟩
                    have hSb := hSa.below hbb
                    refine hK.out _ _ hSb fun _ => ?_
                    clear hK
                    refine tk6 (v := (.int .i64 ((q : Int) - (p : Int)))) (by kernel_rfl) (by kernel_rfl) (by kernel_rfl) (fun _ _ _ h => h) (Or.inl ⟨by kernel_rfl, fun w' hSw => by (first | (go_simp; done) | (go_simp; simp [hw1]; done))⟩) hSb ?_
                    try simp only [Act.put, List.setIfInBounds_toArray, List.set_cons_zero, List.set_cons_succ]
                    refine tk7 (v := (.int .i64 ((q : Int) - (p : Int) - 1))) (by kernel_rfl) (by kernel_rfl) (by kernel_rfl) (fun _ _ _ h => h) (Or.inl ⟨by kernel_rfl, fun w' hSw => by (first | (go_simp; done) | (go_simp; simp [hw2]; done))⟩) hSb ?_
                    try simp only [Act.put, List.setIfInBounds_toArray, List.set_cons_zero, List.set_cons_succ]
                    refine tk8 (v := (.int .i64 (d : Nat))) (by kernel_rfl) (by kernel_rfl) (by kernel_rfl) (fun _ _ _ h => h) (Or.inl ⟨by kernel_rfl, fun w' hSw => by (first | (go_simp; done) | (go_simp; simp [hw3, hw4]; done))⟩) hSb ?_
                    try simp only [Act.put, List.setIfInBounds_toArray, List.set_cons_zero, List.set_cons_succ]
                    refine tk9 (v := (.int .i64 (d : Nat))) (by kernel_rfl) (by kernel_rfl) (by kernel_rfl) (fun _ _ _ h => h) (Or.inl ⟨by kernel_rfl, fun w' hSw => by go_simp⟩) hSb ?_
                    try simp only [Act.put, List.setIfInBounds_toArray, List.set_cons_zero, List.set_cons_succ]
                    refine wpAnyH_done (by kernel_rfl) ?_ _
                    have hBb : Below wi.heap.size wi wb := hBd.trans ((hba.mono hBd.size).trans (hbb.mono (Nat.le_trans hBd.size hba.size)))
                    have HBb := Lib.hid (HBw.out.trans (hBb.mono HBw.out.size))
                    have HAb := Lib.hid (HAi.out.below hBb)
                    have HIb := Lib.hid (HI.out.below hBb (Nat.le_refl _))
                    clear hS0 hSa hSb hBd hba hbb hBb HI HI' HAi HBi HBw HRi HLx HLy hw1 hw2 hw3 hw4
                    have HT := Lib.hid (trimmed_any _ _ _ (HIb.out.take hmle))
                    have hTl : (trL (SR.take mm)).length ≤ 17 := Nat.le_trans (trL_le _) (by rw [List.length_take]; omega)
                    have HTb : Hid (Bnd 1000000 (trL (SR.take mm))) := Lib.hid ((Bnd.trim (fun c hc => HSB.out c (List.mem_of_mem_take hc))).mono (by omega))
                    have HAd : Hid (∀ v W, Ints W v (trL (SR.take mm)) → Calls Try.prog 88 #[.slice none 0 0, v, .int .i64 (-1), .int .i64 0] W fun e w' => ∃ a c, e = .returned (.slice a (addL [] (trL (SR.take mm)) (-1) 0).length c) ∧ Ints w' (.slice a (addL [] (trL (SR.take mm)) (-1) 0).length c) (addL [] (trL (SR.take mm)) (-1) 0) ∧ Below W.heap.size W w') :=
                      Lib.hid (fun v W h => add_any _ v [] _ W (ints_none W) h (by simp) (by omega) (by intro c hc; simp at hc) HTb.out (-1) (by omega) 0 (by omega))
                    have hAL : AL g u x y = dP g y x := AL_yes HB1'.out HCo.out
                    rw [← HP.out, ← hAL] at HAd
                    clear hAL HP HTb
                    generalize trL (SR.take mm) = TT at *
                    generalize SR.length = sl at *
                    rcases Nat.lt_trichotomy (d + 1) sl with hc | hc | hc
                    · obtain rfl : mm = d + 1 := by omega
                      clear hwm
                      go_wp2_with fail
                      refine HT.out.mono ?_
                      rintro e w7 ⟨a7, c7, rfl, hi7, rfl⟩
                      have HI7 := Lib.hid hi7
                      clear hi7 HT
                      go_wp2_with fail
                      refine (HAd.out _ _ HI7.out).mono ?_
                      rintro e w8 ⟨a8, c8, rfl, hi8, hb8⟩
                      have HA8 := Lib.hid (HAb.out.below hb8)
                      have HB8 : Hid (Below w1.heap.size w1 w8) := Lib.hid (HBb.out.trans (hb8.mono HBb.out.size))
                      have HX := Lib.hid (HA8.out.step hi8)
                      have t1 := HA8.out.cell hy
                      have t2 := HA8.out.fr y
                      have HBX := Lib.hid (below_cell (a := ⟨w1.heap.size, y, none⟩) HB8.out (Nat.le_refl _) (.slice a8 (AL g u x y).length c8))
                      clear hi8 hb8 HAd HI7 HAb HIb
                      go_wp2_with fail
                      go_roundw
                      case rel => exact ⟨y, _, huy, by omega, by go_num, HX.out, HBX.out⟩
                      case measure => (first | (simp [intOf]; done) | (simp [intOf]; omega))
                    · subst hc
                      obtain rfl : mm = d + 1 := by omega
                      clear hwm
                      go_wp2_with fail
                      refine HT.out.mono ?_
                      rintro e w7 ⟨a7, c7, rfl, hi7, rfl⟩
                      have HI7 := Lib.hid hi7
                      clear hi7 HT
                      go_wp2_with fail
                      refine (HAd.out _ _ HI7.out).mono ?_
                      rintro e w8 ⟨a8, c8, rfl, hi8, hb8⟩
                      have HA8 := Lib.hid (HAb.out.below hb8)
                      have HB8 : Hid (Below w1.heap.size w1 w8) := Lib.hid (HBb.out.trans (hb8.mono HBb.out.size))
                      have HX := Lib.hid (HA8.out.step hi8)
                      have t1 := HA8.out.cell hy
                      have t2 := HA8.out.fr y
                      have HBX := Lib.hid (below_cell (a := ⟨w1.heap.size, y, none⟩) HB8.out (Nat.le_refl _) (.slice a8 (AL g u x y).length c8))
                      clear hi8 hb8 HAd HI7 HAb HIb
                      go_wp2_with fail
                      go_roundw
                      case rel => exact ⟨y, _, huy, by omega, by go_num, HX.out, HBX.out⟩
                      case measure => (first | (simp [intOf]; done) | (simp [intOf]; omega))
                    · obtain rfl : mm = sl := by omega
                      clear hwm
                      go_wp2_with fail
                      refine HT.out.mono ?_
                      rintro e w7 ⟨a7, c7, rfl, hi7, rfl⟩
                      have HI7 := Lib.hid hi7
                      clear hi7 HT
                      go_wp2_with fail
                      refine (HAd.out _ _ HI7.out).mono ?_
                      rintro e w8 ⟨a8, c8, rfl, hi8, hb8⟩
                      have HA8 := Lib.hid (HAb.out.below hb8)
                      have HB8 : Hid (Below w1.heap.size w1 w8) := Lib.hid (HBb.out.trans (hb8.mono HBb.out.size))
                      have HX := Lib.hid (HA8.out.step hi8)
                      have t1 := HA8.out.cell hy
                      have t2 := HA8.out.fr y
                      have HBX := Lib.hid (below_cell (a := ⟨w1.heap.size, y, none⟩) HB8.out (Nat.le_refl _) (.slice a8 (AL g u x y).length c8))
                      clear hi8 hb8 HAd HI7 HAb HIb
                      go_wp2_with fail
                      go_roundw
                      case rel => exact ⟨y, _, huy, by omega, by go_num, HX.out, HBX.out⟩
                      case measure => (first | (simp [intOf]; done) | (simp [intOf]; omega))
end Go.Proofs.Ytlnbodpdgebflaa
