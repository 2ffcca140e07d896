/- stairs: areHeights, stair, Stair, and the reference's Steps and Stair -/
import Derived.Test.YtellnklbkjajbaaDoorSu
namespace Go.Proofs.YtellnklbkjajbaaDoor
open Go.RowKit

theorem stepsB_eq (xs : List Int) (h1 : 1 ≤ xs.length) (h6 : xs.length ≤ 6) : stepsB xs = (sortedB xs && (decide (0 ≤ xs.getD 0 0) && decide (xs.getD (xs.length - 1) 0 ≤ xs.length))) := by
  cases hs : sortedB xs with
  | false =>
    rw [Bool.false_and]
    have := of_decide_eq_false hs
    refine decide_eq_false fun ⟨_, _, h⟩ => this fun k hk h0 => (h k hk).2 h0
  | true =>
    have hm := of_decide_eq_true hs
    have up : ∀ k, k < xs.length → xs.getD 0 0 ≤ xs.getD k 0 := by
      intro k
      induction k with
      | zero => intro _; exact Int.le_refl _
      | succ k ih => intro hk; have a := ih (by omega); have b := hm (k + 1) hk (by omega); simp only [Nat.add_sub_cancel] at b; omega
    have dn : ∀ d, d < xs.length → xs.getD (xs.length - 1 - d) 0 ≤ xs.getD (xs.length - 1) 0 := by
      intro d
      induction d with
      | zero => intro _; exact Int.le_refl _
      | succ d ih =>
        intro hd
        have a := ih (by omega)
        have b := hm (xs.length - 1 - d) (by omega) (by omega)
        rw [show xs.length - 1 - d - 1 = xs.length - 1 - (d + 1) by omega] at b
        omega
    by_cases c : 0 ≤ xs.getD 0 0 ∧ xs.getD (xs.length - 1) 0 ≤ xs.length
    · rw [decide_eq_true c.1, decide_eq_true c.2]
      refine stepsB_good h1 h6 fun k hk => ⟨⟨by have := up k hk; omega, ?_⟩, hm k hk⟩
      have := dn (xs.length - 1 - k) (by omega)
      rw [show xs.length - 1 - (xs.length - 1 - k) = k by omega] at this
      omega
    · have e : stepsB xs = false := decide_eq_false fun ⟨_, _, h⟩ => c ⟨(h 0 (by omega)).1.1, (h (xs.length - 1) (by omega)).1.2⟩
      rw [e]
      by_cases c0 : 0 ≤ xs.getD 0 0
      · rw [decide_eq_true c0, decide_eq_false fun h => c ⟨c0, h⟩]; rfl
      · rw [decide_eq_false c0]; rfl

set_option maxHeartbeats 1000000 in
theorem areHeights_any (v : Value) (xs : List Int) (w : World) (h : Ints w v xs) :
    Calls Tryd.prog 64 #[v] w fun e w' => e = .returned (.bool (stepsB xs)) ∧ Below w.heap.size w w' := by
  have HS := Lib.hid (isSorted_any v xs w h)
  have HZ := Lib.hid (fun w => isSize_any xs.length w)
  obtain ⟨ao, cap, rfl, h1, h2, hx⟩ := h.cells
  have HX := Lib.hid hx
  have HB0 := Lib.hid (Below.refl w.heap.size w)
  clear h hx
  by_cases hs : 1 ≤ xs.length ∧ xs.length ≤ 6
  · have hz : sizeB xs.length = true := decide_eq_true (by omega)
    rw [hz] at HZ
    have HE := Lib.hid (stepsB_eq xs hs.1 hs.2)
    obtain ⟨l1, l6⟩ := hs
    have hlm : (xs.length : Int) - 1 = ((xs.length - 1 : Nat) : Int) := by omega
    cases hso : sortedB xs with
    | false =>
      rw [hso] at HS
      have HE' : Hid (stepsB xs = false) := Lib.hid (by rw [HE.out, hso]; rfl)
      clear hz hso HE hlm
      go_enter Tryd.func64, Tryd.ntmps64
      go_wp2_with fail
      refine (HZ.out w).mono ?_
      rintro e w' ⟨rfl, rfl⟩
      go_wp2_with fail
      refine HS.out.mono ?_
      rintro e w' ⟨rfl, hb⟩
      have HB := Lib.hid hb
      clear hb
      go_wp2_with fail
      go_ret
      exact ⟨ret_bool HE'.out.symm, HB.out⟩
    | true =>
      rw [hso] at HS
      have HE' : Hid (stepsB xs = (decide (0 ≤ xs.getD 0 0) && decide (xs.getD (xs.length - 1) 0 ≤ xs.length))) := Lib.hid (by rw [HE.out, hso]; rfl)
      clear hz hso HE
      have hg1 : (0:Int) ≤ ((xs.length - 1 : Nat) : Int) := by omega
      have hg2 : ((xs.length - 1 : Nat) : Int) < (xs.length : Int) := by omega
      go_enter Tryd.func64, Tryd.ntmps64
      go_wp2_with fail
      refine (HZ.out w).mono ?_
      rintro e w' ⟨rfl, rfl⟩
      go_wp2_with fail
      refine HS.out.mono ?_
      rintro e w' ⟨rfl, hb⟩
      obtain ⟨b, o, rfl, hc0⟩ := HX.out w' hb 0 (by omega)
      obtain ⟨b', o', e, hcl⟩ := HX.out w' hb (xs.length - 1) (by omega)
      cases e
      rw [Nat.add_zero] at hc0
      have HB := Lib.hid hb
      clear hb
      generalize xs.getD 0 0 = x0 at *
      generalize xs.getD (xs.length - 1) 0 = xl at *
      have hw : IntKind.i64.wrap ((xs.length : Int) - 1) = ((xs.length - 1 : Nat) : Int) := by rw [hlm]; exact i64_of (by omega) (by omega)
      clear hlm
      by_cases c0 : 0 ≤ x0
      · rw [decide_eq_true c0, Bool.true_and] at HE'
        generalize hm : xs.length - 1 = m at *
        clear hm
        go_wp2_with fail
        go_ret
        exact ⟨ret_bool HE'.out.symm, HB.out⟩
      · rw [decide_eq_false c0, Bool.false_and] at HE'
        go_wp2_with fail
        go_ret
        exact ⟨ret_bool HE'.out.symm, HB.out⟩
  · have hz : sizeB xs.length = false := decide_eq_false (by omega)
    rw [hz] at HZ
    have HE : Hid (stepsB xs = false) := Lib.hid (stepsB_len (by omega))
    clear hs hz
    go_enter Tryd.func64, Tryd.ntmps64
    go_wp2_with fail
    refine (HZ.out w).mono ?_
    rintro e w' ⟨rfl, rfl⟩
    go_wp2_with fail
    go_ret
    exact ⟨ret_bool HE.out.symm, HB0.out⟩
end Go.Proofs.YtellnklbkjajbaaDoor
