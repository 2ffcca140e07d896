/- the tangents' closure; IndexFunc and DeleteFunc with it -/
import Derived.Test.YtllokfkagneneaaW
namespace Go.Proofs.Ytllokfkagneneaa
open Go.RowKit

/-- What the closure has caught: the plane and the point. -/
def Cap83 (w : World) (g8 g5 b q pt : Nat) : Prop := w.cell? ⟨g8, 0, none⟩ = some (.pointer (some ⟨b, 0, none⟩)) ∧ w.cell? ⟨g5, 0, none⟩ = some (.int .i64 pt) ∧ PlaneAt w b q
theorem Cap83.below {w w' : World} {g8 g5 b q pt : Nat} (h : Cap83 w g8 g5 b q pt) (hb : Below w.heap.size w w') : Cap83 w' g8 g5 b q pt := ⟨ck h.1 hb, ck h.2.1 hb, h.2.2.below hb (Nat.le_refl _)⟩
/-- Lines that are not through the point. -/
def offB (q pt : Nat) (x : Int) : Bool := !onB q pt x.toNat

set_option maxHeartbeats 1000000 in
theorem close83_any (g8 g5 b q pt x : Nat) (w : World) (h : Cap83 w g8 g5 b q pt) (hq : isPn q) (hpt : pt < np q) (hx : x < np q) :
    Calls Try.prog 83 #[.int .i64 x, .pointer (some ⟨g8, 0, none⟩), .pointer (some ⟨g5, 0, none⟩)] w fun e w' => e = .returned (.bool (offB q pt x)) ∧ Below w.heap.size w w' := by
  obtain ⟨c8, c5, hP⟩ := h
  have HO := Lib.hid (on_any b q pt x w hP hq hpt hx)
  have HB : Hid (offB q pt x = !onB q pt x) := rfl
  clear hP
  generalize onB q pt x = bb at *
  go_enter Try.func83, Try.ntmps83
  go_wp2_with fail
  refine HO.out.mono ?_
  rintro e w1 ⟨rfl, hb1⟩
  have HB1 := Lib.hid hb1
  clear hb1
  go_wp2
  go_ret
  exact ⟨ret_bool HB.out.symm, HB1.out⟩

def idxP (P : Int → Bool) (xs : List Int) : Int := (xs.findIdx? P).elim (-1) fun (i : Nat) => (i : Int)
theorem idxP_some {P : Int → Bool} {xs : List Int} {k : Nat} (hk : k < xs.length) (h : ∀ j : Nat, j < k → P (xs.getD j 0) = false) (h1 : P (xs.getD k 0) = true) : idxP P xs = k := by
  have : xs.findIdx? P = some k := by
    rw [List.findIdx?_eq_some_iff_getElem]
    refine ⟨hk, ?_, fun j hj => ?_⟩
    · simpa [hk] using h1
    · have := h j hj; simp [show j < xs.length by omega] at this; simp [this]
  unfold idxP; rw [this]; rfl
theorem idxP_none {P : Int → Bool} {xs : List Int} (h : ∀ j : Nat, j < xs.length → P (xs.getD j 0) = false) : idxP P xs = -1 := by
  have : xs.findIdx? P = none := by
    rw [List.findIdx?_eq_none_iff]
    intro u hu
    obtain ⟨j, hj, rfl⟩ := mem_getD hu
    exact h j hj
  unfold idxP; rw [this]; rfl

/-- What IndexFunc tells: the first element of which P holds. -/
def IdxPost (P : Int → Bool) (xs : List Int) (w : World) (e : Ending) (w' : World) : Prop :=
  ((∃ k : Nat, k < xs.length ∧ (∀ j : Nat, j < k → P (xs.getD j 0) = false) ∧ P (xs.getD k 0) = true ∧ e = .returned (.int .i64 k)) ∨
    ((∀ j : Nat, j < xs.length → P (xs.getD j 0) = false) ∧ e = .returned (.int .i64 (-1)))) ∧ Below w.heap.size w w'

set_option maxHeartbeats 2000000 in
theorem indexFunc_any (g8 g5 b q pt : Nat) (v : Value) (xs : List Int) (w : World) (hc : Cap83 w g8 g5 b q pt) (hq : isPn q) (hpt : pt < np q) (h : Ints w v xs) (hin : InP q xs) :
    Calls Try.prog 115 #[v, .func (.func 83) #[] #[.pointer (some ⟨g8, 0, none⟩), .pointer (some ⟨g5, 0, none⟩)]] w (IdxPost (offB q pt) xs w) := by
  obtain ⟨ao, cap, rfl, h1, h2, hx⟩ := h.open
  have HX := Lib.hid hx
  have HIn : Hid (∀ k : Nat, k < xs.length → 0 ≤ xs.getD k 0 ∧ xs.getD k 0 < (np q : Nat)) := hin
  have HC := Lib.hid (fun (x : Nat) (hx : x < np q) (w' : World) (hb : Below w.heap.size w w') => close83_any g8 g5 b q pt x w' (hc.below hb) hq hpt hx)
  clear h hx hin hc hq hpt
  go_enter Try.func115, Try.ntmps115
  go_wp2
  go_loopw [8] (fun i wr => ∃ k : Nat, k ≤ xs.length ∧ i = .int .i64 k ∧ (∀ j : Nat, j < k → offB q pt (xs.getD j 0) = false) ∧ Below w.heap.size w wr) (fun i _ => xs.length - (intOf i).toNat)
  case atStart => exact ⟨0, Nat.zero_le _, rfl, fun j hj => absurd hj (by omega), Below.refl _ _⟩
  case round =>
    obtain ⟨k, hk, rfl, hall, hb⟩ := hrel
    have HA := Lib.hid hall
    have HB := Lib.hid hb
    clear hall hb
    by_cases hlt : k < xs.length
    · obtain ⟨bx, ox, rfl, hck⟩ := HX.out k hlt
      have hck' := ck hck HB.out
      obtain ⟨i, hi⟩ := Int.eq_ofNat_of_zero_le (HIn.out k hlt).1
      have hiq : i < np q := by have := (HIn.out k hlt).2; omega
      have HC' := Lib.hid (HC.out i hiq wr HB.out)
      cases hP : offB q pt (xs.getD k 0) with
      | true =>
        have HI : Hid (∃ k : Nat, k < xs.length ∧ (∀ j : Nat, j < k → offB q pt (xs.getD j 0) = false) ∧ offB q pt (xs.getD k 0) = true ∧ (.returned (.int .i64 k) : Ending) = .returned (.int .i64 k)) := ⟨k, hlt, HA.out, hP, rfl⟩
        have HI2 := Lib.hid hP
        rw [hi] at hck' hP
        rw [hP] at HC'
        clear hck hi hP
        go_wp2_with fail
        refine HC'.out.mono ?_
        rintro e w1 ⟨rfl, hb1⟩
        have HB1 := Lib.hid (HB.out.trans (hb1.mono HB.out.size))
        clear hb1
        go_wp2
        go_ret
        exact ⟨.inl ⟨k, hlt, HA.out, HI2.out, rfl⟩, HB1.out⟩
      | false =>
        have HN := Lib.hid (fun (j : Nat) (hj : j < k + 1) => if e : j = k then e ▸ hP else HA.out j (by omega))
        rw [hi] at hck' hP
        rw [hP] at HC'
        clear hck hi hP
        go_wp2_with fail
        refine HC'.out.mono ?_
        rintro e w1 ⟨rfl, hb1⟩
        have HB1 := Lib.hid (HB.out.trans (hb1.mono HB.out.size))
        clear hb1
        go_wp2
        go_roundw
        case rel => exact ⟨k + 1, by omega, by go_num, HN.out, HB1.out⟩
        case measure => simp [intOf]; omega
    · obtain rfl : k = xs.length := by omega
      go_wp2
      go_ret
      exact ⟨.inr ⟨HA.out, rfl⟩, HB.out⟩
end Go.Proofs.Ytllokfkagneneaa
