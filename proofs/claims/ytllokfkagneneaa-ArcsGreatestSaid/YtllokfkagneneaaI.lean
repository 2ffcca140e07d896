/- planes: Points, On of arcs -/
import Derived.Test.YtllokfkagneneaaF
import Derived.Test.YtllokfkagneneaaH
namespace Go.Proofs.Ytllokfkagneneaa
open Go.RowKit

theorem open_any (p : Int) (v : Value) (xs : List Int) (w : World) (h : Ints w v xs) :
    Calls Try.prog 67 #[.int .i64 p, v] w (OpenPost w p.toNat (isP p && inB p.toNat xs)) := by
  cases hp : isP p with
  | false => exact (open_bad p v w hp).mono fun e w' ⟨he, hw⟩ => by subst hw; exact ⟨he, Below.refl _ _⟩
  | true =>
    have hn : isPn p.toNat := by have := isP_cases hp; unfold isPn; omega
    obtain ⟨q, rfl⟩ : ∃ q : Nat, p = q := ⟨p.toNat, by have := isP_cases hp; omega⟩
    exact open_good q v xs w hn h

theorem Ints.nil (w : World) : Ints w (.slice none 0 0) [] := ⟨⟨none, 0, rfl, Nat.le_refl _, Nat.zero_le _, Nat.zero_le _, .inl rfl⟩, by simp⟩

set_option maxHeartbeats 2000000 in
theorem points_good (p : Nat) (w : World) (hp : isPn p) :
    Calls Try.prog 19 #[.int .i64 p] w fun e w' => ∃ v, e = .returned (.tuple #[v, .int .i64 0]) ∧ Tris w' v (ptsL p) ∧ Below w.heap.size w w' := by
  have HO := Lib.hid (open_good p (.slice none 0 0) [] w hp (Ints.nil w))
  go_enter Try.func19, Try.ntmps19
  go_wp2_with fail
  refine HO.out.mono ?_
  intro e w1 hq
  obtain ⟨b, rfl, hb, hP, hbel⟩ := hq
  obtain ⟨v, c0, c1, hT, hbs⟩ := hP
  have HT := Lib.hid hT
  have HB := Lib.hid hbel
  clear hT hbel
  go_wp2
  go_ret2
  exact ⟨v, rfl, HT.out, HB.out⟩

set_option maxHeartbeats 2000000 in
theorem points_bad (p : Int) (w : World) (hp : isP p = false) :
    Calls Try.prog 19 #[.int .i64 p] w fun e w' => e = .returned (.tuple #[.slice none 0 0, .int .i64 2]) ∧ Below w.heap.size w w' := by
  have HO := Lib.hid (open_bad p (.slice none 0 0) w hp)
  go_enter Try.func19, Try.ntmps19
  go_wp2_with fail
  refine HO.out.mono ?_
  rintro e w1 ⟨rfl, rfl⟩
  go_wp2
  go_ret2
  exact ⟨rfl, Below.refl _ _⟩

/-- Two numbers in a slice that the call lays. -/
theorem Ints.two (w : World) (a b : Int) (t : TypeId) (ha : I64 a) (hb : I64 b) : Ints (w.alloc (.cells #[.int .i64 a, .int .i64 b] t)) (.slice (some ⟨w.heap.size, 0, none⟩) 2 2) [a, b] := by
  refine ⟨⟨some ⟨w.heap.size, 0, none⟩, 2, rfl, by simp [ints], by simp [ints], by unfold maxLen; omega, .inr ⟨w.heap.size, 0, rfl, by simp, fun k x hx => ?_⟩⟩, by simp; exact ⟨ha, hb⟩⟩
  match k, hx with
  | 0, hx => simp [ints] at hx; subst hx; simp only [World.cell?, heap_alloc_new]; rfl
  | 1, hx => simp [ints] at hx; subst hx; simp only [World.cell?, heap_alloc_new]; rfl

/-- Whether p is one, and numbers are those of points. -/
def okB (p : Int) (xs : List Int) : Bool := isP p && inB p.toNat xs
theorem okB_of {p : Int} {xs : List Int} (h : okB p xs = true) : ∃ q : Nat, p = q ∧ isPn q ∧ ∀ x ∈ xs, ∃ k : Nat, x = k ∧ k < np q := by
  simp only [okB, Bool.and_eq_true] at h
  obtain ⟨h1, h2⟩ := h
  refine ⟨p.toNat, by have := isP_cases h1; omega, by have := isP_cases h1; unfold isPn; omega, fun x hx => ?_⟩
  have := (List.all_eq_true.1 h2) x hx
  simp at this
  exact ⟨x.toNat, by omega, by omega⟩

def OnPost (w : World) (p i j : Int) (e : Ending) (w' : World) : Prop :=
  (if okB p [i, j] = true then e = .returned (.tuple #[.bool (onB p.toNat i.toNat j.toNat), .int .i64 0]) else e = .returned (.tuple #[.bool false, .int .i64 2])) ∧ Below w.heap.size w w'

set_option maxHeartbeats 2000000 in
theorem on2_any (p i j : Int) (w : World) (hi : I64 i) (hj : I64 j) : Calls Try.prog 20 #[.int .i64 p, .int .i64 i, .int .i64 j] w (OnPost w p i j) := by
  have HO := Lib.hid (open_any p _ [i, j] (w.alloc (.cells #[.int .i64 i, .int .i64 j] 3)) (Ints.two w i j 3 hi hj))
  have hb0 : Below w.heap.size w (w.alloc (.cells #[.int .i64 i, .int .i64 j] 3)) := (Below.refl _ _).alloc (Nat.le_refl _) _
  have HB0 := Lib.hid hb0
  have hsz : w.heap.size < (w.alloc (.cells #[.int .i64 i, .int .i64 j] 3)).heap.size := by simp
  clear hb0
  cases hok : okB p [i, j] with
  | false =>
    have HK := Lib.hid hok
    go_enter Try.func20, Try.ntmps20
    go_wp2_with fail
    refine HO.out.mono ?_
    intro e w1 hq
    have hok' : (isP p && inB p.toNat [i, j]) = false := hok
    rw [hok'] at hq
    obtain ⟨rfl, hbel⟩ := hq
    have HB := Lib.hid (HB0.out.trans (hbel.mono HB0.out.size))
    clear hok hok' hbel
    go_wp2
    go_ret2
    unfold OnPost
    rw [HK.out]
    exact ⟨rfl, HB.out⟩
  | true =>
    obtain ⟨q, rfl, hq, hall⟩ := okB_of hok
    obtain ⟨i', rfl, hi'⟩ := hall i (by simp)
    obtain ⟨j', rfl, hj'⟩ := hall j (by simp)
    have HK := Lib.hid hok
    have hok' : (isP (q:Int) && inB (q:Int).toNat [(i':Int), (j':Int)]) = true := hok
    rw [hok'] at HO
    clear hok hok' hall hi hj
    go_enter Try.func20, Try.ntmps20
    go_wp2_with fail
    refine HO.out.mono ?_
    intro e w1 hq
    obtain ⟨b, rfl, hb, hP, hbel⟩ := hq
    have HB := Lib.hid (HB0.out.trans (hbel.mono HB0.out.size))
    have HOn := Lib.hid (on_any b q i' j' w1 hP hq hi' hj')
    clear hbel hP HO
    go_wp2_with fail
    refine HOn.out.mono ?_
    rintro e w2 ⟨rfl, hb2⟩
    go_wp2
    go_ret2
    unfold OnPost
    rw [HK.out]
    exact ⟨rfl, HB.out.trans (hb2.mono HB.out.size)⟩
end Go.Proofs.Ytllokfkagneneaa
