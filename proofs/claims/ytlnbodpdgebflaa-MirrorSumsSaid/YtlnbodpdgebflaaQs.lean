/- same, of lists of words that lie anywhere -/
import Derived.Test.YtlnbodpdgebflaaQb
namespace Go.Proofs.Ytlnbodpdgebflaa
open Go.RowKit

/-- v is a slice of words. -/
abbrev NatRows : World → Value → List (List Nat) → Prop := SlOf Nats
theorem NatRows.below {w w' : World} {B : Nat} {v : Value} {L : List (List Nat)} (h : NatRows w v L) (hb : Below B w w') (hB : w.heap.size ≤ B) : NatRows w' v L :=
  SlOf.below h hb hB fun _ _ h => Ints.below h hb hB

set_option maxHeartbeats 1000000 in
theorem equalFuncR_any (v v' : Value) (L : List (List Nat)) (w : World) (h : NatRows w v L) (h' : NatRows w v' L) :
    Calls Try.prog 77 #[v, v', .func (.func 28) #[] #[]] w fun e w' => e = .returned (.bool true) ∧ Below w.heap.size w w' := by
  obtain ⟨ao, cap, rfl, h1, h2, hx⟩ := h.open
  obtain ⟨ao', cap', rfl, h1', _, hx'⟩ := h'.open
  have HX := Lib.hid hx
  have HX' := Lib.hid hx'
  have HE := Lib.hid (fun v v' l W h h' => equal_any v v' l l W h h')
  clear h h' hx hx'
  go_enter Try.func77, Try.ntmps77
  go_wp2_with fail
  go_loopw [17] (fun i wr => ∃ k : Nat, k ≤ L.length ∧ i = .int .i64 k ∧ Below w.heap.size w wr) (fun i _ => L.length - (intOf i).toNat)
  case atStart => exact ⟨0, Nat.zero_le _, rfl, Below.refl _ _⟩
  case round =>
    obtain ⟨k, hk, rfl, hb⟩ := hrel
    have HB := Lib.hid hb
    clear hb
    by_cases hlt : k < L.length
    · obtain ⟨l, hkl⟩ : ∃ l, L[k]? = some l := ⟨L[k], by simp [hlt]⟩
      obtain ⟨b, o, u, rfl, h1c, hu⟩ := HX.out k l hkl
      obtain ⟨b', o', u', rfl, h3c, hu'⟩ := HX'.out k l hkl
      have c1 := ck h1c HB.out
      have c3 := ck h3c HB.out
      have HXe := Lib.hid (HE.out _ _ _ wr (Ints.below hu HB.out (Nat.le_refl _)) (Ints.below hu' HB.out (Nat.le_refl _)))
      rw [eqB_refl] at HXe
      obtain ⟨ua, uc, rfl, _, _, _⟩ := Nats.open hu
      obtain ⟨ua', uc', rfl, _, _, _⟩ := Nats.open hu'
      clear h1c h3c hu hu' hkl
      generalize l.length = n at *
      go_wp2_with fail
      refine HXe.out.mono ?_
      rintro e w2 ⟨rfl, hb2⟩
      have HB2 : Hid (Below w.heap.size w w2) := Lib.hid (HB.out.trans (hb2.mono HB.out.size))
      clear hb2 c1 c3
      go_wp2_with fail
      go_roundw
      case rel => exact ⟨k + 1, by omega, by go_num, HB2.out⟩
      case measure => simp [intOf]; omega
    · obtain rfl : k = L.length := by omega
      go_wp2_with fail
      go_ret
      exact ⟨rfl, HB.out⟩

set_option maxHeartbeats 1000000 in
theorem sameR_any (v v' : Value) (L : List (List Nat)) (w : World) (h : NatRows w v L) (h' : NatRows w v' L) :
    Calls Try.prog 30 #[v, v'] w fun e w' => e = .returned (.bool true) ∧ Below w.heap.size w w' := by
  have HE := Lib.hid (equalFuncR_any v v' L w h h')
  obtain ⟨ao, cap, rfl, _, _, _⟩ := h.open
  obtain ⟨ao', cap', rfl, _, _, _⟩ := h'.open
  clear h h'
  go_enter Try.func30, Try.ntmps30
  go_wp2_with fail
  refine HE.out.mono ?_
  rintro e w2 ⟨rfl, hb⟩
  have HB := Lib.hid hb
  clear hb
  go_wp2_with fail
  go_ret
  exact ⟨rfl, HB.out⟩
/-- A row of words that a call owns. -/
theorem natRows_own {W : World} {B n : Nat} {v : Value} {vs : List Value} {L : List (List Nat)} (h : W.ownsRow B 24 1 v n vs) (hl : L.length = n) (hn : n ≤ 17592186044416) (hr : ∀ (i : Nat) (u : Value) (l : List Nat), vs[i]? = some u → L[i]? = some l → Nats W u l) : NatRows W v L :=
  ⟨vs, Sl.of_owns h hn, by have := h.1; omega, hr⟩
end Go.Proofs.Ytlnbodpdgebflaa
