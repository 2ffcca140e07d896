/- diamonds: the closure, IndexFunc; the rows met and times in memory -/
import Derived.Test.YtlnbodpdgebflaaCa
import Derived.Test.YtlnbodpdgebflaaDm
namespace Go.Proofs.Ytlnbodpdgebflaa
open Go.RowKit

set_option maxHeartbeats 400000 in
theorem clos_any (bc : Nat) (vz vy : Value) (z y : List Nat) (w : World) (hz : Nats w vz z) (hy : Nats w vy y) (hb : w.cell? ⟨bc, 0, none⟩ = some vy) :
    Calls Try.prog 64 #[vz, .pointer (some ⟨bc, 0, none⟩)] w fun e w' => e = .returned (.bool (decide (z = y))) ∧ Below w.heap.size w w' := by
  have HE := Lib.hid (equal_any vz vy (nats z) (nats y) w hz hy)
  rw [eqB_nats] at HE
  obtain ⟨za, zc, rfl, _, _, _⟩ := Nats.open hz
  obtain ⟨ya, yc, rfl, _, _, _⟩ := Nats.open hy
  clear hz hy
  generalize decide (z = y) = d at *
  go_enter Try.func64, Try.ntmps64
  go_wp2_with fail
  refine HE.out.mono ?_
  rintro e w1 ⟨rfl, hb1⟩
  have HB1 := Lib.hid hb1
  clear hb1
  go_wp2_with fail
  go_ret
  exact ⟨rfl, HB1.out⟩

set_option maxHeartbeats 1000000 in
theorem idx_any (bc r : Nat) (v vy : Value) (L : List (List Nat)) (y : List Nat) (w : World) (h : NatRows w v L) (hy : Nats w vy y) (hb : w.cell? ⟨bc, 0, none⟩ = some vy)
    (hr : r ≤ L.length) (hne : ∀ i, i < r → L.getD i [] ≠ y) (he : r < L.length → L.getD r [] = y) (hl : L.length ≤ 100000) :
    Calls Try.prog 63 #[v, .func (.func 64) #[] #[.pointer (some ⟨bc, 0, none⟩)]] w fun e w' => e = .returned (.int .i64 (if r < L.length then (r : Int) else -1)) ∧ Below w.heap.size w w' := by
  obtain ⟨ao, cap, rfl, h1, h2, hx⟩ := h.open
  have HX := Lib.hid hx
  have HY := Lib.hid hy
  have HBC := Lib.hid hb
  have HN := Lib.hid hne
  have HE := Lib.hid he
  obtain ⟨R, hR⟩ : ∃ R : Int, R = if r < L.length then (r : Int) else -1 := ⟨_, rfl⟩
  rw [← hR]
  have HR := Lib.hid hR
  clear h hx hy hb hne he hR
  go_enter Try.func63, Try.ntmps63
  go_wp2_with fail
  go_loopw [8] (fun i wr => ∃ k : Nat, k ≤ r ∧ i = .int .i64 k ∧ Below w.heap.size w wr) (fun i _ => r + 1 - (intOf i).toNat)
  case atStart => exact ⟨0, Nat.zero_le _, rfl, Below.refl _ _⟩
  case round =>
    obtain ⟨k, hk, rfl, hb⟩ := hrel
    have HB := Lib.hid hb
    clear hb
    by_cases hlt : k < L.length
    · obtain ⟨l, hkl⟩ : ∃ l, L[k]? = some l := ⟨L[k], by simp [hlt]⟩
      have hD : L.getD k [] = l := by rw [List.getD_eq_getElem?_getD, hkl]; rfl
      obtain ⟨pb, po, u, rfl, h1c, hu⟩ := HX.out k l hkl
      have hc1 := ck h1c HB.out
      have HCL := Lib.hid (clos_any bc u _ l y wr (Ints.below hu HB.out (Nat.le_refl _)) (Ints.below HY.out HB.out (Nat.le_refl _)) (ck HBC.out HB.out))
      obtain ⟨ua, uc, rfl, _, _, _⟩ := Nats.open hu
      clear hu hkl h1c
      by_cases hkr : k = r
      · subst hkr
        have hd := decide_eq_true (by rw [← hD]; exact HE.out hlt : l = y)
        rw [hd] at HCL
        have HRr : Hid (R = (k : Nat)) := Lib.hid (by rw [HR.out, if_pos hlt])
        clear HR hd hD
        go_wp2_with fail
        refine HCL.out.mono ?_
        rintro e w1 ⟨rfl, hb1⟩
        have HB1 : Hid (Below w.heap.size w w1) := Lib.hid (HB.out.trans (hb1.mono HB.out.size))
        clear hb1
        go_wp2_with fail
        go_ret
        exact ⟨ret_int HRr.out.symm, HB1.out⟩
      · have hd : decide (l = y) = false := decide_eq_false fun e => HN.out k (by omega) (by rw [hD]; exact e)
        rw [hd] at HCL
        clear hd hD
        go_wp2_with fail
        refine HCL.out.mono ?_
        rintro e w1 ⟨rfl, hb1⟩
        have HB1 : Hid (Below w.heap.size w w1) := Lib.hid (HB.out.trans (hb1.mono HB.out.size))
        clear hb1
        go_wp2_with fail
        go_roundw
        case rel => exact ⟨k + 1, by omega, by go_num, HB1.out⟩
        case measure => simp [intOf]; omega
    · have hkr : k = L.length := by omega
      have HRr : Hid (R = -1) := Lib.hid (by rw [HR.out, if_neg (by omega)])
      have hnl : ¬ (k : Int) < (L.length : Int) := by omega
      clear hkr HR
      go_wp2_with fail
      go_ret
      exact ⟨ret_int HRr.out.symm, HB.out⟩
end Go.Proofs.Ytlnbodpdgebflaa
