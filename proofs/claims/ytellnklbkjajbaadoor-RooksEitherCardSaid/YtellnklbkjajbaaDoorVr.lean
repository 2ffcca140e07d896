/- the reference's Avoid -/
import Derived.Test.YtellnklbkjajbaaDoorPh
import Derived.Test.YtellnklbkjajbaaDoorVa
import Derived.Test.YtellnklbkjajbaaDoorHz
namespace Go.Proofs.YtellnklbkjajbaaDoor
open Go.RowKit

theorem filter_hit {l : List (List Nat)} {q : List Nat → Bool} {k : Nat} {p : List Nat} (h0 : ∀ x ∈ l.take k, q x = false) (hk : l[k]? = some p) (hp : q p = true) : l.filter q = p :: (l.drop (k + 1)).filter q := by
  obtain ⟨hlt, e⟩ := List.getElem?_eq_some_iff.1 hk
  have e1 : l = l.take k ++ p :: l.drop (k + 1) := by
    rw [← e, ← List.drop_eq_getElem_cons hlt, List.take_append_drop]
  have e2 : (l.take k).filter q = [] := List.filter_eq_nil_iff.2 fun x hx => by rw [h0 x hx]; simp
  have e3 : (l.take k ++ p :: l.drop (k + 1)).filter q = p :: (l.drop (k + 1)).filter q := by rw [List.filter_append, e2, List.filter_cons, if_pos hp, List.nil_append]
  rw [← e1] at e3
  exact e3

set_option maxHeartbeats 1000000 in
theorem rAvoid_any (v : Value) (bs : List Nat) (n : Nat) (w : World) (hb : Brd n bs) (h : Nats w v bs) :
    Calls Tryd.prog 25 #[v] w fun e w' => AvPost n bs e w' ∧ Below w.heap.size w w' := by
  have h0 := h
  obtain ⟨ao, cap, rfl, h1, _, _⟩ := h.open
  have hl := hb.len
  have hn6 := hb.le
  rw [hl] at h1 h0 ⊢
  have HC := Lib.hid (rperms_any n w hn6)
  have hps := allP_le hn6
  have HPos : Hid (0 < (allP n).length) := Lib.hid (by
    rw [allP_comps, comps_len (2 ^ n - 1) (by have := pw6 n hn6; omega) n 0 (by
      have : sub (2 ^ n - 1) 0 = 2 ^ n - 1 := Nat.eq_of_testBit_eq fun j => by rw [sub_bit]; simp
      rw [this, fl_full n hn6])]
    exact fac_pos n)
  have HF : Hid (freeL n bs = (allP n).filter fun p => hitK bs p n == 0) := freeL_filter hb
  have HNs := Lib.hid h0
  clear h h0
  go_enter Tryd.func25, Tryd.ntmps25
  go_wp2_with fail
  refine HC.out.mono ?_
  rintro e w2 ⟨v2, vals, rfl, hO, hP, hb2⟩
  obtain ⟨g2, c2, rfl⟩ := owns_lit hO (by rw [hP.length]; exact HPos.out)
  have hvl : vals.length = (allP n).length := hP.length
  have hAll : ∀ p ∈ allP n, p.length = n ∧ ∀ j ∈ p, j < n := fun p hp => by
    rw [allP_comps] at hp
    exact ⟨comps_length _ _ _ _ hp, fun j hj => by
      have := comps_bit _ _ _ _ hp j hj
      rw [Nat.testBit_two_pow_sub_one] at this
      exact of_decide_eq_true this⟩
  have HAll := Lib.hid hAll
  have HB2 := Lib.hid hb2
  have HO := Lib.hid hO
  have HPV := Lib.hid hP
  have HL := Lib.hid hl
  have HBd := Lib.hid hb
  clear hO hP hb2 HC hAll HPos hb
  generalize allP n = ps at *
  go_wp2_with fail
  go_loop [10] (fun ii => ∃ k : Nat, k ≤ ps.length ∧ ii = .int .i64 k ∧ ∀ x ∈ ps.take k, (hitK bs x n == 0) = false) (fun ii => ps.length - (intOf ii).toNat)
  case atStart => exact ⟨0, Nat.zero_le _, rfl, by simp⟩
  case round =>
    obtain ⟨k, hk, rfl, hz⟩ := hrel
    by_cases hlt : k < ps.length
    · obtain ⟨x, hx⟩ : ∃ x, vals[k]? = some x := ⟨vals[k]'(by omega), List.getElem?_eq_getElem (by omega)⟩
      obtain ⟨p, hp, hBg⟩ := PV.get HPV.out hx
      have hcx : w2.cell? ⟨g2, k, none⟩ = some x := by rw [World.ownsRow.cellAt HO.out k (by omega), hx]
      obtain ⟨hpl, hpj⟩ := HAll.out p (List.mem_of_getElem? hp)
      have hNp := Bg.ints hBg (by omega) (fun j hj => by have := hpj j hj; omega)
      have HC := Lib.hid (rhits_any _ x bs p n w2 HBd.out (HNs.out.below HB2.out (Nat.le_refl _)) hNp hpl (fun j hj => by have := hpj j hj; omega))
      obtain ⟨ao1, c1, rfl⟩ := owns_form hBg
      cases hh : (hitK bs p n == 0) with
      | true =>
        have HR : Hid (∃ qs, freeL n bs = p :: qs) := Lib.hid ⟨_, by rw [HF.out]; exact filter_hit hz hp hh⟩
        have hh0 : hitK bs p n = 0 := by simpa using hh
        rw [hh0] at HC
        have HNp := Lib.hid hNp
        clear hBg hNp hpj hx hp hz hh hh0
        go_wp2_with fail
        refine HC.out.mono ?_
        rintro e w' ⟨rfl, rfl⟩
        go_wp2_with fail
        go_ret2
        obtain ⟨qs, hq⟩ := HR.out
        exact ⟨.inr ⟨p, qs, _, hq, rfl, HNp.out⟩, HB2.out⟩
      | false =>
        have hhi : (((hitK bs p n : Nat) : Int) == 0) = false := by
          have : hitK bs p n ≠ 0 := by simpa using hh
          simpa using this
        have HZ : Hid (∀ x ∈ ps.take (k + 1), (hitK bs x n == 0) = false) := Lib.hid fun y hy => by
          rw [List.take_add_one, hp, List.mem_append] at hy
          rcases hy with hy | hy
          · exact hz y hy
          · simp at hy; subst hy; exact hh
        clear hBg hNp hpj hx hp hz hh
        generalize hitK bs p n = m at *
        go_wp2_with fail
        refine HC.out.mono ?_
        rintro e w' ⟨rfl, rfl⟩
        go_wp2_with fail
        go_round
        case rel => exact ⟨k + 1, by omega, by go_num, HZ.out⟩
        case measure => simp [intOf]; omega
    · obtain rfl : k = ps.length := by omega
      have HR : Hid (freeL n bs = []) := Lib.hid (by
        rw [HF.out, List.filter_eq_nil_iff]
        intro x hx
        rw [List.take_length] at hz
        rw [hz x hx]; simp)
      clear hz
      go_wp2_with fail
      go_ret2
      exact ⟨.inl ⟨HR.out, rfl⟩, HB2.out⟩
end Go.Proofs.YtellnklbkjajbaaDoor
