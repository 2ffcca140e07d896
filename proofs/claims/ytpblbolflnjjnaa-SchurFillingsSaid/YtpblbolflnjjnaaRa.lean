/- the reference's Shape, Sum, Conjugate; list -/
import Derived.Test.YtpblbolflnjjnaaWc
namespace Go.Proofs.Ytpblbolflnjjnaa
open Go.RowKit

set_option maxHeartbeats 400000 in
theorem rsum_any (v : Value) (zs : List Int) (w : World) (h : Ints w v zs) (hr : ∀ x ∈ zs, 0 ≤ x ∧ x ≤ 8) :
    Calls Try.prog 33 #[v] w fun e w' => e = .returned (.int .i64 (isum zs)) ∧ w = w' := by
  obtain ⟨ao, cap, rfl, h1, h2, hc⟩ := h.open
  clear h
  go_enter Try.func33, Try.ntmps33
  go_wp2
  go_loop [3, 8] (fun n i => ∃ k : Nat, k ≤ zs.length ∧ i = .int .i64 k ∧ n = .int .i64 (isum (zs.take k))) (fun _ i => zs.length - (intOf i).toNat)
  case atStart => exact ⟨0, Nat.zero_le _, rfl, rfl⟩
  case round =>
    obtain ⟨k, hk, rfl, rfl⟩ := hrel
    by_cases hlt : k < zs.length
    · obtain ⟨b, o, rfl, hck⟩ := hc k hlt
      clear hc
      have hb1 := isum_bd (zs.take k) (fun x hx => hr x (List.mem_of_mem_take hx))
      have hb2 : (zs.take k).length ≤ k := List.length_take_le _ _
      have hb3 := hr _ (getD_mem hlt)
      have HS : Hid (isum (zs.take (k+1)) = isum (zs.take k) + zs.getD k 0) := by
        rw [take_snoc zs k hlt, isum_snoc]; rfl
      generalize isum (zs.take k) = s at *
      generalize zs.getD k 0 = z at *
      go_wp2
      go_round
      case rel => exact ⟨k + 1, by omega, by go_num, by rw [HS.out]⟩
      case measure => simp [intOf]; omega
    · obtain rfl : k = zs.length := by omega
      go_wp2
      go_ret
      exact ⟨by simp, rfl⟩

theorem Shape.bd' {l : List Int} (h : Shape l) : ∀ x ∈ l, 1 ≤ x ∧ x ≤ 8 := fun x hx => by
  obtain ⟨k, hk, rfl⟩ := mem_getD hx
  have := h.2.1 k hk
  omega

theorem len_isum {l : List Int} (h : ∀ x ∈ l, 1 ≤ x) : (l.length : Int) ≤ isum l := by
  induction l with
  | nil => simp [isum]
  | cons a t ih =>
    have h1 := h a (by simp)
    have h2 := ih fun x hx => h x (by simp [hx])
    simp only [isum, List.sum_cons, List.length_cons] at *
    omega

set_option maxHeartbeats 400000 in
theorem rShape_any (v : Value) (zs : List Int) (w : World) (h : Ints w v zs) :
    Calls Try.prog 22 #[v] w fun e w' => e = .returned (.bool (shB zs)) ∧ w = w' := by
  obtain ⟨ao, cap, rfl, h1, h2, hc⟩ := h.open
  clear h
  go_enter Try.func22, Try.ntmps22
  go_wp2
  go_loop [3, 8] (fun n i => ∃ k : Nat, k ≤ zs.length ∧ i = .int .i64 k ∧ n = .int .i64 (isum (zs.take k)) ∧ isum (zs.take k) ≤ 8 ∧ ∀ j, j < k → 1 ≤ zs.getD j 0 ∧ zs.getD j 0 ≤ 8 ∧ (0 < j → zs.getD j 0 ≤ zs.getD (j-1) 0)) (fun _ i => zs.length - (intOf i).toNat)
  case atStart => exact ⟨0, Nat.zero_le _, rfl, rfl, by simp [isum], fun j hj => absurd hj (by omega)⟩
  case round =>
    obtain ⟨k, hk, rfl, rfl, hs8, hall⟩ := hrel
    by_cases hlt : k < zs.length
    · obtain ⟨b, o, rfl, hck⟩ := hc k hlt
      have hpr : 0 < k → w.cell? ⟨b, o + (k - 1), none⟩ = some (.int .i64 (zs.getD (k-1) 0)) := fun h => by
        obtain ⟨b', o', e, hc'⟩ := hc (k-1) (by omega)
        obtain ⟨rfl, rfl⟩ : b = b' ∧ o = o' := by simpa using e
        exact hc'
      clear hc
      have HF : Hid (∀ hbad : ¬ (1 ≤ zs.getD k 0 ∧ zs.getD k 0 ≤ 8 ∧ (0 < k → zs.getD k 0 ≤ zs.getD (k-1) 0)), shB zs = false) := fun hbad => shape_no_elem hlt hbad
      have HZ : Hid (∀ hgood : (1 ≤ zs.getD k 0 ∧ zs.getD k 0 ≤ 8 ∧ (0 < k → zs.getD k 0 ≤ zs.getD (k-1) 0)), ∀ j, j < k+1 → 1 ≤ zs.getD j 0 ∧ zs.getD j 0 ≤ 8 ∧ (0 < j → zs.getD j 0 ≤ zs.getD (j-1) 0)) := by
        intro hg j hj
        by_cases e : j = k
        · subst e; exact hg
        · exact hall j (by omega)
      have hidx : 0 < k → ((k : Int) - 1).toNat = k - 1 := by omega
      have hs0 := (isum_bd (zs.take k) (fun x hx => by
        obtain ⟨j, hj, rfl⟩ := mem_getD hx
        have hj' : j < k := by have := List.length_take_le k zs; omega
        have := hall j hj'
        have e : (zs.take k).getD j 0 = zs.getD j 0 := by simp [List.getD, hj']
        rw [e]; omega)).1
      have HS : Hid (isum (zs.take (k+1)) = isum (zs.take k) + zs.getD k 0) := by rw [take_snoc zs k hlt, isum_snoc]; rfl
      have HO : Hid (8 < isum (zs.take (k+1)) → shB zs = false) := fun h8 => by
        refine decide_eq_false fun hsh => ?_
        have h3 := hsh.2.2
        have : isum zs = isum (zs.take (k+1)) + isum (zs.drop (k+1)) := by
          simp only [isum]; rw [← List.sum_append, List.take_append_drop]
        have hd := (isum_bd (zs.drop (k+1)) (fun x hx => by
          have := (Shape.bd' hsh) x (List.mem_of_mem_drop hx)
          omega)).1
        omega
      clear hall
      rw [HS.out] at HO
      generalize isum (zs.take k) = s at *
      generalize zs.getD k 0 = z at *
      generalize zs.getD (k-1) 0 = y at *
      rcases Nat.eq_zero_or_pos k with rfl | hpos
      · clear hpr hidx
        simp only [Nat.add_zero] at hck
        go_wp2
        all_goals first
          | (go_ret; exact ⟨ret_bool (HF.out (by omega)).symm, rfl⟩)
          | (go_ret; exact ⟨ret_bool (HO.out (by omega)).symm, rfl⟩)
          | (go_round
             case rel => exact ⟨0 + 1, by omega, by go_num, by rw [HS.out], by rw [HS.out]; omega, HZ.out ⟨by omega, by omega, by omega⟩⟩
             case measure => simp [intOf]; omega)
      · have hpr := hpr hpos
        have hidx := hidx hpos
        go_wp2
        all_goals first
          | (go_ret; exact ⟨ret_bool (HF.out (by omega)).symm, rfl⟩)
          | (go_ret; exact ⟨ret_bool (HO.out (by omega)).symm, rfl⟩)
          | (go_round
             case rel => exact ⟨k + 1, by omega, by go_num, by rw [HS.out], by rw [HS.out]; omega, HZ.out ⟨by omega, by omega, by omega⟩⟩
             case measure => simp [intOf]; omega)
    · obtain rfl : k = zs.length := by omega
      have hlen : zs.length ≤ 8 := by
        have h : (zs.length : Int) ≤ isum zs := len_isum fun x hx => by
          obtain ⟨j, hj, rfl⟩ := mem_getD hx
          exact (hall j hj).1
        simp at hs8; omega
      have HS : Hid (shB zs = true) := decide_eq_true ⟨hlen, hall, by simpa using hs8⟩
      clear hc hall
      go_wp2
      go_ret
      exact ⟨ret_bool HS.out.symm, rfl⟩
end Go.Proofs.Ytpblbolflnjjnaa
