/- test -/
import Derived.Test.YtpblbolflnjjnaaRows
import Derived.Test.YtpblbolflnjjnaaLib
namespace Go.Proofs.Ytpblbolflnjjnaa
open Go.RowKit

set_option maxHeartbeats 400000 in
theorem boxes_any (v : Value) (zs : List Int) (w : World) (h : Ints w v zs) (hr : ∀ x ∈ zs, 0 ≤ x ∧ x ≤ 8) :
    Calls Try.prog 77 #[v] w fun e w' => e = .returned (.int .i64 (isum zs)) ∧ w = w' := by
  obtain ⟨ao, cap, rfl, h1, h2, hc⟩ := h.open
  clear h
  go_enter Try.func77, Try.ntmps77
  go_wp2
  go_loop [3, 8] (fun n i => ∃ k : Nat, k ≤ zs.length ∧ i = .int .i64 k ∧ n = .int .i64 (isum (zs.take k))) (fun _ i => zs.length - (intOf i).toNat)
  case atStart => exact ⟨0, Nat.zero_le _, rfl, rfl⟩
  case round =>
    obtain ⟨k, hk, rfl, rfl⟩ := hrel
    by_cases hlt : k < zs.length
    · obtain ⟨b, o, rfl, hck⟩ := hc k hlt
      clear hc
      have hb1 := isum_bd (zs.take k) (fun x hx => hr x (List.mem_of_mem_take hx))
      have hb2 : (zs.take k).length ≤ k := List.length_take_le _ _
      have hb3 := hr _ (getD_mem hlt)
      have HS : Hid (isum (zs.take (k+1)) = isum (zs.take k) + zs.getD k 0) := by
        rw [take_snoc zs k hlt, isum_snoc]; rfl
      generalize isum (zs.take k) = s at *
      generalize zs.getD k 0 = z at *
      go_wp2
      go_round
      case rel => exact ⟨k + 1, by omega, by go_num, by rw [HS.out]⟩
      case measure => simp [intOf]; omega
    · obtain rfl : k = zs.length := by omega
      go_wp2
      go_ret
      exact ⟨by simp, rfl⟩

theorem shape_no_elem {l : List Int} {k : Nat} (hk : k < l.length) (h : ¬ (1 ≤ l.getD k 0 ∧ l.getD k 0 ≤ 8 ∧ (0 < k → l.getD k 0 ≤ l.getD (k-1) 0))) : shB l = false :=
  decide_eq_false fun hs => h (hs.2.1 k hk)

set_option maxHeartbeats 400000 in
theorem isShape_any (v : Value) (zs : List Int) (w : World) (h : Ints w v zs) :
    Calls Try.prog 72 #[v] w fun e w' => e = .returned (.bool (shB zs)) ∧ w = w' := by
  have h0 := h
  obtain ⟨ao, cap, rfl, h1, h2, hc⟩ := h.open
  clear h
  by_cases hlen : zs.length ≤ 8
  · have hd : decide ((zs.length : Int) > 8) = false := by simp; omega
    go_enter Try.func72, Try.ntmps72
    go_wp2
    go_loop [10] (fun i => ∃ k : Nat, k ≤ zs.length ∧ i = .int .i64 k ∧ ∀ j, j < k → 1 ≤ zs.getD j 0 ∧ zs.getD j 0 ≤ 8 ∧ (0 < j → zs.getD j 0 ≤ zs.getD (j-1) 0)) (fun i => zs.length - (intOf i).toNat)
    case atStart => exact ⟨0, Nat.zero_le _, rfl, fun j hj => absurd hj (by omega)⟩
    case round =>
      obtain ⟨k, hk, rfl, hall⟩ := hrel
      by_cases hlt : k < zs.length
      · obtain ⟨b, o, rfl, hck⟩ := hc k hlt
        have hpr : 0 < k → w.cell? ⟨b, o + (k - 1), none⟩ = some (.int .i64 (zs.getD (k-1) 0)) := fun h => by
          obtain ⟨b', o', e, hc'⟩ := hc (k-1) (by omega)
          obtain ⟨rfl, rfl⟩ : b = b' ∧ o = o' := by simpa using e
          exact hc'
        clear hc
        have HF : Hid (∀ hbad : ¬ (1 ≤ zs.getD k 0 ∧ zs.getD k 0 ≤ 8 ∧ (0 < k → zs.getD k 0 ≤ zs.getD (k-1) 0)), shB zs = false) := fun hbad => shape_no_elem hlt hbad
        have HA : Hid (∀ j, j < k → 1 ≤ zs.getD j 0 ∧ zs.getD j 0 ≤ 8 ∧ (0 < j → zs.getD j 0 ≤ zs.getD (j-1) 0)) := hall
        clear hall
        have HZ : Hid (∀ hgood : (1 ≤ zs.getD k 0 ∧ zs.getD k 0 ≤ 8 ∧ (0 < k → zs.getD k 0 ≤ zs.getD (k-1) 0)), ∀ j, j < k+1 → 1 ≤ zs.getD j 0 ∧ zs.getD j 0 ≤ 8 ∧ (0 < j → zs.getD j 0 ≤ zs.getD (j-1) 0)) := by
          intro hg j hj
          by_cases e : j = k
          · subst e; exact hg
          · exact HA.out j (by omega)
        have hidx : 0 < k → ((k : Int) - 1).toNat = k - 1 := by omega
        generalize zs.getD k 0 = z at *
        generalize zs.getD (k-1) 0 = y at *
        rcases Nat.eq_zero_or_pos k with rfl | hpos
        · clear hpr hidx
          simp only [Nat.add_zero] at hck
          go_wp2
          all_goals first
            | (go_ret; exact ⟨ret_bool (HF.out (by omega)).symm, rfl⟩)
            | (go_round
               case rel => exact ⟨0 + 1, by omega, by go_num, HZ.out ⟨by omega, by omega, by omega⟩⟩
               case measure => simp [intOf]; omega)
        · have hpr := hpr hpos
          have hidx := hidx hpos
          go_wp2
          all_goals first
            | (go_ret; exact ⟨ret_bool (HF.out (by omega)).symm, rfl⟩)
            | (go_round
               case rel => exact ⟨k + 1, by omega, by go_num, HZ.out ⟨by omega, by omega, by omega⟩⟩
               case measure => simp [intOf]; omega)
      · obtain rfl : k = zs.length := by omega
        clear hc
        have hm : ∀ x ∈ zs, 0 ≤ x ∧ x ≤ 8 := fun x hx => by
          obtain ⟨j, hj, rfl⟩ := mem_getD hx
          have := hall j hj
          omega
        have HS : Hid (shB zs = decide (isum zs ≤ 8)) := by
          show decide _ = decide _
          by_cases e : isum zs ≤ 8
          · simp only [e, decide_true, decide_eq_true_eq]; exact ⟨hlen, hall, e⟩
          · simp only [e, decide_false, decide_eq_false_iff_not]; exact fun h => e h.2.2
        clear hall
        go_wp2_with (go_at_call 77; refine (boxes_any _ zs _ h0 hm).mono ?_; rintro e w' ⟨rfl, rfl⟩)
        go_ret
        exact ⟨ret_bool HS.out.symm, rfl⟩
  · have hF : shB zs = false := decide_eq_false fun h => hlen h.1
    have HF : Hid (shB zs = false) := hF
    clear hF hc
    go_enter Try.func72, Try.ntmps72
    go_wp2
    go_ret
    exact ⟨ret_bool HF.out.symm, rfl⟩
end Go.Proofs.Ytpblbolflnjjnaa
