/- the reference's Content -/
import Derived.Test.YtpblbolflnjjnaaRb
namespace Go.Proofs.Ytpblbolflnjjnaa
open Go.RowKit

set_option maxHeartbeats 400000 in
theorem rContent_any (v : Value) (zs : List Int) (w : World) (h : Ints w v zs) :
    Calls Try.prog 23 #[v] w fun e w' => e = .returned (.bool (coB zs)) ∧ w = w' := by
  obtain ⟨ao, cap, rfl, h1, h2, hc⟩ := h.open
  clear h
  by_cases hlen : zs.length ≤ 8
  · go_enter Try.func23, Try.ntmps23
    go_wp2
    go_loop [3, 11] (fun n i => ∃ k : Nat, k ≤ zs.length ∧ i = .int .i64 k ∧ n = .int .i64 (isum (zs.take k)) ∧ ∀ j, j < k → 0 ≤ zs.getD j 0 ∧ zs.getD j 0 ≤ 8) (fun _ i => zs.length - (intOf i).toNat)
    case atStart => exact ⟨0, Nat.zero_le _, rfl, rfl, fun j hj => absurd hj (by omega)⟩
    case round =>
      obtain ⟨k, hk, rfl, rfl, hall⟩ := hrel
      have hs0 := (isum_bd (zs.take k) (fun x hx => by
        obtain ⟨j, hj, rfl⟩ := mem_getD hx
        have hj' : j < k := by have := List.length_take_le k zs; omega
        have := hall j hj'
        have e : (zs.take k).getD j 0 = zs.getD j 0 := by simp [List.getD, hj']
        rw [e]; omega))
      have hb2 : (zs.take k).length ≤ k := List.length_take_le _ _
      by_cases hlt : k < zs.length
      · obtain ⟨b, o, rfl, hck⟩ := hc k hlt
        clear hc
        have HF : Hid (∀ hbad : ¬ (0 ≤ zs.getD k 0 ∧ zs.getD k 0 ≤ 8), coB zs = false) := fun hbad => decide_eq_false fun hs => hbad (hs.2.1 k hlt)
        have HZ : Hid (∀ hgood : (0 ≤ zs.getD k 0 ∧ zs.getD k 0 ≤ 8), ∀ j, j < k+1 → 0 ≤ zs.getD j 0 ∧ zs.getD j 0 ≤ 8) := by
          intro hg j hj
          by_cases e : j = k
          · subst e; exact hg
          · exact hall j (by omega)
        have HS : Hid (isum (zs.take (k+1)) = isum (zs.take k) + zs.getD k 0) := by rw [take_snoc zs k hlt, isum_snoc]; rfl
        clear hall
        generalize isum (zs.take k) = s at *
        generalize zs.getD k 0 = z at *
        go_wp2
        all_goals first
          | (go_ret; exact ⟨ret_bool (HF.out (by omega)).symm, rfl⟩)
          | (go_round
             case rel => exact ⟨k + 1, by omega, by go_num, by rw [HS.out], HZ.out ⟨by omega, by omega⟩⟩
             case measure => simp [intOf]; omega)
      · obtain rfl : k = zs.length := by omega
        clear hc
        rw [List.take_length] at *
        have HS : Hid (coB zs = decide (isum zs ≤ 8)) := by
          show decide _ = decide _
          by_cases e : isum zs ≤ 8
          · simp only [e, decide_true, decide_eq_true_eq]; exact ⟨hlen, hall, e⟩
          · simp only [e, decide_false, decide_eq_false_iff_not]; exact fun h => e h.2.2
        clear hall
        go_wp2
        go_ret
        exact ⟨ret_bool HS.out.symm, rfl⟩
  · have HF : Hid (coB zs = false) := decide_eq_false fun h => hlen h.1
    clear hc
    go_enter Try.func23, Try.ntmps23
    go_wp2
    go_ret
    exact ⟨ret_bool HF.out.symm, rfl⟩
end Go.Proofs.Ytpblbolflnjjnaa
