/- test -/
import Derived.Test.YtpblbolflnjjnaaWa
namespace Go.Proofs.Ytpblbolflnjjnaa
open Go.RowKit

set_option maxHeartbeats 400000 in
theorem part_any (v : Value) (zs : List Int) (i : Nat) (w : World) (h : Ints w v zs) :
    Calls Try.prog 105 #[v, .int .i64 i] w fun e w' => e = .returned (.int .i64 (zs.getD i 0)) ∧ w = w' := by
  obtain ⟨ao, cap, rfl, h1, h2, hc⟩ := h.open
  clear h
  by_cases hlt : i < zs.length
  · obtain ⟨b, o, rfl, hck⟩ := hc i hlt
    clear hc
    generalize zs.getD i 0 = z at *
    go_enter Try.func105, Try.ntmps105
    go_wp2
    go_ret
    exact ⟨rfl, rfl⟩
  · have e : zs.getD i 0 = 0 := getD_over (by omega)
    rw [e]
    clear hc e
    go_enter Try.func105, Try.ntmps105
    go_wp2
    go_ret
    exact ⟨rfl, rfl⟩

set_option maxHeartbeats 400000 in
theorem at_any (v : Value) (xss : List (List Int)) (i j : Int) (w : World) (h : IntRows w v xss) (hi : -9223372036854775808 ≤ i) (hj : -9223372036854775808 ≤ j) :
    Calls Try.prog 95 #[v, .int .i64 i, .int .i64 j] w fun e w' => e = .returned (.int .i64 (atS xss i j)) ∧ w = w' := by
  obtain ⟨ao, cap, rfl, h1, h2, hc⟩ := h.open
  clear h
  by_cases c1 : i < 0
  · have e : atS xss i j = 0 := if_neg (by omega)
    rw [e]
    clear hc e
    go_enter Try.func95, Try.ntmps95
    go_wp2
    go_ret
    exact ⟨rfl, rfl⟩
  · obtain ⟨i, rfl⟩ := Int.eq_ofNat_of_zero_le (show 0 ≤ i by omega)
    by_cases c2 : i < xss.length
    · by_cases c3 : j < 0
      · have e : atS xss i j = 0 := if_neg (by omega)
        rw [e]
        clear hc e
        go_enter Try.func95, Try.ntmps95
        go_wp2
        go_ret
        exact ⟨rfl, rfl⟩
      · obtain ⟨j, rfl⟩ := Int.eq_ofNat_of_zero_le (show 0 ≤ j by omega)
        obtain ⟨b, o, u, rfl, hck, hu⟩ := hc i (xss[i]) (by simp [c2])
        obtain ⟨ao', cap', rfl, h1', h2', hc'⟩ := hu.open
        clear hc hu
        by_cases c4 : j < (xss[i]).length
        · obtain ⟨b', o', rfl, hck'⟩ := hc' j c4
          have e : atS xss i j = (xss[i]).getD j 0 := by simp [atS, c2]
          rw [e]
          clear hc' e
          generalize (xss[i]).getD j 0 = z at *
          generalize (xss[i]).length = n at *
          go_enter Try.func95, Try.ntmps95
          go_wp2
          go_ret
          exact ⟨rfl, rfl⟩
        · have e : atS xss i j = 0 := by simp [atS, c2, show (xss[i]).length ≤ j by omega]
          rw [e]
          clear hc' e
          generalize (xss[i]).length = n at *
          go_enter Try.func95, Try.ntmps95
          go_wp2
          go_ret
          exact ⟨rfl, rfl⟩
    · have e : atS xss i j = 0 := by simp [atS, show xss.length ≤ i by omega]
      rw [e]
      clear hc e
      go_enter Try.func95, Try.ntmps95
      go_wp2
      go_ret
      exact ⟨rfl, rfl⟩

set_option maxHeartbeats 400000 in
theorem least_any (v : Value) (xss : List (List Int)) (i j : Int) (w : World) (h : IntRows w v xss) (hi : 0 ≤ i) (hi' : i ≤ 100) (hj : 0 ≤ j) (hj' : j ≤ 100)
    (hb : ∀ xs ∈ xss, ∀ x ∈ xs, 0 ≤ x ∧ x ≤ 8) :
    Calls Try.prog 107 #[v, .int .i64 i, .int .i64 j] w fun e w' => e = .returned (.int .i64 (leastS xss i j)) ∧ w = w' := by
  have ha : ∀ i j, 0 ≤ atS xss i j ∧ atS xss i j ≤ 8 := by
    intro i j
    unfold atS
    split
    · by_cases c : i.toNat < xss.length
      · by_cases d : j.toNat < (xss.getD i.toNat []).length
        · exact hb _ (show xss.getD i.toNat [] ∈ xss by simp [List.getD, c]) _ (getD_mem d)
        · rw [getD_over (by omega)]; omega
      · rw [getD_over (l := xss) (by omega)]; simp
    · omega
  have h1 := ha i (j-1)
  have h2 := ha (i-1) j
  have HL : Hid (leastS xss i j = max 1 (max (atS xss i (j-1)) (atS xss (i-1) j + 1))) := rfl
  clear ha
  go_enter Try.func107, Try.ntmps107
  go_wp2_with fail
  refine (at_any v xss i (j-1) w h (by omega) (by omega)).mono ?_
  rintro e w' ⟨rfl, rfl⟩
  go_wp2_with fail
  refine (at_any v xss (i-1) j w h (by omega) (by omega)).mono ?_
  rintro e w' ⟨rfl, rfl⟩
  generalize atS xss i (j-1) = a at *
  generalize atS xss (i-1) j = b at *
  go_wp2
  all_goals (go_ret; exact ⟨ret_int (by rw [HL.out]; omega), rfl⟩)

set_option maxHeartbeats 400000 in
theorem isContent_any (v : Value) (zs : List Int) (w : World) (h : Ints w v zs) :
    Calls Try.prog 103 #[v] w fun e w' => e = .returned (.bool (coB zs)) ∧ w = w' := by
  have h0 := h
  obtain ⟨ao, cap, rfl, h1, h2, hc⟩ := h.open
  clear h
  by_cases hlen : zs.length ≤ 8
  · go_enter Try.func103, Try.ntmps103
    go_wp2
    go_loop [10] (fun i => ∃ k : Nat, k ≤ zs.length ∧ i = .int .i64 k ∧ ∀ j, j < k → 0 ≤ zs.getD j 0 ∧ zs.getD j 0 ≤ 8) (fun i => zs.length - (intOf i).toNat)
    case atStart => exact ⟨0, Nat.zero_le _, rfl, fun j hj => absurd hj (by omega)⟩
    case round =>
      obtain ⟨k, hk, rfl, hall⟩ := hrel
      by_cases hlt : k < zs.length
      · obtain ⟨b, o, rfl, hck⟩ := hc k hlt
        clear hc
        have HF : Hid (∀ hbad : ¬ (0 ≤ zs.getD k 0 ∧ zs.getD k 0 ≤ 8), coB zs = false) := fun hbad => decide_eq_false fun hs => hbad (hs.2.1 k hlt)
        have HZ : Hid (∀ hgood : (0 ≤ zs.getD k 0 ∧ zs.getD k 0 ≤ 8), ∀ j, j < k+1 → 0 ≤ zs.getD j 0 ∧ zs.getD j 0 ≤ 8) := by
          intro hg j hj
          by_cases e : j = k
          · subst e; exact hg
          · exact hall j (by omega)
        clear hall
        generalize zs.getD k 0 = z at *
        go_wp2
        all_goals first
          | (go_ret; exact ⟨ret_bool (HF.out (by omega)).symm, rfl⟩)
          | (go_round
             case rel => exact ⟨k + 1, by omega, by go_num, HZ.out ⟨by omega, by omega⟩⟩
             case measure => simp [intOf]; omega)
      · obtain rfl : k = zs.length := by omega
        clear hc
        have hm : ∀ x ∈ zs, 0 ≤ x ∧ x ≤ 8 := fun x hx => by
          obtain ⟨j, hj, rfl⟩ := mem_getD hx
          exact hall j hj
        have HS : Hid (coB zs = decide (isum zs ≤ 8)) := by
          show decide _ = decide _
          by_cases e : isum zs ≤ 8
          · simp only [e, decide_true, decide_eq_true_eq]; exact ⟨hlen, hall, e⟩
          · simp only [e, decide_false, decide_eq_false_iff_not]; exact fun h => e h.2.2
        clear hall
        go_wp2_with (go_at_call 77; refine (boxes_any _ zs _ h0 hm).mono ?_; rintro e w' ⟨rfl, rfl⟩)
        go_ret
        exact ⟨ret_bool HS.out.symm, rfl⟩
  · have HF : Hid (coB zs = false) := decide_eq_false fun h => hlen h.1
    clear hc
    go_enter Try.func103, Try.ntmps103
    go_wp2
    go_ret
    exact ⟨ret_bool HF.out.symm, rfl⟩
end Go.Proofs.Ytpblbolflnjjnaa
