/- boards: isSize, below, isBoard, the reference's Board -/
import Derived.Test.YtellnklbkjajbaaDoorBi
namespace Go.Proofs.YtellnklbkjajbaaDoor
open Go.RowKit

def rowB (x : Int) (n : Nat) : Bool := decide (0 ≤ x ∧ x < 2 ^ n)
def boardB (xs : List Int) : Bool := decide (1 ≤ xs.length ∧ xs.length ≤ 6 ∧ ∀ x ∈ xs, 0 ≤ x ∧ x < 2 ^ xs.length)
theorem boardB_bad {xs : List Int} {k : Nat} (hk : k < xs.length) (h : rowB (xs.getD k 0) xs.length = false) : boardB xs = false :=
  decide_eq_false fun ⟨_, _, h3⟩ => by have := h3 _ (getD_mem hk); rw [rowB, decide_eq_false_iff_not] at h; exact h this
theorem boardB_good {xs : List Int} (h1 : 1 ≤ xs.length) (h2 : xs.length ≤ 6) (h : ∀ j, j < xs.length → rowB (xs.getD j 0) xs.length = true) : boardB xs = true :=
  decide_eq_true ⟨h1, h2, fun x hx => by obtain ⟨k, hk, rfl⟩ := mem_getD hx; exact of_decide_eq_true (h k hk)⟩
theorem boardB_len {xs : List Int} (h : xs.length < 1 ∨ 6 < xs.length) : boardB xs = false := decide_eq_false fun ⟨a, b, _⟩ => by omega
theorem boardB_take (xs : List Int) : boardB (xs.take 9) = boardB xs := by
  by_cases h : xs.length ≤ 9
  · rw [List.take_of_length_le h]
  · rw [boardB_len (.inr (by rw [List.length_take]; omega)), boardB_len (.inr (by omega))]
/-- The rows of a board, as sets. -/
structure Brd (n : Nat) (bs : List Nat) : Prop where
  len : bs.length = n
  pos : 1 ≤ n
  le : n ≤ 6
  lt : ∀ x ∈ bs, x < 2 ^ n
theorem boardB_of {xs : List Int} (h : boardB xs = true) : ∃ bs, xs = nats bs ∧ Brd xs.length bs := by
  obtain ⟨h1, h2, h3⟩ := of_decide_eq_true h
  refine ⟨xs.map Int.toNat, ?_, by simp, h1, h2, fun x hx => ?_⟩
  · simp only [nats, List.map_map]
    refine (List.map_id xs).symm.trans (List.map_congr_left fun x hx => ?_)
    have := h3 x hx
    simp; omega
  · obtain ⟨y, hy, rfl⟩ := List.mem_map.1 hx
    have := h3 y hy
    rw [← pw_cast] at this
    omega
theorem boardB_mk {n : Nat} {bs : List Nat} (h : Brd n bs) : boardB (nats bs) = true := by
  refine decide_eq_true ⟨by rw [nats_length, h.len]; exact h.pos, by rw [nats_length, h.len]; exact h.le, fun x hx => ?_⟩
  obtain ⟨y, hy, rfl⟩ := List.mem_map.1 hx
  have := h.lt y hy
  rw [nats_length, h.len, ← pw_cast]
  omega
theorem Brd.get {n : Nat} {bs : List Nat} (h : Brd n bs) (k : Nat) : bs.getD k 0 < 2 ^ n := by
  by_cases hk : k < bs.length
  · exact h.lt _ (natD_mem hk)
  · have : bs.getD k 0 = 0 := by simp [show bs.length ≤ k by omega]
    rw [this]; exact Nat.two_pow_pos n
theorem pw6 (n : Nat) (h : n ≤ 6) : 1 ≤ 2 ^ n ∧ 2 ^ n ≤ 64 := ⟨Nat.two_pow_pos n, Nat.pow_le_pow_right (by decide) h⟩

def sizeB (n : Int) : Bool := decide (1 ≤ n ∧ n ≤ 6)
theorem isSize_any (n : Int) (w : World) : Calls Tryd.prog 76 #[.int .i64 n] w fun e w' => e = .returned (.bool (sizeB n)) ∧ w = w' := by
  by_cases h1 : 1 ≤ n
  · by_cases h2 : n ≤ 6
    · have HE : Hid (sizeB n = true) := decide_eq_true ⟨h1, h2⟩
      go_enter Tryd.func76, Tryd.ntmps76
      go_wp2
      go_ret
      exact ⟨ret_bool (by rw [HE.out]), rfl⟩
    · have HE : Hid (sizeB n = false) := decide_eq_false fun h => h2 h.2
      go_enter Tryd.func76, Tryd.ntmps76
      go_wp2
      go_ret
      exact ⟨ret_bool (by rw [HE.out]), rfl⟩
  · have HE : Hid (sizeB n = false) := decide_eq_false fun h => h1 h.1
    go_enter Tryd.func76, Tryd.ntmps76
    go_wp2
    go_ret
    exact ⟨ret_bool (by rw [HE.out]), rfl⟩

theorem below_any (n : Nat) (w : World) (hn : n ≤ 16) : Calls Tryd.prog 58 #[.int .i64 n] w fun e w' => e = .returned (.int .i64 ((2:Int) ^ n - 1)) ∧ w = w' := by
  have h := pw_bd n hn
  have hw := wrap_pw n hn
  have hw2 : wrap64 ((2:Int) ^ n - 1) = (2:Int) ^ n - 1 := wrap_in (by omega) (by omega)
  go_enter Tryd.func58, Tryd.ntmps58
  go_wp2
  go_ret
  exact ⟨rfl, rfl⟩

set_option maxHeartbeats 1000000 in
theorem isBoard_any (v : Value) (xs : List Int) (w : World) (h : Ints w v xs) :
    Calls Tryd.prog 50 #[v] w fun e w' => e = .returned (.bool (boardB xs)) ∧ w = w' := by
  obtain ⟨ao, cap, rfl, h1, h2, hx⟩ := h.open
  have HX := Lib.hid hx
  clear h hx
  have HZ := Lib.hid (isSize_any (xs.length : Int) w)
  by_cases hs : 1 ≤ xs.length ∧ xs.length ≤ 6
  · have e : sizeB (xs.length : Int) = true := decide_eq_true (by omega)
    rw [e] at HZ
    clear e
    obtain ⟨hs1, hs2⟩ := hs
    go_enter Tryd.func50, Tryd.ntmps50
    go_wp2_with fail
    refine HZ.out.mono ?_
    rintro e w' ⟨rfl, rfl⟩
    go_wp2_with fail
    go_loop [11] (fun i => ∃ k : Nat, k ≤ xs.length ∧ i = .int .i64 k ∧ (∀ j : Nat, j < k → rowB (xs.getD j 0) xs.length = true)) (fun i => xs.length - (intOf i).toNat)
    case atStart => exact ⟨0, Nat.zero_le _, rfl, fun j hj => absurd hj (by omega)⟩
    case round =>
      obtain ⟨k, hk, rfl, ha⟩ := hrel
      have HA := Lib.hid ha
      clear ha
      by_cases hlt : k < xs.length
      · obtain ⟨b, o, rfl, hck⟩ := HX.out k hlt
        have HC := Lib.hid (below_any xs.length w (by omega))
        have HB := Lib.hid (boardB_bad (k := k) hlt)
        have HN := Lib.hid (fun (hr : rowB (xs.getD k 0) xs.length = true) (j : Nat) (hj : j < k + 1) => if e : j = k then e ▸ hr else HA.out j (by omega))
        have HR : Hid (rowB (xs.getD k 0) xs.length = decide (0 ≤ xs.getD k 0 ∧ xs.getD k 0 < 2 ^ xs.length)) := rfl
        have hpw := pw_bd xs.length (by omega)
        generalize xs.getD k 0 = z at *
        by_cases hz : z < 0
        · have HF := Lib.hid (HB.out (by rw [HR.out]; exact decide_eq_false fun h => by omega))
          go_wp2_with fail
          go_ret
          exact ⟨ret_bool HF.out.symm, rfl⟩
        · by_cases hz2 : z < 2 ^ xs.length
          · have HT := Lib.hid (HN.out (by rw [HR.out]; exact decide_eq_true ⟨by omega, hz2⟩))
            have hg : ¬ ((2:Int) ^ xs.length - 1 < z) := by omega
            clear hz2 hpw HR HN HB
            go_wp2_with fail
            refine HC.out.mono ?_
            rintro e w' ⟨rfl, rfl⟩
            go_wp2
            go_round
            case rel => exact ⟨k + 1, by omega, by go_num, HT.out⟩
            case measure => simp [intOf]; omega
          · have HF := Lib.hid (HB.out (by rw [HR.out]; exact decide_eq_false fun h => by omega))
            have hg : ((2:Int) ^ xs.length - 1 < z) := by omega
            clear hz2 hpw HR HN HB
            go_wp2_with fail
            refine HC.out.mono ?_
            rintro e w' ⟨rfl, rfl⟩
            go_wp2
            go_ret
            exact ⟨ret_bool HF.out.symm, rfl⟩
      · obtain rfl : k = xs.length := by omega
        have HB : Hid (boardB xs = true) := boardB_good hs1 hs2 HA.out
        go_wp2
        go_ret
        exact ⟨ret_bool HB.out.symm, rfl⟩
  · have e : sizeB (xs.length : Int) = false := decide_eq_false (by omega)
    rw [e] at HZ
    have HB : Hid (boardB xs = false) := boardB_len (by omega)
    clear e hs
    go_enter Tryd.func50, Tryd.ntmps50
    go_wp2_with fail
    refine HZ.out.mono ?_
    rintro e w' ⟨rfl, rfl⟩
    go_wp2
    go_ret
    exact ⟨ret_bool HB.out.symm, rfl⟩

set_option maxHeartbeats 1000000 in
theorem Board_short (v : Value) (xs : List Int) (w : World) (h : Ints w v xs) (h6 : xs.length ≤ 6) :
    Calls Tryd.prog 18 #[v] w fun e w' => e = .returned (.bool (boardB xs)) ∧ w = w' := by
  obtain ⟨ao, cap, rfl, h1, _, hx⟩ := h.open
  have HX := Lib.hid hx
  clear h hx
  have hpw := pw_bd xs.length (by omega)
  have hwp := wrap_pw xs.length (by omega)
  have hm : ¬ ((6:Int) < xs.length) := by omega
  go_enter Tryd.func18, Tryd.ntmps18
  go_wp2
  go_loop [7] (fun i => ∃ k : Nat, k ≤ xs.length ∧ i = .int .i64 k ∧ (∀ j : Nat, j < k → rowB (xs.getD j 0) xs.length = true)) (fun i => xs.length - (intOf i).toNat)
  case atStart => exact ⟨0, Nat.zero_le _, rfl, fun j hj => absurd hj (by omega)⟩
  case round =>
    obtain ⟨k, hk, rfl, ha⟩ := hrel
    have HA := Lib.hid ha
    clear ha
    by_cases hlt : k < xs.length
    · obtain ⟨b, o, rfl, hck⟩ := HX.out k hlt
      have HB := Lib.hid (boardB_bad (k := k) hlt)
      have HN := Lib.hid (fun (hr : rowB (xs.getD k 0) xs.length = true) (j : Nat) (hj : j < k + 1) => if e : j = k then e ▸ hr else HA.out j (by omega))
      have HR : Hid (rowB (xs.getD k 0) xs.length = decide (0 ≤ xs.getD k 0 ∧ xs.getD k 0 < 2 ^ xs.length)) := rfl
      generalize xs.getD k 0 = z at *
      by_cases hz : z < 0
      · have HF := Lib.hid (HB.out (by rw [HR.out]; exact decide_eq_false fun h => by omega))
        clear HR HN HB
        go_wp2
        go_ret
        exact ⟨ret_bool HF.out.symm, rfl⟩
      · by_cases hz2 : z < 2 ^ xs.length
        · have HT := Lib.hid (HN.out (by rw [HR.out]; exact decide_eq_true ⟨by omega, hz2⟩))
          have hg : ¬ ((2:Int) ^ xs.length ≤ z) := by omega
          clear HR HN HB hpw
          go_wp2
          go_round
          case rel => exact ⟨k + 1, by omega, by go_num, HT.out⟩
          case measure => simp [intOf]; omega
        · have HF := Lib.hid (HB.out (by rw [HR.out]; exact decide_eq_false fun h => by omega))
          have hg : ((2:Int) ^ xs.length ≤ z) := by omega
          clear HR HN HB hpw
          go_wp2
          go_ret
          exact ⟨ret_bool HF.out.symm, rfl⟩
    · obtain rfl : k = xs.length := by omega
      by_cases hs1 : 1 ≤ xs.length
      · have HB : Hid (boardB xs = true) := Lib.hid (boardB_good hs1 h6 HA.out)
        have hi1 : (1:Int) ≤ xs.length := by omega
        have hi2 : (xs.length:Int) ≤ 6 := by omega
        clear hpw hwp
        go_wp2
        go_ret
        exact ⟨ret_bool (by rw [HB.out]), rfl⟩
      · have HB : Hid (boardB xs = false) := boardB_len (by omega)
        have hi1 : ¬ ((1:Int) ≤ xs.length) := by omega
        clear hpw hwp
        go_wp2
        go_ret
        exact ⟨ret_bool (by rw [HB.out]), rfl⟩

set_option maxHeartbeats 1000000 in
theorem Board_long (v : Value) (xs : List Int) (w : World) (h : Ints w v xs) (h6 : 6 < xs.length) :
    Calls Tryd.prog 18 #[v] w fun e w' => e = .returned (.bool (boardB xs)) ∧ w = w' := by
  obtain ⟨ao, cap, rfl, h1, _, hx⟩ := h.open
  have HX := Lib.hid hx
  have HB : Hid (boardB xs = false) := boardB_len (.inr h6)
  clear h hx
  have hm : ((6:Int) < xs.length) := by omega
  go_enter Tryd.func18, Tryd.ntmps18
  go_wp2
  go_loop [7] (fun i => ∃ k : Nat, k ≤ xs.length ∧ i = .int .i64 k) (fun i => xs.length - (intOf i).toNat)
  case atStart => exact ⟨0, Nat.zero_le _, rfl⟩
  case round =>
    obtain ⟨k, hk, rfl⟩ := hrel
    by_cases hlt : k < xs.length
    · obtain ⟨b, o, rfl, hck⟩ := HX.out k hlt
      generalize xs.getD k 0 = z at *
      by_cases hz : z < 0
      · go_wp2
        go_ret
        exact ⟨ret_bool HB.out.symm, rfl⟩
      · by_cases hz2 : z < 64
        · have hg : ¬ ((64:Int) ≤ z) := by omega
          go_wp2
          go_round
          case rel => exact ⟨k + 1, by omega, by go_num⟩
          case measure => simp [intOf]; omega
        · have hg : ((64:Int) ≤ z) := by omega
          go_wp2
          go_ret
          exact ⟨ret_bool HB.out.symm, rfl⟩
    · obtain rfl : k = xs.length := by omega
      have hi1 : (1:Int) ≤ xs.length := by omega
      have hi2 : ¬ ((xs.length:Int) ≤ 6) := by omega
      go_wp2
      go_ret
      exact ⟨ret_bool (by rw [HB.out]), rfl⟩

theorem Board_any (v : Value) (xs : List Int) (w : World) (h : Ints w v xs) :
    Calls Tryd.prog 18 #[v] w fun e w' => e = .returned (.bool (boardB xs)) ∧ w = w' := by
  by_cases h6 : xs.length ≤ 6
  · exact Board_short v xs w h h6
  · exact Board_long v xs w h (by omega)
end Go.Proofs.YtellnklbkjajbaaDoor
