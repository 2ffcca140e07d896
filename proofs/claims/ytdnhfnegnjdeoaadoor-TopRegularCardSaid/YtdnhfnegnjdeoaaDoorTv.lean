/- signs: matrices, isSet, has, valid -/
import Derived.Test.YtdnhfnegnjdeoaaDoorPl
namespace Go.Proofs.YtdnhfnegnjdeoaaDoor
open Go.RowKit

/-- A matrix of signs of n rows. -/
structure Mat (n : Nat) (hs : List Nat) : Prop where
  len : hs.length = n
  pos : 1 ≤ n
  le : n ≤ 16
  lt : ∀ x ∈ hs, x < 2 ^ n
theorem Mat.get {n : Nat} {hs : List Nat} (h : Mat n hs) (k : Nat) : hs.getD k 0 < 2 ^ n := by
  by_cases hk : k < hs.length
  · exact h.lt _ (natD_mem hk)
  · have : hs.getD k 0 = 0 := by simp [show hs.length ≤ k by omega]
    rw [this]; exact Nat.two_pow_pos n
theorem Mat.open {w : World} {v : Value} {n : Nat} {hs : List Nat} (hm : Mat n hs) (h : Nats w v hs) :
    ∃ ao cap, v = .slice ao n cap ∧ n ≤ cap ∧ (∀ k, k < n → ∃ b o, ao = some ⟨b, o, none⟩ ∧ w.cell? ⟨b, o + k, none⟩ = some (.int .i64 (hs.getD k 0 : Nat))) := by
  obtain ⟨ao, cap, hv, h1, _, h3⟩ := Nats.open h
  rw [hm.len] at hv h1 h3
  exact ⟨ao, cap, hv, h1, h3⟩
theorem Mat.get16 {n : Nat} {hs : List Nat} (h : Mat n hs) (k : Nat) : hs.getD k 0 < 65536 := Nat.lt_of_lt_of_le (h.get k) (pw_nat n h.le).2

def matB (m : Nat) (xs : List Int) : Bool := decide (1 ≤ xs.length ∧ xs.length ≤ m ∧ ∀ x ∈ xs, 0 ≤ x ∧ x < 2 ^ xs.length)
theorem matB_of {m : Nat} {xs : List Int} (hm : m ≤ 16) (h : matB m xs = true) : ∃ hs, xs = nats hs ∧ Mat xs.length hs ∧ xs.length ≤ m := by
  obtain ⟨h1, h2, h3⟩ := of_decide_eq_true h
  refine ⟨xs.map Int.toNat, ?_, ⟨by simp, h1, by omega, ?_⟩, h2⟩
  · unfold nats
    rw [List.map_map]
    refine (List.map_id _).symm.trans (List.map_congr_left fun x hx => ?_)
    have := (h3 x hx).1
    show x = ((x.toNat : Nat) : Int)
    omega
  · intro x hx
    obtain ⟨y, hy, rfl⟩ := List.mem_map.1 hx
    have := h3 y hy
    have e : ((2 ^ xs.length : Nat) : Int) = (2:Int) ^ xs.length := by simp
    omega
theorem matB_mk {m n : Nat} {hs : List Nat} (h : Mat n hs) (hm : n ≤ m) : matB m (nats hs) = true := by
  refine decide_eq_true ⟨by rw [nats_length, h.len]; exact h.pos, by rw [nats_length, h.len]; exact hm, fun x hx => ?_⟩
  obtain ⟨y, hy, rfl⟩ := List.mem_map.1 hx
  have := h.lt y hy
  rw [nats_length, h.len]
  have e : ((2 ^ n : Nat) : Int) = (2:Int) ^ n := by simp
  omega

set_option maxHeartbeats 400000 in
theorem sSet_any (x : Int) (n : Nat) (w : World) (hn : n ≤ 16) :
    Calls Tryd.prog 98 #[.int .i64 x, .int .i64 n] w fun e w' => e = .returned (.bool (setB x n)) ∧ w = w' := by
  have e := wrap_pw n hn
  by_cases h0 : 0 ≤ x
  · have hs : setB x n = decide (x < 2 ^ n) := by unfold setB; simp [h0]
    have HS := Lib.hid hs
    clear hs
    go_enter Tryd.func98, Tryd.ntmps98
    go_wp2
    go_ret
    exact ⟨ret_bool HS.out.symm, rfl⟩
  · have HS : Hid (setB x n = false) := decide_eq_false fun h => by omega
    have h0' : x < 0 := by omega
    clear h0
    go_enter Tryd.func98, Tryd.ntmps98
    go_wp2
    go_ret
    exact ⟨ret_bool HS.out.symm, rfl⟩

set_option maxHeartbeats 400000 in
theorem sHas_any (x n : Nat) (w : World) (hx : x < 65536) (hn : n ≤ 16) :
    Calls Tryd.prog 88 #[.int .i64 x, .int .i64 n] w fun e w' => e = .returned (.bool (x.testBit n)) ∧ w = w' := by
  have H := Lib.hid (bit_and1' x n hx)
  go_enter Tryd.func88, Tryd.ntmps88
  go_wp2
  go_ret
  exact ⟨ret_bool H.out, rfl⟩

theorem matB_bad {m : Nat} {xs : List Int} {k : Nat} (hk : k < xs.length) (h : setB (xs.getD k 0) xs.length = false) : matB m xs = false :=
  decide_eq_false fun ⟨_, _, h3⟩ => by have := h3 _ (getD_mem hk); exact absurd (decide_eq_true this) (by unfold setB at h; rw [h]; decide)
theorem matB_good {m : Nat} {xs : List Int} (h1 : 1 ≤ xs.length) (h2 : xs.length ≤ m) (h : ∀ j, j < xs.length → setB (xs.getD j 0) xs.length = true) : matB m xs = true :=
  decide_eq_true ⟨h1, h2, fun x hx => by obtain ⟨k, hk, rfl⟩ := mem_getD hx; exact of_decide_eq_true (h k hk)⟩
theorem matB_len {m : Nat} {xs : List Int} (h : xs.length < 1 ∨ m < xs.length) : matB m xs = false := decide_eq_false fun ⟨a, b, _⟩ => by omega

set_option maxHeartbeats 1000000 in
theorem valid_any (v : Value) (xs : List Int) (w : World) (h : Ints w v xs) :
    Calls Tryd.prog 84 #[v] w fun e w' => e = .returned (.bool (matB 16 xs)) ∧ w = w' := by
  obtain ⟨ao, cap, rfl, h1, h2, hx⟩ := h.open
  have HX := Lib.hid hx
  clear h hx
  by_cases hl : xs.length < 1
  · have HB : Hid (matB 16 xs = false) := matB_len (.inl hl)
    go_enter Tryd.func84, Tryd.ntmps84
    go_wp2
    go_ret
    exact ⟨ret_bool HB.out.symm, rfl⟩
  by_cases hl2 : 16 < xs.length
  · have HB : Hid (matB 16 xs = false) := matB_len (.inr hl2)
    go_enter Tryd.func84, Tryd.ntmps84
    go_wp2
    go_ret
    exact ⟨ret_bool HB.out.symm, rfl⟩
  go_enter Tryd.func84, Tryd.ntmps84
  go_wp2
  go_loop [15] (fun i => ∃ k : Nat, k ≤ xs.length ∧ i = .int .i64 k ∧ (∀ j : Nat, j < k → setB (xs.getD j 0) xs.length = true)) (fun i => xs.length - (intOf i).toNat)
  case atStart => exact ⟨0, Nat.zero_le _, rfl, fun j hj => absurd hj (by omega)⟩
  case round =>
    obtain ⟨k, hk, rfl, ha⟩ := hrel
    have HA := Lib.hid ha
    clear ha
    by_cases hlt : k < xs.length
    · obtain ⟨b, o, rfl, hck⟩ := HX.out k hlt
      have HC := Lib.hid (sSet_any (xs.getD k 0) xs.length w (by omega))
      cases hs : setB (xs.getD k 0) xs.length with
      | false =>
        have HB : Hid (matB 16 xs = false) := matB_bad hlt hs
        rw [hs] at HC
        clear hs
        generalize xs.getD k 0 = z at *
        go_wp2_with fail
        refine HC.out.mono ?_
        rintro e w' ⟨rfl, rfl⟩
        go_wp2
        go_ret
        exact ⟨ret_bool HB.out.symm, rfl⟩
      | true =>
        have HN := Lib.hid (fun (j : Nat) (hj : j < k + 1) => if e : j = k then e ▸ hs else HA.out j (by omega))
        rw [hs] at HC
        clear hs
        generalize xs.getD k 0 = z at *
        go_wp2_with fail
        refine HC.out.mono ?_
        rintro e w' ⟨rfl, rfl⟩
        go_wp2
        go_round
        case rel => exact ⟨k + 1, by omega, by go_num, HN.out⟩
        case measure => simp [intOf]; omega
    · obtain rfl : k = xs.length := by omega
      have HB : Hid (matB 16 xs = true) := matB_good (by omega) (by omega) HA.out
      go_wp2
      go_ret
      exact ⟨ret_bool HB.out.symm, rfl⟩

end Go.Proofs.YtdnhfnegnjdeoaaDoor
