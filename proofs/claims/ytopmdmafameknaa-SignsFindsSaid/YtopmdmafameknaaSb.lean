/- matrices of signs: rows as numbers; isSet, has, turn, sum, valid, Matrix -/
import Derived.Test.YtopmdmafameknaaOc
namespace Go.Proofs.Ytopmdmafameknaa
open Go.RowKit

theorem pw_bd (n : Nat) (h : n ≤ 16) : (1:Int) ≤ 2 ^ n ∧ (2:Int) ^ n ≤ 65536 := by
  have h1 : 2 ^ n ≤ 2 ^ 16 := Nat.pow_le_pow_right (by decide) h
  have h2 : 0 < 2 ^ n := Nat.two_pow_pos n
  have e : ((2 ^ n : Nat) : Int) = (2:Int) ^ n := by simp
  rw [← e]; omega
theorem pw_cast (n : Nat) : ((2 ^ n : Nat) : Int) = (2:Int) ^ n := by simp
theorem pw_nat (n : Nat) (h : n ≤ 16) : 1 ≤ 2 ^ n ∧ 2 ^ n ≤ 65536 := ⟨Nat.two_pow_pos n, Nat.pow_le_pow_right (by decide) h⟩
theorem wrap_in {x : Int} (h : -9223372036854775808 ≤ x) (h2 : x < 9223372036854775808) : wrap64 x = x := by unfold wrap64; omega
theorem wrap_pw (n : Nat) (h : n ≤ 16) : wrap64 (2 ^ n) = 2 ^ n := by have := pw_bd n h; exact wrap_in (by omega) (by omega)

theorem bit_and1 (x n : Nat) (h : x < 65536) : bits .and .i64 ((x:Int) / 2 ^ n) 1 = ((x.testBit n).toNat : Int) := by
  have hd : (x:Int) / 2 ^ n = ((x / 2 ^ n : Nat) : Int) := by rw [← pw_cast]; exact (Int.natCast_ediv x (2^n)).symm
  have hl : x / 2 ^ n ≤ x := Nat.div_le_self _ _
  rw [hd, show (1:Int) = ((1:Nat):Int) from rfl, i64_and _ _ (by omega) (by omega), Nat.and_one_is_mod]
  congr 1
  rw [Nat.testBit_eq_decide_div_mod_eq]
  have : x / 2 ^ n % 2 = 0 ∨ x / 2 ^ n % 2 = 1 := by omega
  rcases this with e | e <;> simp [e]
theorem bit_and1' (x n : Nat) (h : x < 65536) : (bits .and .i64 ((x:Int) / 2 ^ n) 1 == 1) = x.testBit n := by
  rw [bit_and1 x n h]; cases x.testBit n <;> rfl

/-- The sign at a place. -/
def sg (x j : Nat) : Int := if x.testBit j then -1 else 1
theorem sg_and1 (x n : Nat) (h : x < 65536) : 1 - 2 * bits .and .i64 ((x:Int) / 2 ^ n) 1 = sg x n := by
  rw [bit_and1 x n h]; unfold sg; cases x.testBit n <;> rfl

/-- A row of numbers, as ints. -/
def nats (hs : List Nat) : List Int := hs.map fun (x : Nat) => (x : Int)
theorem nats_length (hs : List Nat) : (nats hs).length = hs.length := by simp [nats]
theorem nats_getD (hs : List Nat) (k : Nat) : (nats hs).getD k 0 = ((hs.getD k 0 : Nat) : Int) := by
  simp only [nats, List.getD_eq_getElem?_getD, List.getElem?_map]
  cases hs[k]? <;> rfl
abbrev Nats (w : World) (v : Value) (hs : List Nat) : Prop := Ints w v (nats hs)
theorem Nats.open {w : World} {v : Value} {hs : List Nat} (h : Nats w v hs) :
    ∃ ao cap, v = .slice ao hs.length cap ∧ hs.length ≤ cap ∧ hs.length ≤ 17592186044416 ∧
      (∀ k, k < hs.length → ∃ b o, ao = some ⟨b, o, none⟩ ∧ w.cell? ⟨b, o + k, none⟩ = some (.int .i64 (hs.getD k 0 : Nat))) := by
  obtain ⟨ao, cap, hv, h1, h2, h3⟩ := Ints.open h
  rw [nats_length] at *
  exact ⟨ao, cap, hv, h1, h2, fun k hk => by obtain ⟨b, o, e, hc⟩ := h3 k hk; rw [nats_getD] at hc; exact ⟨b, o, e, hc⟩⟩
theorem natD_mem {hs : List Nat} {k : Nat} (h : k < hs.length) : hs.getD k 0 ∈ hs := by simp [h]

/-- A matrix of signs of n rows. -/
structure Mat (n : Nat) (hs : List Nat) : Prop where
  len : hs.length = n
  pos : 1 ≤ n
  le : n ≤ 16
  lt : ∀ x ∈ hs, x < 2 ^ n
theorem Mat.get {n : Nat} {hs : List Nat} (h : Mat n hs) (k : Nat) : hs.getD k 0 < 2 ^ n := by
  by_cases hk : k < hs.length
  · exact h.lt _ (natD_mem hk)
  · have : hs.getD k 0 = 0 := by simp [show hs.length ≤ k by omega]
    rw [this]; exact Nat.two_pow_pos n
theorem Mat.open {w : World} {v : Value} {n : Nat} {hs : List Nat} (hm : Mat n hs) (h : Nats w v hs) :
    ∃ ao cap, v = .slice ao n cap ∧ n ≤ cap ∧ (∀ k, k < n → ∃ b o, ao = some ⟨b, o, none⟩ ∧ w.cell? ⟨b, o + k, none⟩ = some (.int .i64 (hs.getD k 0 : Nat))) := by
  obtain ⟨ao, cap, hv, h1, _, h3⟩ := Nats.open h
  rw [hm.len] at hv h1 h3
  exact ⟨ao, cap, hv, h1, h3⟩
theorem Mat.get16 {n : Nat} {hs : List Nat} (h : Mat n hs) (k : Nat) : hs.getD k 0 < 65536 := Nat.lt_of_lt_of_le (h.get k) (pw_nat n h.le).2

def matB (m : Nat) (xs : List Int) : Bool := decide (1 ≤ xs.length ∧ xs.length ≤ m ∧ ∀ x ∈ xs, 0 ≤ x ∧ x < 2 ^ xs.length)
theorem matB_of {m : Nat} {xs : List Int} (hm : m ≤ 16) (h : matB m xs = true) : ∃ hs, xs = nats hs ∧ Mat xs.length hs ∧ xs.length ≤ m := by
  obtain ⟨h1, h2, h3⟩ := of_decide_eq_true h
  refine ⟨xs.map Int.toNat, ?_, ⟨by simp, h1, by omega, ?_⟩, h2⟩
  · unfold nats
    rw [List.map_map]
    refine (List.map_id _).symm.trans (List.map_congr_left fun x hx => ?_)
    have := (h3 x hx).1
    show x = ((x.toNat : Nat) : Int)
    omega
  · intro x hx
    obtain ⟨y, hy, rfl⟩ := List.mem_map.1 hx
    have := h3 y hy
    have e : ((2 ^ xs.length : Nat) : Int) = (2:Int) ^ xs.length := by simp
    omega
theorem matB_mk {m n : Nat} {hs : List Nat} (h : Mat n hs) (hm : n ≤ m) : matB m (nats hs) = true := by
  refine decide_eq_true ⟨by rw [nats_length, h.len]; exact h.pos, by rw [nats_length, h.len]; exact hm, fun x hx => ?_⟩
  obtain ⟨y, hy, rfl⟩ := List.mem_map.1 hx
  have := h.lt y hy
  rw [nats_length, h.len]
  have e : ((2 ^ n : Nat) : Int) = (2:Int) ^ n := by simp
  omega

def setB (x : Int) (n : Nat) : Bool := decide (0 ≤ x ∧ x < 2 ^ n)
set_option maxHeartbeats 400000 in
theorem isSet_any (x : Int) (n : Nat) (w : World) (hn : n ≤ 16) :
    Calls Try.prog 98 #[.int .i64 x, .int .i64 n] w fun e w' => e = .returned (.bool (setB x n)) ∧ w = w' := by
  have e := wrap_pw n hn
  by_cases h0 : 0 ≤ x
  · have hs : setB x n = decide (x < 2 ^ n) := by unfold setB; simp [h0]
    have HS := Lib.hid hs
    clear hs
    go_enter Try.func98, Try.ntmps98
    go_wp2
    go_ret
    exact ⟨ret_bool HS.out.symm, rfl⟩
  · have HS : Hid (setB x n = false) := decide_eq_false fun h => by omega
    have h0' : x < 0 := by omega
    clear h0
    go_enter Try.func98, Try.ntmps98
    go_wp2
    go_ret
    exact ⟨ret_bool HS.out.symm, rfl⟩

set_option maxHeartbeats 400000 in
theorem has_any (x n : Nat) (w : World) (hx : x < 65536) (hn : n ≤ 16) :
    Calls Try.prog 73 #[.int .i64 x, .int .i64 n] w fun e w' => e = .returned (.bool (x.testBit n)) ∧ w = w' := by
  have H := Lib.hid (bit_and1' x n hx)
  go_enter Try.func73, Try.ntmps73
  go_wp2
  go_ret
  exact ⟨ret_bool H.out, rfl⟩

theorem xor_full (x n : Nat) (hx : x < 65536) (hn : n ≤ 16) : bits .xor .i64 (x:Int) ((2:Int) ^ n - 1) = ((x ^^^ (2 ^ n - 1) : Nat) : Int) := by
  have h := pw_nat n hn
  rw [← pw_cast, show ((2 ^ n : Nat) : Int) - 1 = ((2 ^ n - 1 : Nat) : Int) by omega]
  exact i64_xor _ _ (by omega) (by omega)

set_option maxHeartbeats 400000 in
theorem turn_any (x n : Nat) (w : World) (hx : x < 65536) (hn : n ≤ 16) :
    Calls Try.prog 80 #[.int .i64 x, .int .i64 n] w fun e w' => e = .returned (.int .i64 (x ^^^ (2 ^ n - 1) : Nat)) ∧ w = w' := by
  have e := wrap_pw n hn
  have hb := pw_bd n hn
  have e2 : wrap64 (2 ^ n - 1) = 2 ^ n - 1 := wrap_in (by omega) (by omega)
  have H := Lib.hid (xor_full x n hx hn)
  go_enter Try.func80, Try.ntmps80
  go_wp2
  go_ret
  exact ⟨ret_int H.out, rfl⟩

set_option maxHeartbeats 400000 in
theorem sum_any (x n : Nat) (w : World) (hx : x < 2 ^ n) (hn : n ≤ 16) :
    Calls Try.prog 76 #[.int .i64 x, .int .i64 n] w fun e w' => e = .returned (.int .i64 (n - 2 * pop n x)) ∧ w = w' := by
  have h16 := (pw_nat n hn).2
  have HO := Lib.hid (ones_any x w (by omega))
  rw [pop16 n x hn hx] at HO
  have hp := pop_le n x
  generalize pop n x = p at *
  go_enter Try.func76, Try.ntmps76
  go_wp2_with fail
  refine HO.out.mono ?_
  rintro e w' ⟨rfl, rfl⟩
  go_wp2
  go_ret
  exact ⟨rfl, rfl⟩

theorem matB_bad {m : Nat} {xs : List Int} {k : Nat} (hk : k < xs.length) (h : setB (xs.getD k 0) xs.length = false) : matB m xs = false :=
  decide_eq_false fun ⟨_, _, h3⟩ => by have := h3 _ (getD_mem hk); exact absurd (decide_eq_true this) (by unfold setB at h; rw [h]; decide)
theorem matB_good {m : Nat} {xs : List Int} (h1 : 1 ≤ xs.length) (h2 : xs.length ≤ m) (h : ∀ j, j < xs.length → setB (xs.getD j 0) xs.length = true) : matB m xs = true :=
  decide_eq_true ⟨h1, h2, fun x hx => by obtain ⟨k, hk, rfl⟩ := mem_getD hx; exact of_decide_eq_true (h k hk)⟩
theorem matB_len {m : Nat} {xs : List Int} (h : xs.length < 1 ∨ m < xs.length) : matB m xs = false := decide_eq_false fun ⟨a, b, _⟩ => by omega

set_option maxHeartbeats 1000000 in
theorem valid_any (v : Value) (xs : List Int) (w : World) (h : Ints w v xs) :
    Calls Try.prog 64 #[v] w fun e w' => e = .returned (.bool (matB 16 xs)) ∧ w = w' := by
  obtain ⟨ao, cap, rfl, h1, h2, hx⟩ := h.open
  have HX := Lib.hid hx
  clear h hx
  by_cases hl : xs.length < 1
  · have HB : Hid (matB 16 xs = false) := matB_len (.inl hl)
    go_enter Try.func64, Try.ntmps64
    go_wp2
    go_ret
    exact ⟨ret_bool HB.out.symm, rfl⟩
  by_cases hl2 : 16 < xs.length
  · have HB : Hid (matB 16 xs = false) := matB_len (.inr hl2)
    go_enter Try.func64, Try.ntmps64
    go_wp2
    go_ret
    exact ⟨ret_bool HB.out.symm, rfl⟩
  go_enter Try.func64, Try.ntmps64
  go_wp2
  go_loop [15] (fun i => ∃ k : Nat, k ≤ xs.length ∧ i = .int .i64 k ∧ (∀ j : Nat, j < k → setB (xs.getD j 0) xs.length = true)) (fun i => xs.length - (intOf i).toNat)
  case atStart => exact ⟨0, Nat.zero_le _, rfl, fun j hj => absurd hj (by omega)⟩
  case round =>
    obtain ⟨k, hk, rfl, ha⟩ := hrel
    have HA := Lib.hid ha
    clear ha
    by_cases hlt : k < xs.length
    · obtain ⟨b, o, rfl, hck⟩ := HX.out k hlt
      have HC := Lib.hid (isSet_any (xs.getD k 0) xs.length w (by omega))
      cases hs : setB (xs.getD k 0) xs.length with
      | false =>
        have HB : Hid (matB 16 xs = false) := matB_bad hlt hs
        rw [hs] at HC
        clear hs
        generalize xs.getD k 0 = z at *
        go_wp2_with fail
        refine HC.out.mono ?_
        rintro e w' ⟨rfl, rfl⟩
        go_wp2
        go_ret
        exact ⟨ret_bool HB.out.symm, rfl⟩
      | true =>
        have HN := Lib.hid (fun (j : Nat) (hj : j < k + 1) => if e : j = k then e ▸ hs else HA.out j (by omega))
        rw [hs] at HC
        clear hs
        generalize xs.getD k 0 = z at *
        go_wp2_with fail
        refine HC.out.mono ?_
        rintro e w' ⟨rfl, rfl⟩
        go_wp2
        go_round
        case rel => exact ⟨k + 1, by omega, by go_num, HN.out⟩
        case measure => simp [intOf]; omega
    · obtain rfl : k = xs.length := by omega
      have HB : Hid (matB 16 xs = true) := matB_good (by omega) (by omega) HA.out
      go_wp2
      go_ret
      exact ⟨ret_bool HB.out.symm, rfl⟩

set_option maxHeartbeats 1000000 in
theorem matrix_short (v : Value) (xs : List Int) (m : Nat) (w : World) (h : Ints w v xs) (hl : xs.length ≤ 16) :
    Calls Try.prog 20 #[v, .int .i64 m] w fun e w' => e = .returned (.bool (matB m xs)) ∧ w = w' := by
  obtain ⟨ao, cap, rfl, h1, h2, hx⟩ := h.open
  have HX := Lib.hid hx
  have hpw := wrap_pw xs.length hl
  clear h hx
  go_enter Try.func20, Try.ntmps20
  go_wp2
  go_loop [9] (fun i => ∃ k : Nat, k ≤ xs.length ∧ i = .int .i64 k ∧ (∀ j : Nat, j < k → setB (xs.getD j 0) xs.length = true)) (fun i => xs.length - (intOf i).toNat)
  case atStart => exact ⟨0, Nat.zero_le _, rfl, fun j hj => absurd hj (by omega)⟩
  case round =>
    obtain ⟨k, hk, rfl, ha⟩ := hrel
    have HA := Lib.hid ha
    clear ha
    by_cases hlt : k < xs.length
    · obtain ⟨b, o, rfl, hck⟩ := HX.out k hlt
      by_cases h0 : xs.getD k 0 < 0
      · have HB : Hid (matB m xs = false) := matB_bad hlt (decide_eq_false fun h => by omega)
        generalize xs.getD k 0 = z at *
        go_wp2
        go_ret
        exact ⟨ret_bool HB.out.symm, rfl⟩
      · by_cases h3 : 2 ^ xs.length ≤ xs.getD k 0
        · have HB : Hid (matB m xs = false) := matB_bad hlt (decide_eq_false fun h => by omega)
          generalize xs.getD k 0 = z at *
          go_wp2
          go_ret
          exact ⟨ret_bool HB.out.symm, rfl⟩
        · have HN := Lib.hid (fun (j : Nat) (hj : j < k + 1) => if e : j = k then e ▸ (decide_eq_true ⟨by omega, by omega⟩ : setB (xs.getD k 0) xs.length = true) else HA.out j (by omega))
          generalize xs.getD k 0 = z at *
          go_wp2
          go_round
          case rel => exact ⟨k + 1, by omega, by go_num, HN.out⟩
          case measure => simp [intOf]; omega
    · obtain rfl : k = xs.length := by omega
      by_cases hl1 : 1 ≤ xs.length
      · by_cases hl2 : xs.length ≤ m
        · have hd : decide ((xs.length : Int) ≤ (m : Int)) = true := by simp; omega
          have HB : Hid (matB m xs = true) := matB_good hl1 hl2 HA.out
          go_wp2
          go_ret
          exact ⟨ret_bool HB.out.symm, rfl⟩
        · have hd : decide ((xs.length : Int) ≤ (m : Int)) = false := by simp; omega
          have HB : Hid (matB m xs = false) := matB_len (.inr (by omega))
          go_wp2
          go_ret
          exact ⟨ret_bool HB.out.symm, rfl⟩
      · have HB : Hid (matB m xs = false) := matB_len (.inl (by omega))
        go_wp2
        go_ret
        exact ⟨ret_bool HB.out.symm, rfl⟩

set_option maxHeartbeats 1000000 in
theorem matrix_long (v : Value) (xs : List Int) (m : Nat) (w : World) (hm : m ≤ 16) (h : Ints w v xs) (hl : 16 < xs.length) :
    Calls Try.prog 20 #[v, .int .i64 m] w fun e w' => e = .returned (.bool (matB m xs)) ∧ w = w' := by
  obtain ⟨ao, cap, rfl, h1, h2, hx⟩ := h.open
  have HX := Lib.hid hx
  have HB : Hid (matB m xs = false) := matB_len (.inr (by omega))
  clear h hx
  go_enter Try.func20, Try.ntmps20
  go_wp2
  go_loop [9] (fun i => ∃ k : Nat, k ≤ xs.length ∧ i = .int .i64 k) (fun i => xs.length - (intOf i).toNat)
  case atStart => exact ⟨0, Nat.zero_le _, rfl⟩
  case round =>
    obtain ⟨k, hk, rfl⟩ := hrel
    by_cases hlt : k < xs.length
    · obtain ⟨b, o, rfl, hck⟩ := HX.out k hlt
      generalize xs.getD k 0 = z at *
      by_cases h0 : z < 0
      · go_wp2
        go_ret
        exact ⟨ret_bool HB.out.symm, rfl⟩
      · by_cases h3 : 65536 ≤ z
        · go_wp2
          go_ret
          exact ⟨ret_bool HB.out.symm, rfl⟩
        · go_wp2
          go_round
          case rel => exact ⟨k + 1, by omega, by go_num⟩
          case measure => simp [intOf]; omega
    · obtain rfl : k = xs.length := by omega
      go_wp2
      go_ret
      exact ⟨ret_bool (by rw [HB.out]; simp; omega), rfl⟩

theorem matrix_any (v : Value) (xs : List Int) (m : Nat) (w : World) (hm : m ≤ 16) (h : Ints w v xs) :
    Calls Try.prog 20 #[v, .int .i64 m] w fun e w' => e = .returned (.bool (matB m xs)) ∧ w = w' := by
  by_cases hl : xs.length ≤ 16
  · exact matrix_short v xs m w h hl
  · exact matrix_long v xs m w hm h (by omega)
end Go.Proofs.Ytopmdmafameknaa
