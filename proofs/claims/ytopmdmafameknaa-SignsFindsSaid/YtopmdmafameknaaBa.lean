/- balanced: the program's and the reference's -/
import Derived.Test.YtopmdmafameknaaSb
namespace Go.Proofs.Ytopmdmafameknaa
open Go.RowKit

/-- Whether any two rows agree in half of the columns. -/
def Bal (n : Nat) (hs : List Nat) : Prop := ∀ i, i < n → ∀ k, k < i → 2 * pop n (hs.getD i 0 ^^^ hs.getD k 0) = n
instance (n : Nat) (hs : List Nat) : Decidable (Bal n hs) := by unfold Bal; infer_instance
def balB (n : Nat) (hs : List Nat) : Bool := decide (Bal n hs)

/-- The sum of products of the first signs of two rows. -/
def dotK (a b : Nat) : Nat → Int
  | 0 => 0
  | j+1 => dotK a b j + sg a j * sg b j
theorem dotK_pop (a b j : Nat) : dotK a b j = j - 2 * pop j (a ^^^ b) := by
  induction j with
  | zero => rfl
  | succ j ih =>
    rw [dotK, ih, pop, Nat.testBit_xor]
    unfold sg
    cases a.testBit j <;> cases b.testBit j <;> simp <;> omega
theorem dotK_bd (a b j : Nat) : -(j:Int) ≤ dotK a b j ∧ dotK a b j ≤ j := by
  rw [dotK_pop]; have := pop_le j (a ^^^ b); omega
theorem sg_cases (x j : Nat) : sg x j = 1 ∨ sg x j = -1 := by unfold sg; cases x.testBit j <;> simp
theorem sg_mul_bd (x y i j : Nat) : -1 ≤ sg x i * sg y j ∧ sg x i * sg y j ≤ 1 := by
  rcases sg_cases x i with h | h <;> rcases sg_cases y j with h' | h' <;> rw [h, h'] <;> decide

theorem xor_lt {n x y : Nat} (hx : x < 2 ^ n) (hy : y < 2 ^ n) : x ^^^ y < 2 ^ n := Nat.xor_lt_two_pow hx hy

theorem slice_to {n k cap : Nat} : k ≤ n → n ≤ cap → k ≤ cap := Nat.le_trans

set_option maxHeartbeats 2000000 in
theorem balanced_any (v : Value) (n : Nat) (hs : List Nat) (w : World) (h : Nats w v hs) (hm : Mat n hs) :
    Calls Try.prog 65 #[v] w fun e w' => e = .returned (.bool (balB n hs)) ∧ w = w' := by
  obtain ⟨ao, cap, rfl, h1, hx⟩ := hm.open h
  have HX := Lib.hid hx
  have HG := Lib.hid hm.get
  have hn := hm.le
  clear h hx hm
  go_enter Try.func65, Try.ntmps65
  go_wp2
  go_loop [9] (fun i => ∃ k : Nat, k ≤ n ∧ i = .int .i64 k ∧ (∀ i, i < k → ∀ j, j < i → 2 * pop n (hs.getD i 0 ^^^ hs.getD j 0) = n)) (fun i => n - (intOf i).toNat)
  case atStart => exact ⟨0, Nat.zero_le _, rfl, fun j hj => absurd hj (by omega)⟩
  case round =>
    obtain ⟨k, hk, rfl, ha⟩ := hrel
    have HA := Lib.hid ha
    clear ha
    by_cases hlt : k < n
    · obtain ⟨b, o, rfl, hck⟩ := HX.out k hlt
      obtain ⟨x, hxe⟩ : ∃ x, x = hs.getD k 0 := ⟨_, rfl⟩
      have hxl : x < 2 ^ n := by rw [hxe]; exact HG.out k
      have HXE := Lib.hid hxe
      rw [← hxe] at hck
      have hkc : k ≤ cap := by omega
      clear hxe
      go_wp2
      go_loop [18] (fun i => ∃ l : Nat, l ≤ k ∧ i = .int .i64 l ∧ (∀ j, j < l → 2 * pop n (x ^^^ hs.getD j 0) = n)) (fun i => k - (intOf i).toNat)
      case atStart => exact ⟨0, Nat.zero_le _, rfl, fun j hj => absurd hj (by omega)⟩
      case round =>
        obtain ⟨l, hl, rfl, ha⟩ := hrel
        have HAl := Lib.hid ha
        clear ha
        by_cases hltl : l < k
        · obtain ⟨b', o', heq, hcl⟩ := HX.out l (by omega)
          obtain ⟨rfl, rfl⟩ : b = b' ∧ o = o' := by simpa using heq
          obtain ⟨y, hye⟩ : ∃ y, y = hs.getD l 0 := ⟨_, rfl⟩
          have hyl : y < 2 ^ n := by rw [hye]; exact HG.out l
          have HYE := Lib.hid hye
          rw [← hye] at hcl
          have hp16 := (pw_nat n hn).2
          have hxor := i64_xor x y (by omega) (by omega)
          have hxl2 := xor_lt hxl hyl
          have HO := Lib.hid (ones_any (x ^^^ y) w (by omega))
          rw [pop16 n _ hn hxl2] at HO
          have hpl := pop_le n (x ^^^ y)
          obtain ⟨p, hpe⟩ : ∃ p, p = pop n (x ^^^ y) := ⟨_, rfl⟩
          rw [← hpe] at HO hpl
          have HPE := Lib.hid hpe
          clear hye hpe heq
          obtain ⟨z, hze⟩ : ∃ z, z = x ^^^ y := ⟨_, rfl⟩
          rw [← hze] at hxor hxl2 HO
          have hz16 : z < 65536 := by omega
          clear hze
          by_cases hpn : 2 * p = n
          · have hd : ((2 * (p:Int)) != (n:Int)) = false := by simp; omega
            have HN : Hid (∀ j, j < l + 1 → 2 * pop n (x ^^^ hs.getD j 0) = n) := fun j hj => by
              by_cases e : j = l
              · subst e; rw [← HYE.out, ← HPE.out]; exact hpn
              · exact HAl.out j (by omega)
            have hpn' := Lib.hid hpn
            clear hpn hyl hxl hxl2 hp16
            go_wp2_with fail
            refine HO.out.mono ?_
            rintro e w' ⟨rfl, rfl⟩
            go_wp2
            go_round
            case rel => exact ⟨l + 1, by omega, by go_num, HN.out⟩
            case measure => simp [intOf]; omega
          · have hd : ((2 * (p:Int)) != (n:Int)) = true := by simp; omega
            have HB : Hid (balB n hs = false) := decide_eq_false fun h => by
              have := h k hlt l hltl
              rw [← HXE.out, ← HYE.out, ← HPE.out] at this
              exact hpn this
            clear hpn hyl hxl hxl2 hp16
            go_wp2_with fail
            refine HO.out.mono ?_
            rintro e w' ⟨rfl, rfl⟩
            go_wp2
            go_ret
            exact ⟨ret_bool HB.out.symm, rfl⟩
        · obtain rfl : l = k := by omega
          have HN : Hid (∀ i, i < l + 1 → ∀ j, j < i → 2 * pop n (hs.getD i 0 ^^^ hs.getD j 0) = n) := fun i hi j hj => by
            by_cases e : i = l
            · subst e; rw [← HXE.out]; exact HAl.out j hj
            · exact HA.out i (by omega) j hj
          go_wp2
          go_round
          case rel => exact ⟨l + 1, by omega, by go_num, HN.out⟩
          case measure => simp [intOf]; omega
    · obtain rfl : k = n := by omega
      have HB : Hid (balB k hs = true) := decide_eq_true HA.out
      go_wp2
      go_ret
      exact ⟨ret_bool HB.out.symm, rfl⟩

set_option maxHeartbeats 1000000 in
theorem at_any (v : Value) (hs : List Nat) (i j : Nat) (w : World) (h : Nats w v hs) (hi : i < hs.length) (hx : hs.getD i 0 < 65536) (hj : j ≤ 16) :
    Calls Try.prog 67 #[v, .int .i64 i, .int .i64 j] w fun e w' => e = .returned (.int .i64 (sg (hs.getD i 0) j)) ∧ w = w' := by
  obtain ⟨ao, cap, rfl, h1, h2, hc⟩ := h.open
  obtain ⟨b, o, rfl, hck⟩ := hc i hi
  have HS := Lib.hid (sg_and1 (hs.getD i 0) j hx)
  have hb : 0 ≤ bits .and .i64 ((hs.getD i 0 : Int) / 2 ^ j) 1 ∧ bits .and .i64 ((hs.getD i 0 : Int) / 2 ^ j) 1 ≤ 1 := by
    rw [bit_and1 _ j hx]; cases (hs.getD i 0).testBit j <;> decide
  clear h hc
  generalize hs.getD i 0 = x at *
  go_enter Try.func67, Try.ntmps67
  go_wp2
  go_ret
  exact ⟨ret_int HS.out, rfl⟩

set_option maxHeartbeats 4000000 in
theorem rBalanced_any (v : Value) (n : Nat) (hs : List Nat) (w : World) (h : Nats w v hs) (hm : Mat n hs) :
    Calls Try.prog 22 #[v] w fun e w' => e = .returned (.bool (balB n hs)) ∧ w = w' := by
  have HAt := Lib.hid (fun i j (hi : i < n) (hj : j ≤ 16) => at_any v hs i j w h (by rw [hm.len]; exact hi) (hm.get16 i) hj)
  obtain ⟨ao, cap, rfl, h1, _⟩ := hm.open h
  have hn := hm.le
  clear h hm
  go_enter Try.func22, Try.ntmps22
  go_wp2
  go_loop [9] (fun i => ∃ k : Nat, k ≤ n ∧ i = .int .i64 k ∧ (∀ i, i < k → ∀ j, j < i → 2 * pop n (hs.getD i 0 ^^^ hs.getD j 0) = n)) (fun i => n - (intOf i).toNat)
  case atStart => exact ⟨0, Nat.zero_le _, rfl, fun j hj => absurd hj (by omega)⟩
  case round =>
    obtain ⟨k, hk, rfl, ha⟩ := hrel
    have HA := Lib.hid ha
    clear ha
    by_cases hlt : k < n
    · go_wp2
      go_loop [13] (fun i => ∃ l : Nat, l ≤ k ∧ i = .int .i64 l ∧ (∀ j, j < l → 2 * pop n (hs.getD k 0 ^^^ hs.getD j 0) = n)) (fun i => k - (intOf i).toNat)
      case atStart => exact ⟨0, Nat.zero_le _, rfl, fun j hj => absurd hj (by omega)⟩
      case round =>
        obtain ⟨l, hl, rfl, ha⟩ := hrel
        have HAl := Lib.hid ha
        clear ha
        by_cases hltl : l < k
        · go_wp2
          go_loop [5, 18] (fun s i => ∃ j : Nat, j ≤ n ∧ i = .int .i64 j ∧ s = .int .i64 (dotK (hs.getD k 0) (hs.getD l 0) j)) (fun _ i => n - (intOf i).toNat)
          case atStart => exact ⟨0, Nat.zero_le _, rfl, rfl⟩
          case round =>
            obtain ⟨j, hj, rfl, rfl⟩ := hrel
            have hdb := dotK_bd (hs.getD k 0) (hs.getD l 0) j
            by_cases hltj : j < n
            · have HS : Hid (dotK (hs.getD k 0) (hs.getD l 0) (j+1) = dotK (hs.getD k 0) (hs.getD l 0) j + sg (hs.getD k 0) j * sg (hs.getD l 0) j) := rfl
              have HA1 := Lib.hid (HAt.out k j (by omega) (by omega))
              have HA2 := Lib.hid (HAt.out l j (by omega) (by omega))
              have hmb := sg_mul_bd (hs.getD k 0) (hs.getD l 0) j j
              generalize dotK (hs.getD k 0) (hs.getD l 0) j = d at *
              generalize sg (hs.getD k 0) j = s1 at *
              generalize sg (hs.getD l 0) j = s2 at *
              go_wp2_with fail
              refine HA1.out.mono ?_
              rintro e w' ⟨rfl, rfl⟩
              go_wp2_with fail
              refine HA2.out.mono ?_
              rintro e w' ⟨rfl, rfl⟩
              go_wp2
              go_round
              case rel => exact ⟨j + 1, by omega, by go_num, by rw [HS.out]⟩
              case measure => simp [intOf]; omega
            · obtain rfl : j = n := by omega
              have HP := Lib.hid (dotK_pop (hs.getD k 0) (hs.getD l 0) j)
              generalize dotK (hs.getD k 0) (hs.getD l 0) j = d at *
              by_cases hd0 : 2 * pop j (hs.getD k 0 ^^^ hs.getD l 0) = j
              · have hd : (d != 0) = false := by simp; rw [HP.out]; omega
                have HN : Hid (∀ i, i < l + 1 → 2 * pop j (hs.getD k 0 ^^^ hs.getD i 0) = j) := fun i hi => by
                  by_cases e : i = l
                  · subst e; exact hd0
                  · exact HAl.out i (by omega)
                clear hd0
                go_wp2
                go_round
                case rel => exact ⟨l + 1, by omega, by go_num, HN.out⟩
                case measure => simp [intOf]; omega
              · have hd : (d != 0) = true := by simp; rw [HP.out]; omega
                have HB : Hid (balB j hs = false) := decide_eq_false fun h => hd0 (h k hlt l hltl)
                clear hd0
                go_wp2
                go_ret
                exact ⟨ret_bool HB.out.symm, rfl⟩
        · obtain rfl : l = k := by omega
          have HN : Hid (∀ i, i < l + 1 → ∀ j, j < i → 2 * pop n (hs.getD i 0 ^^^ hs.getD j 0) = n) := fun i hi j hj => by
            by_cases e : i = l
            · subst e; exact HAl.out j hj
            · exact HA.out i (by omega) j hj
          go_wp2
          go_round
          case rel => exact ⟨l + 1, by omega, by go_num, HN.out⟩
          case measure => simp [intOf]; omega
    · obtain rfl : k = n := by omega
      have HB : Hid (balB k hs = true) := decide_eq_true HA.out
      go_wp2
      go_ret
      exact ⟨ret_bool HB.out.symm, rfl⟩
end Go.Proofs.Ytopmdmafameknaa
