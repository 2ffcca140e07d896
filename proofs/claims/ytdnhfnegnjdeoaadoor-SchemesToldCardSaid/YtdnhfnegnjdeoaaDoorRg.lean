/- the reference's size and Graph; the law's size -/
import Derived.Test.YtdnhfnegnjdeoaaDoorIg
namespace Go.Proofs.YtdnhfnegnjdeoaaDoor
open Go.RowKit

set_option maxHeartbeats 1000000 in
theorem rsize66_any (x : Nat) (w : World) (hx : x < 65536) : Calls Tryd.prog 66 #[.int .i64 x] w fun e w' => e = .returned (.int .i64 (pop 16 x)) ∧ w = w' := by
  go_enter Tryd.func66, Tryd.ntmps66
  go_wp2
  go_loop [0, 3] (fun s c => ∃ r k : Nat, s = .int .i64 r ∧ c = .int .i64 k ∧ r < 65536 ∧ k + pop 16 r = pop 16 x) (fun s _ => (intOf s).toNat)
  case atStart => exact ⟨x, 0, rfl, rfl, hx, Nat.zero_add _⟩
  case round =>
    obtain ⟨r, k, rfl, rfl, hr, hk⟩ := hrel
    by_cases h0 : 0 < r
    · have hand : bits .and .i64 (r:Int) ((r : Int) - 1) = ((r &&& (r - 1) : Nat) : Int) := by
        rw [show (r : Int) - 1 = ((r - 1 : Nat) : Int) by omega]
        exact i64_and _ _ (by omega) (by omega)
      have hlt := and_lt_one r h0
      have hk1 : Hid (k + 1 + pop 16 (r &&& (r - 1)) = pop 16 x) := Lib.hid (by have := pop_kern 16 r h0 hr; omega)
      have hp := pop_le 16 x
      have hw : wrap64 ((k:Int) + 1) = ((k + 1 : Nat) : Int) := by rw [wrap_in (by omega) (by omega)]; rfl
      clear hk
      generalize r &&& (r - 1) = r' at *
      go_wp2
      go_round
      case rel => exact ⟨r', k + 1, rfl, by go_num, by omega, hk1.out⟩
      case measure => simp [intOf]; omega
    · obtain rfl : r = 0 := by omega
      have hk1 : Hid (k = pop 16 x) := Lib.hid (by rw [← hk, pop_of_zero]; rfl)
      clear hk
      go_wp2
      go_ret
      exact ⟨ret_int (by rw [hk1.out]), rfl⟩

set_option maxHeartbeats 1000000 in
theorem rsize53_any (x : Nat) (w : World) (hx : x < 65536) : Calls Tryd.prog 53 #[.int .i64 x] w fun e w' => e = .returned (.int .i64 (pop 16 x)) ∧ w = w' := by
  go_enter Tryd.func53, Tryd.ntmps53
  go_wp2
  go_loop [0, 3] (fun s c => ∃ r k : Nat, s = .int .i64 r ∧ c = .int .i64 k ∧ r < 65536 ∧ k + pop 16 r = pop 16 x) (fun s _ => (intOf s).toNat)
  case atStart => exact ⟨x, 0, rfl, rfl, hx, Nat.zero_add _⟩
  case round =>
    obtain ⟨r, k, rfl, rfl, hr, hk⟩ := hrel
    by_cases h0 : 0 < r
    · have hand : bits .and .i64 (r:Int) ((r : Int) - 1) = ((r &&& (r - 1) : Nat) : Int) := by
        rw [show (r : Int) - 1 = ((r - 1 : Nat) : Int) by omega]
        exact i64_and _ _ (by omega) (by omega)
      have hlt := and_lt_one r h0
      have hk1 : Hid (k + 1 + pop 16 (r &&& (r - 1)) = pop 16 x) := Lib.hid (by have := pop_kern 16 r h0 hr; omega)
      have hp := pop_le 16 x
      have hw : wrap64 ((k:Int) + 1) = ((k + 1 : Nat) : Int) := by rw [wrap_in (by omega) (by omega)]; rfl
      clear hk
      generalize r &&& (r - 1) = r' at *
      go_wp2
      go_round
      case rel => exact ⟨r', k + 1, rfl, by go_num, by omega, hk1.out⟩
      case measure => simp [intOf]; omega
    · obtain rfl : r = 0 := by omega
      have hk1 : Hid (k = pop 16 x) := Lib.hid (by rw [← hk, pop_of_zero]; rfl)
      clear hk
      go_wp2
      go_ret
      exact ⟨ret_int (by rw [hk1.out]), rfl⟩

def rowG (xs : List Int) (k : Nat) : Prop := (setB (xs.getD k 0) xs.length = true ∧ ibit (xs.getD k 0) k = false) ∧ ∀ j, j < xs.length → ibit (xs.getD k 0) j = ibit (xs.getD j 0) k

set_option maxRecDepth 100000 in
set_option maxHeartbeats 4000000 in
theorem Graph_any (v : Value) (xs : List Int) (w : World) (h : Ints w v xs) :
    Calls Tryd.prog 20 #[v] w fun e w' => e = .returned (.bool (graphB xs)) ∧ Below w.heap.size w w' := by
  obtain ⟨ao, cap, rfl, h1, h2, hx⟩ := h.open
  have HX := Lib.hid hx
  clear h hx
  have hb0 := Below.refl w.heap.size w
  by_cases hlo : xs.length < 1
  · have HB : Hid (graphB xs = false) := graphB_len (by omega)
    have hl1 : (xs.length : Int) < 1 := by omega
    go_enter Tryd.func20, Tryd.ntmps20
    go_wp2
    go_ret
    exact ⟨ret_bool HB.out.symm, hb0⟩
  by_cases hhi : 16 < xs.length
  · have HB : Hid (graphB xs = false) := graphB_len (by omega)
    have hl1 : ¬ ((xs.length : Int) < 1) := by omega
    have hl2 : (16:Int) < xs.length := by omega
    go_enter Tryd.func20, Tryd.ntmps20
    go_wp2
    go_ret
    exact ⟨ret_bool HB.out.symm, hb0⟩
  have hl1 : ¬ ((xs.length : Int) < 1) := by omega
  have hl2 : ¬ ((16:Int) < xs.length) := by omega
  have hwp := wrap_pw xs.length (by omega)
  go_enter Tryd.func20, Tryd.ntmps20
  go_wp2
  go_loopw [16] (fun ii wr => ∃ k : Nat, k ≤ xs.length ∧ ii = .int .i64 k ∧ Hid (∀ i, i < k → rowG xs i) ∧ Below w.heap.size w wr) (fun ii _ => xs.length - (intOf ii).toNat)
  case atStart => exact ⟨0, Nat.zero_le _, rfl, Lib.hid (fun i hi => absurd hi (by omega)), hb0⟩
  case round =>
    obtain ⟨k, hk, rfl, HG, hb⟩ := hrel
    have HB := Lib.hid hb
    by_cases hlt : k < xs.length
    · obtain ⟨b, o, rfl, hck⟩ := HX.out k hlt
      have hck' := ck hck hb
      have HSET := Lib.hid (graphB_set (xs := xs) (i := k) hlt)
      have HIRR := Lib.hid (graphB_irr (xs := xs) (i := k) hlt)
      have HSYM := Lib.hid (fun (j : Nat) (hj : j < xs.length) (h : ibit (xs.getD k 0) j ≠ ibit (xs.getD j 0) k) => graphB_sym hlt hj h)
      have HBK := Lib.hid (fun j => int_bit (xs.getD k 0) j)
      have HROW : Hid (setB (xs.getD k 0) xs.length = true → ibit (xs.getD k 0) k = false → (∀ j, j < xs.length → ibit (xs.getD k 0) j = ibit (xs.getD j 0) k) → ∀ i, i < k + 1 → rowG xs i) := Lib.hid fun a b c i hi => by
        by_cases e : i = k
        · subst e; exact ⟨⟨a, b⟩, c⟩
        · exact HG.out i (by omega)
      have HZZ : Hid (setB (xs.getD k 0) xs.length = decide (0 ≤ xs.getD k 0 ∧ xs.getD k 0 < 2 ^ xs.length)) := rfl
      have HIB := Lib.hid (fun j => (rfl : ibit (xs.getD k 0) j = ibit (xs.getD k 0) j))
      clear hck hb HG
      obtain ⟨fb, hfb⟩ : ∃ fb : Nat → Bool, ∀ j, ibit (xs.getD k 0) j = fb j := ⟨fun j => ibit (xs.getD k 0) j, fun _ => rfl⟩
      simp only [hfb] at HIRR HSYM HBK HROW
      clear hfb HIB
      generalize xs.getD k 0 = z at *
      by_cases hz : z < 0
      · have HF := Lib.hid (HSET.out (by rw [HZZ.out]; exact decide_eq_false fun h => by omega))
        clear HZZ HSET HROW HIRR HSYM
        go_wp2
        go_ret
        exact ⟨ret_bool HF.out.symm, HB.out⟩
      by_cases hz2 : 2 ^ xs.length ≤ z
      · have HF := Lib.hid (HSET.out (by rw [HZZ.out]; exact decide_eq_false fun h => by omega))
        clear HZZ HSET HROW HIRR HSYM
        go_wp2
        go_ret
        exact ⟨ret_bool HF.out.symm, HB.out⟩
      have HR1 := Lib.hid (HROW.out (by rw [HZZ.out]; exact decide_eq_true (by omega)))
      have hk16 : k ≤ 16 := by omega
      cases hi : fb k with
      | true =>
        have HF := Lib.hid (HIRR.out hi)
        have hbit : bits .and .i64 (z / 2 ^ k) 1 = 1 := by rw [HBK.out, hi]; rfl
        clear HZZ HSET HROW HIRR HSYM HR1 hi
        go_wp2
        go_ret
        exact ⟨ret_bool HF.out.symm, HB.out⟩
      | false =>
        have HR2 := Lib.hid (HR1.out hi)
        have hbit : bits .and .i64 (z / 2 ^ k) 1 = 0 := by rw [HBK.out, hi]; rfl
        clear HZZ HSET HROW HIRR HR1 hi
        go_wp2
        go_loopw [39] (fun jj wj => ∃ j : Nat, j ≤ xs.length ∧ jj = .int .i64 j ∧ Hid (∀ i, i < j → fb i = ibit (xs.getD i 0) k) ∧ Below w.heap.size w wj) (fun jj _ => xs.length - (intOf jj).toNat)
        case atStart => exact ⟨0, Nat.zero_le _, rfl, Lib.hid (fun i hi => absurd hi (by omega)), HB.out⟩
        case round =>
          obtain ⟨j, hj, rfl, HJ, hbj⟩ := hrel
          by_cases hjt : j < xs.length
          · obtain ⟨b', o', e, hcj⟩ := HX.out j hjt
            cases e
            have hcj' := ck hcj hbj
            have HBJ := Lib.hid (fun i => int_bit (xs.getD j 0) i)
            have HB1 := Lib.hid (fun n => below_drewN hbj n)
            have hj16 : j ≤ 16 := by omega
            have HS := Lib.hid (HSYM.out j hjt)
            have HN : Hid (fb j = ibit (xs.getD j 0) k → ∀ i, i < j + 1 → fb i = ibit (xs.getD i 0) k) := Lib.hid fun h i hi => by
              by_cases e : i = j
              · subst e; exact h
              · exact HJ.out i (by omega)
            have hix0 : (0:Int) ≤ (j:Int) := by omega
            have hix1 : (j:Int) < (xs.length:Int) := by omega
            clear hcj hbj HJ HSYM
            generalize xs.getD j 0 = y at *
            cases e1 : fb j with
            | true =>
              cases e2 : ibit y k with
              | true =>
                have hb1 : bits .and .i64 (z / 2 ^ j) 1 = 1 := by rw [HBK.out, e1]; rfl
                have hb2 : bits .and .i64 (y / 2 ^ k) 1 = 1 := by rw [HBJ.out, e2]; rfl
                have HYtdnhfnegnjdeoaaDoor := Lib.hid (HN.out (by rw [e1, e2]))
                clear HN HS HBJ e1 e2
                go_wp2
                go_quiet (fail)
                go_wp2
                go_roundw
                case rel => exact ⟨j + 1, by omega, by go_num, HYtdnhfnegnjdeoaaDoor, HB1.out _⟩
                case measure => simp [intOf]; omega
              | false =>
                have hb1 : bits .and .i64 (z / 2 ^ j) 1 = 1 := by rw [HBK.out, e1]; rfl
                have hb2 : bits .and .i64 (y / 2 ^ k) 1 = 0 := by rw [HBJ.out, e2]; rfl
                have HF := Lib.hid (HS.out (by rw [e1, e2]; simp))
                clear HN HS HBJ e1 e2
                go_wp2
                go_quiet (fail)
                go_wp2
                go_ret
                exact ⟨ret_bool HF.out.symm, HB1.out _⟩
            | false =>
              cases e2 : ibit y k with
              | true =>
                have hb1 : bits .and .i64 (z / 2 ^ j) 1 = 0 := by rw [HBK.out, e1]; rfl
                have hb2 : bits .and .i64 (y / 2 ^ k) 1 = 1 := by rw [HBJ.out, e2]; rfl
                have HF := Lib.hid (HS.out (by rw [e1, e2]; simp))
                clear HN HS HBJ e1 e2
                go_wp2
                go_quiet (fail)
                go_wp2
                go_ret
                exact ⟨ret_bool HF.out.symm, HB1.out _⟩
              | false =>
                have hb1 : bits .and .i64 (z / 2 ^ j) 1 = 0 := by rw [HBK.out, e1]; rfl
                have hb2 : bits .and .i64 (y / 2 ^ k) 1 = 0 := by rw [HBJ.out, e2]; rfl
                have HYtdnhfnegnjdeoaaDoor := Lib.hid (HN.out (by rw [e1, e2]))
                clear HN HS HBJ e1 e2
                go_wp2
                go_quiet (fail)
                go_wp2
                go_roundw
                case rel => exact ⟨j + 1, by omega, by go_num, HYtdnhfnegnjdeoaaDoor, HB1.out _⟩
                case measure => simp [intOf]; omega
          · obtain rfl : j = xs.length := by omega
            have HYtdnhfnegnjdeoaaDoor := Lib.hid (HR2.out HJ.out)
            have HB1 := Lib.hid hbj
            clear HJ HSYM hbj
            go_wp2
            go_roundw
            case rel => exact ⟨k + 1, by omega, by go_num, HYtdnhfnegnjdeoaaDoor, HB1.out⟩
            case measure => simp [intOf]; omega
    · obtain rfl : k = xs.length := by omega
      have HE : Hid (graphB xs = true) := Lib.hid (graphB_good (by omega) (by omega) (fun i hi => (HG.out i hi).1) (fun i hi => (HG.out i hi).2))
      clear HG hb
      go_wp2
      go_ret
      exact ⟨ret_bool HE.out.symm, HB.out⟩
end Go.Proofs.YtdnhfnegnjdeoaaDoor
