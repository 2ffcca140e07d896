/- Design: the program's and the reference's -/
import Derived.Test.YtopmdmafameknaaCm
namespace Go.Proofs.Ytopmdmafameknaa
open Go.RowKit

theorem andNot_full (n x : Nat) (hn : n ≤ 16) (hx : x < 2 ^ n) : bits .andNot .i64 ((2:Int) ^ n - 1) (x:Int) = ((x ^^^ (2 ^ n - 1) : Nat) : Int) := by
  have hp := pw_nat n hn
  have hl := xor_lt hx (full_lt n)
  show IntKind.i64.wrap ((BitVec.ofInt 64 ((2:Int) ^ n - 1) &&& ~~~BitVec.ofInt 64 (x:Int)).toNat : Int) = _
  rw [← pw_cast, show ((2 ^ n : Nat) : Int) - 1 = ((2 ^ n - 1 : Nat) : Int) by omega, BitVec.toNat_and, BitVec.toNat_not, bv64 (by omega), bv64 (by omega)]
  have e : (2 ^ n - 1) &&& (2 ^ 64 - 1 - x) = x ^^^ (2 ^ n - 1) := by
    refine Nat.eq_of_testBit_eq fun j => ?_
    rw [show 2 ^ 64 - 1 - x = 2 ^ 64 - (x + 1) by omega, Nat.testBit_and, Nat.testBit_xor, Nat.testBit_two_pow_sub_one, Nat.testBit_two_pow_sub_succ (by omega)]
    by_cases hj : j < n
    · simp [hj, show j < 64 by omega]
    · simp [hj, Nat.testBit_lt_two_pow (Nat.lt_of_lt_of_le hx (Nat.pow_le_pow_right (by decide) (show n ≤ j by omega)))]
  rw [e]
  exact i64_of (by omega) (by omega)

/-- A set of a design. -/
def dsgR (n x : Nat) : Nat := (x ^^^ (2 ^ n - 1)) / 2
def dsgL (n : Nat) (hs : List Nat) : List Nat := (List.range (n - 1)).map fun i => dsgR n ((normL n hs).getD (i + 1) 0)
def dsgPart (n : Nat) (hs : List Nat) (k : Nat) : List Nat := (normL n hs).getD 0 0 :: (List.range (n - 1)).map fun i => if i < k then dsgR n ((normL n hs).getD (i + 1) 0) else (normL n hs).getD (i + 1) 0
theorem dsgPart_zero {n : Nat} (hs : List Nat) (hn : 1 ≤ n) : normL n hs = dsgPart n hs 0 := by
  refine List.ext_getElem (by simp [normL, plantL, dsgPart]; omega) fun i h1 h2 => ?_
  have hi : i < n := by simpa [normL, plantL] using h1
  cases i with
  | zero => simp [dsgPart, normL, plantL, show 0 < n by omega]
  | succ i => simp [dsgPart, normL, plantL, hi]
theorem dsgPart_length {n : Nat} (hs : List Nat) (hn : 1 ≤ n) (k : Nat) : (dsgPart n hs k).length = n := by simp [dsgPart]; omega
theorem dsgPart_get {n : Nat} (hs : List Nat) (k : Nat) (hk : k < n - 1) : (dsgPart n hs k).getD (1 + k) 0 = (normL n hs).getD (k + 1) 0 := by
  rw [Nat.add_comm]; simp [dsgPart, hk]
theorem dsgPart_set {n : Nat} (hs : List Nat) (k : Nat) : (dsgPart n hs k).set (1 + k) (dsgR n ((normL n hs).getD (k + 1) 0)) = dsgPart n hs (k + 1) := by
  rw [Nat.add_comm, dsgPart, List.set_cons_succ]
  congr 1
  refine List.ext_getElem (by simp) fun j h1 h2 => ?_
  rw [List.getElem_set]
  simp only [List.getElem_map, List.getElem_range]
  split
  · rename_i e; subst e; rw [if_pos (by omega)]
  · rename_i e
    by_cases h : j < k
    · rw [if_pos h, if_pos (by omega)]
    · rw [if_neg h, if_neg (by omega)]
theorem dsgPart_end {n : Nat} (hs : List Nat) : dsgPart n hs (n - 1) = (normL n hs).getD 0 0 :: dsgL n hs := by
  unfold dsgPart dsgL
  congr 1
  refine List.map_congr_left fun a ha => if_pos (List.mem_range.1 ha)
theorem NatBlk.tail {w : World} {g x : Nat} {hs : List Nat} (h : NatBlk w g (x :: hs)) (hl : hs.length ≤ 1000) (hb : ∀ y ∈ hs, y < 65536) : Nats w (.slice (some ⟨g, 1, none⟩) hs.length hs.length) hs := by
  refine ⟨⟨_, hs.length, by rw [ints_length, nats_length], by rw [ints_length, nats_length]; exact Nat.le_refl _, by rw [ints_length, nats_length]; omega, by unfold maxLen; omega, .inr ⟨g, 1, rfl, lt_of_block h, fun j y hy => ?_⟩⟩, nats_I64 hb⟩
  have hj := (List.getElem?_eq_some_iff.1 hy).1
  rw [ints_length, nats_length] at hj
  rw [(h.cell (k := 1 + j) (by simp; omega)).1, ← hy, Nat.add_comm]
  simp [ints, Go.Proofs.Ytopmdmafameknaa.nats, hj]
theorem dsgL_length (n : Nat) (hs : List Nat) : (dsgL n hs).length = n - 1 := by simp [dsgL]
theorem dsgR_lt {n x : Nat} (hx : x < 2 ^ n) (hn : 1 ≤ n) : dsgR n x < 2 ^ (n - 1) := by
  have := xor_lt hx (full_lt n)
  have e : 2 ^ n = 2 * 2 ^ (n - 1) := by rw [show n = (n - 1) + 1 by omega, Nat.pow_succ]; simp; omega
  unfold dsgR; omega
theorem dsgL_lt {n : Nat} {hs : List Nat} (hm : Mat n hs) : ∀ x ∈ dsgL n hs, x < 2 ^ (n - 1) := by
  intro x hx
  obtain ⟨i, _, rfl⟩ := List.mem_map.1 hx
  exact dsgR_lt ((show Mat n (normL n hs) from plant_mat _ hm.pos hm.le).get _) hm.pos
theorem dsgL_lt16 {n : Nat} {hs : List Nat} (hm : Mat n hs) : ∀ x ∈ dsgL n hs, x < 65536 := fun x hx => Nat.lt_of_lt_of_le (dsgL_lt hm x hx) (pw_nat (n - 1) (by have := hm.le; omega)).2

def DesignPost (w : World) (xs : List Int) (e : Ending) (w' : World) : Prop :=
  (if matB 16 xs = true ∧ 4 ≤ xs.length then (if balB xs.length (xs.map Int.toNat) = true then ∃ v, e = .returned (.tuple #[v, .int .i64 0]) ∧ Nats w' v (dsgL xs.length (xs.map Int.toNat)) else e = .returned (.tuple #[.slice none 0 0, .int .i64 5])) else e = .returned (.tuple #[.slice none 0 0, .int .i64 2])) ∧ Below w.heap.size w w'

set_option maxHeartbeats 1000000 in
set_option maxRecDepth 100000 in
theorem design_any (v : Value) (xs : List Int) (w : World) (h : Ints w v xs) :
    Calls Try.prog 39 #[v] w (DesignPost w xs) := by
  have HV := Lib.hid (valid_any v xs w h)
  cases hs : matB 16 xs with
  | false =>
    rw [hs] at HV
    have HS : Hid (¬ (matB 16 xs = true ∧ 4 ≤ xs.length)) := fun h => by rw [hs] at h; cases h.1
    obtain ⟨ao, cap, rfl, h1, h2, _⟩ := h.open
    clear h hs
    go_enter Try.func39, Try.ntmps39
    go_wp2_with fail
    refine HV.out.mono ?_
    rintro e w' ⟨rfl, rfl⟩
    go_wp2
    go_ret2
    unfold DesignPost
    rw [if_neg HS.out]
    exact ⟨rfl, Below.refl _ _⟩
  | true =>
    rw [hs] at HV
    obtain ⟨hh, n, rfl, hm, hl, hln⟩ := matB_of' (Nat.le_refl _) hs
    have HNL := Lib.hid hln
    have HS := Lib.hid hs
    have HBal := Lib.hid (balanced_any v n hh w h hm)
    have HNor := Lib.hid (normal_any v n hh w h hm)
    have hpos := hm.pos
    obtain ⟨ao, cap, rfl, h1, _⟩ := hm.open h
    by_cases h4 : n < 4
    · have HN : Hid (¬ (matB 16 (nats hh) = true ∧ 4 ≤ (nats hh).length)) := fun h => by rw [HNL.out] at h; omega
      clear h hs hm hln
      go_enter Try.func39, Try.ntmps39
      go_wp2_with fail
      refine HV.out.mono ?_
      rintro e w' ⟨rfl, rfl⟩
      go_wp2
      go_ret2
      unfold DesignPost
      rw [if_neg HN.out]
      exact ⟨rfl, Below.refl _ _⟩
    have HP : Hid (matB 16 (nats hh) = true ∧ 4 ≤ (nats hh).length) := ⟨hs, by rw [hln]; omega⟩
    cases hb : balB n hh with
    | false =>
      have HB : Hid (¬ balB (nats hh).length ((nats hh).map Int.toNat) = true) := fun h => by rw [nats_toNat, HNL.out, hb] at h; cases h
      rw [hb] at HBal
      clear h hs hm hln hb
      go_enter Try.func39, Try.ntmps39
      go_wp2_with fail
      refine HV.out.mono ?_
      rintro e w' ⟨rfl, rfl⟩
      go_wp2_with fail
      refine HBal.out.mono ?_
      rintro e w' ⟨rfl, rfl⟩
      go_wp2
      go_ret2
      unfold DesignPost
      rw [if_pos HP.out, if_neg HB.out]
      exact ⟨rfl, Below.refl _ _⟩
    | true =>
      have HB : Hid (balB (nats hh).length ((nats hh).map Int.toNat) = true) := (show balB _ _ = true by rw [nats_toNat, HNL.out, hb])
      rw [hb] at HBal
      have HG := Lib.hid ((show Mat n (normL n hh) from plant_mat _ hm.pos hm.le).get)
      have HL16 := Lib.hid (dsgL_lt16 hm)
      have HZ := Lib.hid (dsgPart_zero hh hpos)
      have HE := Lib.hid (dsgPart_end (n := n) hh)
      have HLn := Lib.hid (dsgL_length n hh)
      have hp16 := (pw_nat n hl).2
      clear h hs hm hln hb
      go_enter Try.func39, Try.ntmps39
      go_wp2_with fail
      refine HV.out.mono ?_
      rintro e w' ⟨rfl, rfl⟩
      go_wp2_with fail
      refine HBal.out.mono ?_
      rintro e w' ⟨rfl, rfl⟩
      go_wp2_with fail
      refine HNor.out.mono ?_
      rintro e w1 ⟨rfl, hB1, hb1⟩
      rw [HZ.out] at hB1
      have HNB1 := Lib.hid hB1
      have HB1 := Lib.hid hb1
      clear hB1 hb1
      go_wp2_with fail
      go_loopw [23] (fun i wr => ∃ k : Nat, k ≤ n - 1 ∧ i = .int .i64 k ∧ NatBlk wr w.heap.size (dsgPart n hh k) ∧ Below w.heap.size w wr) (fun i _ => n - 1 - (intOf i).toNat)
      case atStart => exact ⟨0, Nat.zero_le _, rfl, HNB1.out, HB1.out⟩
      case round =>
        obtain ⟨k, hk, rfl, hB, hb⟩ := hrel
        have HNB := Lib.hid hB
        have HBl := Lib.hid hb
        clear hB hb
        by_cases hlt : k < n - 1
        · obtain ⟨hc, hfz⟩ := HNB.out.cell (k := 1 + k) (by rw [dsgPart_length _ hpos]; omega)
          rw [dsgPart_get hh k hlt] at hc
          have hxl := HG.out (k + 1)
          have HSt := Lib.hid (HNB.out.set (1 + k) (dsgR n ((normL n hh).getD (k + 1) 0)))
          rw [dsgPart_set] at HSt
          have hdR : ((dsgR n ((normL n hh).getD (k + 1) 0) : Nat) : Int) = (((normL n hh).getD (k + 1) 0 ^^^ (2 ^ n - 1) : Nat) : Int) / 2 := rfl
          rw [hdR] at HSt
          have HTu := Lib.hid (turn_any ((normL n hh).getD (k + 1) 0) n wr (by omega) hl)
          have HB2 : Hid (Below w.heap.size w (wr.setCell ⟨w.heap.size, 1 + k, none⟩ (.int .i64 ((((normL n hh).getD (k + 1) 0 ^^^ (2 ^ n - 1) : Nat) : Int) / 2)))) := HBl.out.setCell (Nat.le_refl _) _
          have hyl := xor_lt hxl (full_lt n)
          clear hdR
          generalize (normL n hh).getD (k + 1) 0 ^^^ (2 ^ n - 1) = y at *
          generalize (normL n hh).getD (k + 1) 0 = x at *
          go_wp2_with fail
          refine HTu.out.mono ?_
          rintro e w' ⟨rfl, rfl⟩
          go_wp2
          go_roundw
          case rel => exact ⟨k + 1, by omega, by go_num, HSt.out, HB2.out⟩
          case measure => simp [intOf]; omega
        · obtain rfl : k = n - 1 := by omega
          rw [HE.out] at HNB
          have hv := HNB.out.tail (by rw [HLn.out]; omega) HL16.out
          rw [HLn.out] at hv
          have HV2 := Lib.hid hv
          clear hv
          go_wp2
          go_ret2
          unfold DesignPost
          rw [if_pos HP.out, if_pos HB.out, nats_toNat, HNL.out]
          exact ⟨⟨_, rfl, HV2.out⟩, HBl.out⟩
end Go.Proofs.Ytopmdmafameknaa
