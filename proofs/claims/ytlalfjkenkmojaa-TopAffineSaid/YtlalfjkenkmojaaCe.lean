/- Sets, the reference's Sets; fits, the reference's Free; Cap, Free -/
import Derived.Test.YtlalfjkenkmojaaCf
namespace Go.Proofs.Ytlalfjkenkmojaa
open Go.RowKit

def rowJ (g : Nat → Nat → Bool) (i j : Nat) : Nat := ((List.range j).filter fun j => g i j).length
def pairsI (g : Nat → Nat → Bool) (i : Nat) : Nat := ((List.range i).map fun i => rowJ g i i).sum
theorem rowJ_succ (g : Nat → Nat → Bool) (i j : Nat) : rowJ g i (j + 1) = rowJ g i j + (if g i j then 1 else 0) := by
  unfold rowJ
  rw [List.range_succ, List.filter_append, List.length_append]
  cases h : g i j <;> simp [h]
theorem rowJ_zero (g : Nat → Nat → Bool) (i : Nat) : rowJ g i 0 = 0 := rfl
theorem rowJ_le (g : Nat → Nat → Bool) (i j : Nat) : rowJ g i j ≤ j := by
  have := List.length_filter_le (fun j => g i j) (List.range j)
  rwa [List.length_range] at this
theorem pairsI_succ (g : Nat → Nat → Bool) (i : Nat) : pairsI g (i + 1) = pairsI g i + rowJ g i i := by
  unfold pairsI
  rw [List.range_succ, List.map_append, List.sum_append]
  simp
theorem pairsI_le (g : Nat → Nat → Bool) (i m : Nat) (hi : i ≤ m) : pairsI g i ≤ i * m := by
  induction i with
  | zero => simp [pairsI]
  | succ i ih =>
    rw [pairsI_succ, Nat.succ_mul]
    have := ih (by omega)
    have := rowJ_le g i i
    omega
theorem pairsI_end (g : Nat → Nat → Bool) (l : List Nat) : pairsI g l.length = pairs l g := rfl
theorem pairsI_bd (g : Nat → Nat → Bool) (i : Nat) (hi : i ≤ 81) : pairsI g i ≤ 6561 := by
  have := pairsI_le g i 81 hi
  have : i * 81 ≤ 81 * 81 := Nat.mul_le_mul_right 81 hi
  omega
/-- How many, where g is told so far. -/
def soFar (g : Nat → Nat → Bool) (i j : Nat) : Nat := pairsI g i + rowJ g i j
theorem soFar_zero (g : Nat → Nat → Bool) : soFar g 0 0 = 0 := rfl
theorem soFar_next (g : Nat → Nat → Bool) (i : Nat) : soFar g i i = soFar g (i + 1) 0 := by unfold soFar; rw [pairsI_succ, rowJ_zero, Nat.add_zero]
theorem soFar_yes {g : Nat → Nat → Bool} {i j : Nat} (h : g i j = true) : soFar g i (j + 1) = soFar g i j + 1 := by unfold soFar; rw [rowJ_succ, h, if_pos rfl, Nat.add_assoc]
theorem soFar_no {g : Nat → Nat → Bool} {i j : Nat} (h : g i j = false) : soFar g i (j + 1) = soFar g i j := by unfold soFar; rw [rowJ_succ, h]; simp
theorem soFar_bd (g : Nat → Nat → Bool) (i j : Nat) (hi : i ≤ 81) (hj : j ≤ 81) : soFar g i j ≤ 10000 := by
  unfold soFar
  have := pairsI_bd g i hi
  have := rowJ_le g i j
  omega
theorem soFar_end (g : Nat → Nat → Bool) (l : List Nat) : soFar g l.length 0 = pairs l g := by unfold soFar; rw [rowJ_zero, Nat.add_zero, pairsI_end]

set_option maxHeartbeats 2000000 in
theorem Sets_bad (d : Int) (v : Value) (xs : List Int) (w : World) (h : Ints w v xs) (hb : deckB d xs = false) : Calls Try.prog 19 #[.int .i64 d, v] w fun e w' => e = .returned (.tuple #[.int .i64 0, .int .i64 2]) ∧ w = w' := by
  have HA := Lib.hid (areCards_any d v xs w h)
  rw [hb] at HA
  clear h hb
  go_enter Try.func19, Try.ntmps19
  go_wp2_with fail
  refine HA.out.mono ?_
  rintro e w' ⟨rfl, rfl⟩
  go_wp2
  go_ret2
  exact ⟨rfl, rfl⟩


set_option maxHeartbeats 4000000 in
theorem Sets_any (d : Nat) (v : Value) (l : List Nat) (w : World) (h1 : 1 ≤ d) (hd : d ≤ 4) (hk : Deck d l) (h : Nats w v l) :
    Calls Try.prog 19 #[.int .i64 d, v] w fun e w' => e = .returned (.tuple #[.int .i64 (setsN d l : Nat), .int .i64 0]) ∧ Below w.heap.size w w' := by
  have HA := Lib.hid (areCards_any d v _ w h)
  rw [deck_mk h1 hd hk] at HA
  have HN := Lib.hid h
  obtain ⟨ao, cap, rfl, h1, h2, hx⟩ := h.open
  have HX := Lib.hid hx
  have HBd := Lib.hid (hk.bd hd)
  have hlen := hk.len hd
  have HT := Lib.hid (fun a b w (ha : a ≤ 81) (hb : b ≤ 81) => third_any d a b w hd ha hb)
  obtain ⟨g, hg⟩ : ∃ g, g = setP d l := ⟨_, rfl⟩
  have HE : Hid (setsN d l = soFar g l.length 0) := Lib.hid (by rw [hg, soFar_end]; rfl)
  have HG : Hid (∀ i j, (l.take j).contains (thirdN d (l.getD i 0) (l.getD j 0)) = g i j) := Lib.hid (fun i j => by rw [hg]; rfl)
  clear h hx hg hk
  go_enter Try.func19, Try.ntmps19
  go_wp2_with fail
  refine HA.out.mono ?_
  rintro e w' ⟨rfl, rfl⟩
  clear HA
  go_wp2_with fail
  go_loopw [6, 17] (fun n i wr => ∃ k s : Nat, k ≤ l.length ∧ i = .int .i64 k ∧ n = .int .i64 s ∧ s = soFar g k 0 ∧ Below w.heap.size w wr) (fun _ i _ => l.length - (intOf i).toNat)
  case atStart => exact ⟨0, 0, Nat.zero_le _, rfl, rfl, rfl, Below.refl _ _⟩
  case round =>
    obtain ⟨k, s, hk, rfl, rfl, hs, hb⟩ := hrel
    have HS := Lib.hid hs
    have HB := Lib.hid hb
    clear hs hb
    by_cases hlt : k < l.length
    · obtain ⟨b, o, rfl, hck⟩ := HX.out k hlt
      have hck' := ck hck HB.out
      have hz := HBd.out _ (natD_mem hlt)
      have HG1 := Lib.hid (fun j => HG.out k j)
      clear hck
      generalize l.getD k 0 = z at *
      go_wp2_with fail
      go_loopw [6, 26] (fun n i wr => ∃ j s : Nat, j ≤ k ∧ i = .int .i64 j ∧ n = .int .i64 s ∧ s = soFar g k j ∧ Below w.heap.size w wr) (fun _ i _ => k - (intOf i).toNat)
      case atStart => exact ⟨0, s, Nat.zero_le _, rfl, rfl, HS.out, HB.out⟩
      case round =>
        clear HS HB hck'
        obtain ⟨j, s, hj, rfl, rfl, hs, hb⟩ := hrel
        have HS := Lib.hid hs
        have HB := Lib.hid hb
        have hsb : s ≤ 10000 := by rw [hs]; exact soFar_bd g k j (by omega) (by omega)
        clear hs hb
        by_cases hjk : j < k
        · obtain ⟨b', o', he, hcj⟩ := HX.out j (by omega)
          simp only [Option.some.injEq, Addr.mk.injEq] at he
          obtain ⟨rfl, rfl, _⟩ := he
          have hcj' := ck hcj HB.out
          have hy := HBd.out _ (natD_mem (show j < l.length by omega))
          have HT1 := Lib.hid (fun w => HT.out z (l.getD j 0) w hz hy)
          have HG2 := Lib.hid (HG1.out j)
          have HC := Lib.hid (fun w' (hb' : Below wr.heap.size wr w') x => containsN_any _ (l.take j) x w' (((HN.out.take (show j ≤ l.length by omega)).below HB.out (Nat.le_refl _)).below hb' (Nat.le_refl _)))
          have HC1 := Lib.hid (fun n => HC.out (wr.drewN n) (below_drewN (Below.refl _ _) _) (thirdN d z (l.getD j 0)))
          rw [HG2.out] at HC1
          clear hcj
          generalize thirdN d z (l.getD j 0) = t at *
          generalize l.getD j 0 = y at *
          cases hh : g k j with
          | true =>
            have HY := Lib.hid (soFar_yes hh)
            rw [hh] at HC1
            clear hh HC HG2
            go_wp2_with fail
            go_quiet ((first | (go_at_call 61; exact quiet_eq (HT1.out _)) | (go_at_call 54; exact quiet_eq (HC1.out _))))
            go_wp2
            go_roundw
            case rel => exact ⟨j + 1, s + 1, by omega, by go_num, by go_num, by rw [HY.out, HS.out], below_drewN HB.out _⟩
            case measure => simp [intOf]; omega
          | false =>
            have HY := Lib.hid (soFar_no hh)
            rw [hh] at HC1
            clear hh HC HG2
            go_wp2_with fail
            go_quiet ((first | (go_at_call 61; exact quiet_eq (HT1.out _)) | (go_at_call 54; exact quiet_eq (HC1.out _))))
            go_wp2
            go_roundw
            case rel => exact ⟨j + 1, s, by omega, by go_num, rfl, by rw [HY.out, HS.out], below_drewN HB.out _⟩
            case measure => simp [intOf]; omega
        · obtain rfl : j = k := by omega
          have HY := Lib.hid (soFar_next g j)
          go_wp2
          go_roundw
          case rel => exact ⟨j + 1, s, by omega, by go_num, rfl, by rw [HS.out, HY.out], HB.out⟩
          case measure => simp [intOf]; omega
    · obtain rfl : k = l.length := by omega
      have HV : Hid (s = setsN d l) := Lib.hid (by rw [HS.out, HE.out])
      go_wp2
      go_ret2
      exact ⟨by rw [HV.out]; rfl, HB.out⟩

set_option maxHeartbeats 4000000 in
theorem rSets_any (d : Nat) (v : Value) (l : List Nat) (w : World) (hd : d ≤ 4) (hk : Deck d l) (h : Nats w v l) :
    Calls Try.prog 25 #[.int .i64 d, v] w fun e w' => e = .returned (.int .i64 (setsN d l : Nat)) ∧ Below w.heap.size w w' := by
  have HN := Lib.hid h
  obtain ⟨ao, cap, rfl, h1, h2, hx⟩ := h.open
  have HX := Lib.hid hx
  have HBd := Lib.hid (hk.bd hd)
  have hlen := hk.len hd
  have HT := Lib.hid (fun a b w (ha : a ≤ 81) (hb : b ≤ 81) => rThird_any d a b w hd ha hb)
  obtain ⟨g, hg⟩ : ∃ g, g = setR d l := ⟨_, rfl⟩
  have HE : Hid (setsN d l = soFar g l.length 0) := Lib.hid (by rw [hg, soFar_end, setsN_R d l hk.1])
  have HG : Hid (∀ i j, (decide (thirdN d (l.getD i 0) (l.getD j 0) < l.getD j 0) && l.contains (thirdN d (l.getD i 0) (l.getD j 0))) = g i j) := Lib.hid (fun i j => by rw [hg]; rfl)
  clear h hx hg hk
  go_enter Try.func25, Try.ntmps25
  go_wp2_with fail
  go_loopw [5, 13] (fun n i wr => ∃ k s : Nat, k ≤ l.length ∧ i = .int .i64 k ∧ n = .int .i64 s ∧ s = soFar g k 0 ∧ Below w.heap.size w wr) (fun _ i _ => l.length - (intOf i).toNat)
  case atStart => exact ⟨0, 0, Nat.zero_le _, rfl, rfl, rfl, Below.refl _ _⟩
  case round =>
    obtain ⟨k, s, hk, rfl, rfl, hs, hb⟩ := hrel
    have HS := Lib.hid hs
    have HB := Lib.hid hb
    clear hs hb
    by_cases hlt : k < l.length
    · obtain ⟨b, o, rfl, hck⟩ := HX.out k hlt
      have hck' := ck hck HB.out
      have hz := HBd.out _ (natD_mem hlt)
      have HG1 := Lib.hid (fun j => HG.out k j)
      clear hck
      generalize l.getD k 0 = z at *
      go_wp2_with fail
      go_loopw [5, 22] (fun n i wr => ∃ j s : Nat, j ≤ k ∧ i = .int .i64 j ∧ n = .int .i64 s ∧ s = soFar g k j ∧ Below w.heap.size w wr) (fun _ i _ => k - (intOf i).toNat)
      case atStart => exact ⟨0, s, Nat.zero_le _, rfl, rfl, HS.out, HB.out⟩
      case round =>
        clear HS HB hck'
        obtain ⟨j, s, hj, rfl, rfl, hs, hb⟩ := hrel
        have HS := Lib.hid hs
        have HB := Lib.hid hb
        have hsb : s ≤ 10000 := by rw [hs]; exact soFar_bd g k j (by omega) (by omega)
        clear hs hb
        by_cases hjk : j < k
        · obtain ⟨b', o', he, hcj⟩ := HX.out j (by omega)
          simp only [Option.some.injEq, Addr.mk.injEq] at he
          obtain ⟨rfl, rfl, _⟩ := he
          have hcj' := ck hcj HB.out
          have hy := HBd.out _ (natD_mem (show j < l.length by omega))
          have HT1 := Lib.hid (HT.out z (l.getD j 0) wr hz hy)
          have HG2 := Lib.hid (HG1.out j)
          have HC := Lib.hid (fun w' (hb' : Below w.heap.size w w') => hasN_any _ l (thirdN d z (l.getD j 0)) w' (HN.out.below hb' (Nat.le_refl _)))
          clear hcj
          generalize thirdN d z (l.getD j 0) = t at *
          generalize l.getD j 0 = y at *
          generalize l.contains t = q at *
          by_cases hty : t < y
          · rw [decide_eq_true hty, Bool.true_and] at HG2
            cases q with
            | true =>
              have HY := Lib.hid (soFar_yes HG2.out.symm)
              clear HG2
              go_wp2_with fail
              refine HT1.out.mono ?_
              rintro e w1 ⟨rfl, hb1⟩
              have HB1 := Lib.hid (HB.out.trans ((drew_below hb1).mono HB.out.size))
              clear hb1
              go_wp2_with fail
              refine (HC.out _ HB1.out).mono ?_
              rintro e w' ⟨rfl, rfl⟩
              go_wp2
              go_roundw
              case rel => exact ⟨j + 1, s + 1, by omega, by go_num, by go_num, by rw [HY.out, HS.out], HB1.out⟩
              case measure => simp [intOf]; omega
            | false =>
              have HY := Lib.hid (soFar_no HG2.out.symm)
              clear HG2
              go_wp2_with fail
              refine HT1.out.mono ?_
              rintro e w1 ⟨rfl, hb1⟩
              have HB1 := Lib.hid (HB.out.trans ((drew_below hb1).mono HB.out.size))
              clear hb1
              go_wp2_with fail
              refine (HC.out _ HB1.out).mono ?_
              rintro e w' ⟨rfl, rfl⟩
              go_wp2
              go_roundw
              case rel => exact ⟨j + 1, s, by omega, by go_num, rfl, by rw [HY.out, HS.out], HB1.out⟩
              case measure => simp [intOf]; omega
          · rw [decide_eq_false hty, Bool.false_and] at HG2
            have HY := Lib.hid (soFar_no HG2.out.symm)
            clear HG2
            go_wp2_with fail
            refine HT1.out.mono ?_
            rintro e w1 ⟨rfl, hb1⟩
            have HB1 := Lib.hid (HB.out.trans ((drew_below hb1).mono HB.out.size))
            clear hb1
            go_wp2
            go_roundw
            case rel => exact ⟨j + 1, s, by omega, by go_num, rfl, by rw [HY.out, HS.out], HB1.out⟩
            case measure => simp [intOf]; omega
        · obtain rfl : j = k := by omega
          have HY := Lib.hid (soFar_next g j)
          go_wp2
          go_roundw
          case rel => exact ⟨j + 1, s, by omega, by go_num, rfl, by rw [HS.out, HY.out], HB.out⟩
          case measure => simp [intOf]; omega
    · obtain rfl : k = l.length := by omega
      have HV : Hid (s = setsN d l) := Lib.hid (by rw [HS.out, HE.out])
      go_wp2
      go_ret
      exact ⟨ret_int (by rw [HV.out]), HB.out⟩
end Go.Proofs.Ytlalfjkenkmojaa
