/- CapsRulers: the walk -/
import Derived.Test.YtlalfjkenkmojaaUg
import Derived.Test.YtlalfjkenkmojaaL4
namespace Go.Proofs.Ytlalfjkenkmojaa
open Go.RowKit

/-- What the law has seen to be valid. -/
def valK (xs : List Int) (k : Nat) : Bool := decide (1 ≤ xs.length ∧ xs.length ≤ 10) && (xs.take k).all okI
theorem valK_succ {xs : List Int} {k : Nat} (h : k < xs.length) : valK xs (k + 1) = (valK xs k && okI (xs.getD k 0)) := by
  unfold valK
  rw [take_snoc xs k h, List.all_append, ← Bool.and_assoc]
  simp
theorem nats_take9 {l : List Nat} (h : l.length ≤ 90) : (nats l).take 90 = nats l := List.take_of_length_le (by rw [nats_length]; exact h)
theorem valK_end (xs : List Int) : valK xs xs.length = rulV xs := by unfold valK rulV; rw [List.take_length]

set_option maxHeartbeats 2000000 in
set_option maxRecDepth 100000 in
theorem rulers_00 (v : Value) (xs : List Int) (w : World) (h : Ints w v xs) (hr : rulV xs = false) (k : Int) (hk : k < 1 ∨ 7 < k) :
    Calls Try.prog 9 #[v, .int .i64 k] w fun e w' => e = .returned (.bool true) ∧ Below w.heap.size w w' := by
  have HL := Lib.hid (fun w' (hb : Below w.heap.size w w') => list_any v _ w' (h.below hb (Nat.le_refl _)))
  have HAw := Lib.hid (fun w => awake_any w)
  have HRu := Lib.hid (fun v' w' (h' : Ints w' v' (xs.take 90)) => Ruler_bad v' _ w' h' (by rw [rulV_take, hr]))
  obtain ⟨ao, cap, rfl, hc1, hc2, hx⟩ := (show Ints w v xs from h).open
  have HX := Lib.hid hx
  have HRv := Lib.hid hr
  clear h hx hr
  rcases hk with hk | hk
  · have HSh := Lib.hid (fun w => Short_bad k w (.inl hk))
    by_cases d0 : xs.length < 1
    · have HV0 : Hid (valK xs 0 = false) := Lib.hid (by unfold valK; rw [decide_eq_false (by omega)]; rfl)
      have HB0 := Lib.hid (Below.refl w.heap.size w)
      go_enter Try.func9, Try.ntmps9
      go_wp2_with fail
      refine (HL.out w HB0.out).mono ?_
      rintro e w1 ⟨v1, rfl, hv1, hb1⟩
      have HB1 := Lib.hid (HB0.out.trans (hb1.mono HB0.out.size))
      have A_1 := Lib.hid (hv1)
      clear hb1 hv1
      go_wp2_with fail
      refine (HRu.out v1 w1 A_1.out).mono ?_
      rintro e w' ⟨rfl, rfl⟩
      clear A_1
      go_wp2_with fail
      refine (HSh.out w1).mono ?_
      rintro e w' ⟨rfl, rfl⟩
      go_wp2_with fail
      go_loopw [9, 55] (fun b i wr => ∃ k : Nat, k ≤ xs.length ∧ i = .int .i64 k ∧ b = .bool (valK xs k) ∧ Below w.heap.size w wr) (fun _ i _ => xs.length - (intOf i).toNat)
      case atStart => exact ⟨0, Nat.zero_le _, rfl, by first | (rw [HV0.out]; done) | (rw [HV0.out]; exact congrArg Value.bool (decide_eq_false (by omega))) | (rw [HV0.out]; exact congrArg Value.bool (decide_eq_true (by omega))), HB1.out⟩
      case round =>
        clear HB1 HV0
        obtain ⟨k, hk, rfl, rfl, hb⟩ := hrel
        have HB := Lib.hid hb
        clear hb
        by_cases hlt : k < xs.length
        · exfalso; omega
        · obtain rfl : k = xs.length := by omega
          have HE := Lib.hid (valK_end xs)
          rw [HE.out, HRv.out]
          go_wp2_with fail
          refine (HAw.out wr).mono ?_
          rintro e wz1 ⟨rfl, hbz⟩
          have HZ1 := Lib.hid (HB.out.trans (hbz.mono HB.out.size))
          clear hbz
          go_wp2
          go_ret
          exact ⟨rfl, HZ1.out⟩
    by_cases d1654 : 10 < xs.length
    · have HV0 : Hid (valK xs 0 = false) := Lib.hid (by unfold valK; rw [decide_eq_false (by omega)]; rfl)
      have HB0 := Lib.hid (Below.refl w.heap.size w)
      go_enter Try.func9, Try.ntmps9
      go_wp2_with fail
      refine (HL.out w HB0.out).mono ?_
      rintro e w1 ⟨v1, rfl, hv1, hb1⟩
      have HB1 := Lib.hid (HB0.out.trans (hb1.mono HB0.out.size))
      have A_1 := Lib.hid (hv1)
      clear hb1 hv1
      go_wp2_with fail
      refine (HRu.out v1 w1 A_1.out).mono ?_
      rintro e w' ⟨rfl, rfl⟩
      clear A_1
      go_wp2_with fail
      refine (HSh.out w1).mono ?_
      rintro e w' ⟨rfl, rfl⟩
      go_wp2_with fail
      go_loopw [9, 55] (fun b i wr => ∃ k : Nat, k ≤ xs.length ∧ i = .int .i64 k ∧ b = .bool (valK xs k) ∧ Below w.heap.size w wr) (fun _ i _ => xs.length - (intOf i).toNat)
      case atStart => exact ⟨0, Nat.zero_le _, rfl, by first | (rw [HV0.out]; done) | (rw [HV0.out]; exact congrArg Value.bool (decide_eq_false (by omega))) | (rw [HV0.out]; exact congrArg Value.bool (decide_eq_true (by omega))), HB1.out⟩
      case round =>
        clear HB1 HV0
        obtain ⟨k, hk, rfl, rfl, hb⟩ := hrel
        have HB := Lib.hid hb
        clear hb
        by_cases hlt : k < xs.length
        · obtain ⟨b, o, rfl, hck⟩ := HX.out k hlt
          have hck' := ck hck HB.out
          have HS := Lib.hid (valK_succ hlt)
          clear hck
          generalize xs.getD k 0 = x at *
          generalize valK xs k = q0 at *
          cases q0 with
          | false =>
            have HS2 : Hid (valK xs (k + 1) = false) := Lib.hid (by rw [HS.out]; rfl)
            go_wp2
            go_roundw
            case rel => exact ⟨k + 1, by omega, by go_num, by rw [HS2.out], HB.out⟩
            case measure => simp [intOf]; omega
          | true =>
            by_cases e1 : x < 0
            · have HS2 : Hid (valK xs (k + 1) = false) := Lib.hid (by rw [HS.out]; unfold okI; rw [decide_eq_false (by omega)]; rfl)
              go_wp2
              go_roundw
              case rel => exact ⟨k + 1, by omega, by go_num, by rw [HS2.out], HB.out⟩
              case measure => simp [intOf]; omega
            by_cases e2 : 60 < x
            · have HS2 : Hid (valK xs (k + 1) = false) := Lib.hid (by rw [HS.out]; unfold okI; rw [decide_eq_false (show ¬ x ≤ 60 by omega)]; simp)
              have e3 : decide (x ≤ 60) = false := decide_eq_false (by omega)
              have e4 : decide (0 ≤ x) = true := decide_eq_true (by omega)
              go_wp2
              go_roundw
              case rel => exact ⟨k + 1, by omega, by go_num, by rw [HS2.out], HB.out⟩
              case measure => simp [intOf]; omega
            have HS2 : Hid (valK xs (k + 1) = true) := Lib.hid (by rw [HS.out]; unfold okI; rw [decide_eq_true (by omega), decide_eq_true (show x ≤ 60 by omega)]; rfl)
            have e3 : decide (x ≤ 60) = true := decide_eq_true (by omega)
            have e4 : decide (0 ≤ x) = true := decide_eq_true (by omega)
            go_wp2
            go_roundw
            case rel => exact ⟨k + 1, by omega, by go_num, by rw [HS2.out], HB.out⟩
            case measure => simp [intOf]; omega
        · obtain rfl : k = xs.length := by omega
          have HE := Lib.hid (valK_end xs)
          rw [HE.out, HRv.out]
          go_wp2_with fail
          refine (HAw.out wr).mono ?_
          rintro e wz1 ⟨rfl, hbz⟩
          have HZ1 := Lib.hid (HB.out.trans (hbz.mono HB.out.size))
          clear hbz
          go_wp2
          go_ret
          exact ⟨rfl, HZ1.out⟩
    have HV0 : Hid (valK xs 0 = true) := Lib.hid (by unfold valK; rw [decide_eq_true (by omega)]; rfl)
    have q1 : 1 ≤ xs.length := by omega
    have q2 : xs.length ≤ 10 := by omega
    have HB0 := Lib.hid (Below.refl w.heap.size w)
    go_enter Try.func9, Try.ntmps9
    go_wp2_with fail
    refine (HL.out w HB0.out).mono ?_
    rintro e w1 ⟨v1, rfl, hv1, hb1⟩
    have HB1 := Lib.hid (HB0.out.trans (hb1.mono HB0.out.size))
    have A_1 := Lib.hid (hv1)
    clear hb1 hv1
    go_wp2_with fail
    refine (HRu.out v1 w1 A_1.out).mono ?_
    rintro e w' ⟨rfl, rfl⟩
    clear A_1
    go_wp2_with fail
    refine (HSh.out w1).mono ?_
    rintro e w' ⟨rfl, rfl⟩
    go_wp2_with fail
    go_loopw [9, 55] (fun b i wr => ∃ k : Nat, k ≤ xs.length ∧ i = .int .i64 k ∧ b = .bool (valK xs k) ∧ Below w.heap.size w wr) (fun _ i _ => xs.length - (intOf i).toNat)
    case atStart => exact ⟨0, Nat.zero_le _, rfl, by first | (rw [HV0.out]; done) | (rw [HV0.out]; exact congrArg Value.bool (decide_eq_false (by omega))) | (rw [HV0.out]; exact congrArg Value.bool (decide_eq_true (by omega))), HB1.out⟩
    case round =>
      clear HB1 HV0
      obtain ⟨k, hk, rfl, rfl, hb⟩ := hrel
      have HB := Lib.hid hb
      clear hb
      by_cases hlt : k < xs.length
      · obtain ⟨b, o, rfl, hck⟩ := HX.out k hlt
        have hck' := ck hck HB.out
        have HS := Lib.hid (valK_succ hlt)
        clear hck
        generalize xs.getD k 0 = x at *
        generalize valK xs k = q0 at *
        cases q0 with
        | false =>
          have HS2 : Hid (valK xs (k + 1) = false) := Lib.hid (by rw [HS.out]; rfl)
          go_wp2
          go_roundw
          case rel => exact ⟨k + 1, by omega, by go_num, by rw [HS2.out], HB.out⟩
          case measure => simp [intOf]; omega
        | true =>
          by_cases e1 : x < 0
          · have HS2 : Hid (valK xs (k + 1) = false) := Lib.hid (by rw [HS.out]; unfold okI; rw [decide_eq_false (by omega)]; rfl)
            go_wp2
            go_roundw
            case rel => exact ⟨k + 1, by omega, by go_num, by rw [HS2.out], HB.out⟩
            case measure => simp [intOf]; omega
          by_cases e2 : 60 < x
          · have HS2 : Hid (valK xs (k + 1) = false) := Lib.hid (by rw [HS.out]; unfold okI; rw [decide_eq_false (show ¬ x ≤ 60 by omega)]; simp)
            have e3 : decide (x ≤ 60) = false := decide_eq_false (by omega)
            have e4 : decide (0 ≤ x) = true := decide_eq_true (by omega)
            go_wp2
            go_roundw
            case rel => exact ⟨k + 1, by omega, by go_num, by rw [HS2.out], HB.out⟩
            case measure => simp [intOf]; omega
          have HS2 : Hid (valK xs (k + 1) = true) := Lib.hid (by rw [HS.out]; unfold okI; rw [decide_eq_true (by omega), decide_eq_true (show x ≤ 60 by omega)]; rfl)
          have e3 : decide (x ≤ 60) = true := decide_eq_true (by omega)
          have e4 : decide (0 ≤ x) = true := decide_eq_true (by omega)
          go_wp2
          go_roundw
          case rel => exact ⟨k + 1, by omega, by go_num, by rw [HS2.out], HB.out⟩
          case measure => simp [intOf]; omega
      · obtain rfl : k = xs.length := by omega
        have HE := Lib.hid (valK_end xs)
        rw [HE.out, HRv.out]
        go_wp2_with fail
        refine (HAw.out wr).mono ?_
        rintro e wz1 ⟨rfl, hbz⟩
        have HZ1 := Lib.hid (HB.out.trans (hbz.mono HB.out.size))
        clear hbz
        go_wp2
        go_ret
        exact ⟨rfl, HZ1.out⟩
  · have HSh := Lib.hid (fun w => Short_bad k w (.inr hk))
    have hk1 : ¬ k < 1 := by omega
    by_cases d0 : xs.length < 1
    · have HV0 : Hid (valK xs 0 = false) := Lib.hid (by unfold valK; rw [decide_eq_false (by omega)]; rfl)
      have HB0 := Lib.hid (Below.refl w.heap.size w)
      go_enter Try.func9, Try.ntmps9
      go_wp2_with fail
      refine (HL.out w HB0.out).mono ?_
      rintro e w1 ⟨v1, rfl, hv1, hb1⟩
      have HB1 := Lib.hid (HB0.out.trans (hb1.mono HB0.out.size))
      have A_1 := Lib.hid (hv1)
      clear hb1 hv1
      go_wp2_with fail
      refine (HRu.out v1 w1 A_1.out).mono ?_
      rintro e w' ⟨rfl, rfl⟩
      clear A_1
      go_wp2_with fail
      refine (HSh.out w1).mono ?_
      rintro e w' ⟨rfl, rfl⟩
      go_wp2_with fail
      go_loopw [9, 55] (fun b i wr => ∃ k : Nat, k ≤ xs.length ∧ i = .int .i64 k ∧ b = .bool (valK xs k) ∧ Below w.heap.size w wr) (fun _ i _ => xs.length - (intOf i).toNat)
      case atStart => exact ⟨0, Nat.zero_le _, rfl, by first | (rw [HV0.out]; done) | (rw [HV0.out]; exact congrArg Value.bool (decide_eq_false (by omega))) | (rw [HV0.out]; exact congrArg Value.bool (decide_eq_true (by omega))), HB1.out⟩
      case round =>
        clear HB1 HV0
        obtain ⟨k, hk, rfl, rfl, hb⟩ := hrel
        have HB := Lib.hid hb
        clear hb
        by_cases hlt : k < xs.length
        · exfalso; omega
        · obtain rfl : k = xs.length := by omega
          have HE := Lib.hid (valK_end xs)
          rw [HE.out, HRv.out]
          go_wp2_with fail
          refine (HAw.out wr).mono ?_
          rintro e wz1 ⟨rfl, hbz⟩
          have HZ1 := Lib.hid (HB.out.trans (hbz.mono HB.out.size))
          clear hbz
          go_wp2
          go_ret
          exact ⟨rfl, HZ1.out⟩
    by_cases d1654 : 10 < xs.length
    · have HV0 : Hid (valK xs 0 = false) := Lib.hid (by unfold valK; rw [decide_eq_false (by omega)]; rfl)
      have HB0 := Lib.hid (Below.refl w.heap.size w)
      go_enter Try.func9, Try.ntmps9
      go_wp2_with fail
      refine (HL.out w HB0.out).mono ?_
      rintro e w1 ⟨v1, rfl, hv1, hb1⟩
      have HB1 := Lib.hid (HB0.out.trans (hb1.mono HB0.out.size))
      have A_1 := Lib.hid (hv1)
      clear hb1 hv1
      go_wp2_with fail
      refine (HRu.out v1 w1 A_1.out).mono ?_
      rintro e w' ⟨rfl, rfl⟩
      clear A_1
      go_wp2_with fail
      refine (HSh.out w1).mono ?_
      rintro e w' ⟨rfl, rfl⟩
      go_wp2_with fail
      go_loopw [9, 55] (fun b i wr => ∃ k : Nat, k ≤ xs.length ∧ i = .int .i64 k ∧ b = .bool (valK xs k) ∧ Below w.heap.size w wr) (fun _ i _ => xs.length - (intOf i).toNat)
      case atStart => exact ⟨0, Nat.zero_le _, rfl, by first | (rw [HV0.out]; done) | (rw [HV0.out]; exact congrArg Value.bool (decide_eq_false (by omega))) | (rw [HV0.out]; exact congrArg Value.bool (decide_eq_true (by omega))), HB1.out⟩
      case round =>
        clear HB1 HV0
        obtain ⟨k, hk, rfl, rfl, hb⟩ := hrel
        have HB := Lib.hid hb
        clear hb
        by_cases hlt : k < xs.length
        · obtain ⟨b, o, rfl, hck⟩ := HX.out k hlt
          have hck' := ck hck HB.out
          have HS := Lib.hid (valK_succ hlt)
          clear hck
          generalize xs.getD k 0 = x at *
          generalize valK xs k = q0 at *
          cases q0 with
          | false =>
            have HS2 : Hid (valK xs (k + 1) = false) := Lib.hid (by rw [HS.out]; rfl)
            go_wp2
            go_roundw
            case rel => exact ⟨k + 1, by omega, by go_num, by rw [HS2.out], HB.out⟩
            case measure => simp [intOf]; omega
          | true =>
            by_cases e1 : x < 0
            · have HS2 : Hid (valK xs (k + 1) = false) := Lib.hid (by rw [HS.out]; unfold okI; rw [decide_eq_false (by omega)]; rfl)
              go_wp2
              go_roundw
              case rel => exact ⟨k + 1, by omega, by go_num, by rw [HS2.out], HB.out⟩
              case measure => simp [intOf]; omega
            by_cases e2 : 60 < x
            · have HS2 : Hid (valK xs (k + 1) = false) := Lib.hid (by rw [HS.out]; unfold okI; rw [decide_eq_false (show ¬ x ≤ 60 by omega)]; simp)
              have e3 : decide (x ≤ 60) = false := decide_eq_false (by omega)
              have e4 : decide (0 ≤ x) = true := decide_eq_true (by omega)
              go_wp2
              go_roundw
              case rel => exact ⟨k + 1, by omega, by go_num, by rw [HS2.out], HB.out⟩
              case measure => simp [intOf]; omega
            have HS2 : Hid (valK xs (k + 1) = true) := Lib.hid (by rw [HS.out]; unfold okI; rw [decide_eq_true (by omega), decide_eq_true (show x ≤ 60 by omega)]; rfl)
            have e3 : decide (x ≤ 60) = true := decide_eq_true (by omega)
            have e4 : decide (0 ≤ x) = true := decide_eq_true (by omega)
            go_wp2
            go_roundw
            case rel => exact ⟨k + 1, by omega, by go_num, by rw [HS2.out], HB.out⟩
            case measure => simp [intOf]; omega
        · obtain rfl : k = xs.length := by omega
          have HE := Lib.hid (valK_end xs)
          rw [HE.out, HRv.out]
          go_wp2_with fail
          refine (HAw.out wr).mono ?_
          rintro e wz1 ⟨rfl, hbz⟩
          have HZ1 := Lib.hid (HB.out.trans (hbz.mono HB.out.size))
          clear hbz
          go_wp2
          go_ret
          exact ⟨rfl, HZ1.out⟩
    have HV0 : Hid (valK xs 0 = true) := Lib.hid (by unfold valK; rw [decide_eq_true (by omega)]; rfl)
    have q1 : 1 ≤ xs.length := by omega
    have q2 : xs.length ≤ 10 := by omega
    have HB0 := Lib.hid (Below.refl w.heap.size w)
    go_enter Try.func9, Try.ntmps9
    go_wp2_with fail
    refine (HL.out w HB0.out).mono ?_
    rintro e w1 ⟨v1, rfl, hv1, hb1⟩
    have HB1 := Lib.hid (HB0.out.trans (hb1.mono HB0.out.size))
    have A_1 := Lib.hid (hv1)
    clear hb1 hv1
    go_wp2_with fail
    refine (HRu.out v1 w1 A_1.out).mono ?_
    rintro e w' ⟨rfl, rfl⟩
    clear A_1
    go_wp2_with fail
    refine (HSh.out w1).mono ?_
    rintro e w' ⟨rfl, rfl⟩
    go_wp2_with fail
    go_loopw [9, 55] (fun b i wr => ∃ k : Nat, k ≤ xs.length ∧ i = .int .i64 k ∧ b = .bool (valK xs k) ∧ Below w.heap.size w wr) (fun _ i _ => xs.length - (intOf i).toNat)
    case atStart => exact ⟨0, Nat.zero_le _, rfl, by first | (rw [HV0.out]; done) | (rw [HV0.out]; exact congrArg Value.bool (decide_eq_false (by omega))) | (rw [HV0.out]; exact congrArg Value.bool (decide_eq_true (by omega))), HB1.out⟩
    case round =>
      clear HB1 HV0
      obtain ⟨k, hk, rfl, rfl, hb⟩ := hrel
      have HB := Lib.hid hb
      clear hb
      by_cases hlt : k < xs.length
      · obtain ⟨b, o, rfl, hck⟩ := HX.out k hlt
        have hck' := ck hck HB.out
        have HS := Lib.hid (valK_succ hlt)
        clear hck
        generalize xs.getD k 0 = x at *
        generalize valK xs k = q0 at *
        cases q0 with
        | false =>
          have HS2 : Hid (valK xs (k + 1) = false) := Lib.hid (by rw [HS.out]; rfl)
          go_wp2
          go_roundw
          case rel => exact ⟨k + 1, by omega, by go_num, by rw [HS2.out], HB.out⟩
          case measure => simp [intOf]; omega
        | true =>
          by_cases e1 : x < 0
          · have HS2 : Hid (valK xs (k + 1) = false) := Lib.hid (by rw [HS.out]; unfold okI; rw [decide_eq_false (by omega)]; rfl)
            go_wp2
            go_roundw
            case rel => exact ⟨k + 1, by omega, by go_num, by rw [HS2.out], HB.out⟩
            case measure => simp [intOf]; omega
          by_cases e2 : 60 < x
          · have HS2 : Hid (valK xs (k + 1) = false) := Lib.hid (by rw [HS.out]; unfold okI; rw [decide_eq_false (show ¬ x ≤ 60 by omega)]; simp)
            have e3 : decide (x ≤ 60) = false := decide_eq_false (by omega)
            have e4 : decide (0 ≤ x) = true := decide_eq_true (by omega)
            go_wp2
            go_roundw
            case rel => exact ⟨k + 1, by omega, by go_num, by rw [HS2.out], HB.out⟩
            case measure => simp [intOf]; omega
          have HS2 : Hid (valK xs (k + 1) = true) := Lib.hid (by rw [HS.out]; unfold okI; rw [decide_eq_true (by omega), decide_eq_true (show x ≤ 60 by omega)]; rfl)
          have e3 : decide (x ≤ 60) = true := decide_eq_true (by omega)
          have e4 : decide (0 ≤ x) = true := decide_eq_true (by omega)
          go_wp2
          go_roundw
          case rel => exact ⟨k + 1, by omega, by go_num, by rw [HS2.out], HB.out⟩
          case measure => simp [intOf]; omega
      · obtain rfl : k = xs.length := by omega
        have HE := Lib.hid (valK_end xs)
        rw [HE.out, HRv.out]
        go_wp2_with fail
        refine (HAw.out wr).mono ?_
        rintro e wz1 ⟨rfl, hbz⟩
        have HZ1 := Lib.hid (HB.out.trans (hbz.mono HB.out.size))
        clear hbz
        go_wp2
        go_ret
        exact ⟨rfl, HZ1.out⟩

set_option maxHeartbeats 2000000 in
set_option maxRecDepth 100000 in
theorem rulers_01 (v : Value) (xs : List Int) (w : World) (h : Ints w v xs) (hr : rulV xs = false) (k : Nat) (h1 : 1 ≤ k) (h7 : k ≤ 7) :
    Calls Try.prog 9 #[v, .int .i64 k] w fun e w' => e = .returned (.bool true) ∧ Below w.heap.size w w' := by
  have HL := Lib.hid (fun w' (hb : Below w.heap.size w w') => list_any v _ w' (h.below hb (Nat.le_refl _)))
  have HAw := Lib.hid (fun w => awake_any w)
  have HRu := Lib.hid (fun v' w' (h' : Ints w' v' (xs.take 90)) => Ruler_bad v' _ w' h' (by rw [rulV_take, hr]))
  obtain ⟨ao, cap, rfl, hc1, hc2, hx⟩ := (show Ints w v xs from h).open
  have HX := Lib.hid hx
  have HRv := Lib.hid hr
  clear h hx hr
  obtain ⟨L, r, hL, hno, hyes⟩ := short_ex k h1 h7
  have HSh := Lib.hid (fun w => Short_any k L r w h1 h7 hL hno hyes)
  have HRS := Lib.hid (fun w => rShort_any k L r w h1 h7 hL hno hyes)
  have HEq := Lib.hid (fun v v' w h h' => equal_self v v' r w h h')
  clear hno hyes hL
  by_cases d0 : xs.length < 1
  · have HV0 : Hid (valK xs 0 = false) := Lib.hid (by unfold valK; rw [decide_eq_false (by omega)]; rfl)
    have HB0 := Lib.hid (Below.refl w.heap.size w)
    go_enter Try.func9, Try.ntmps9
    go_wp2_with fail
    refine (HL.out w HB0.out).mono ?_
    rintro e w1 ⟨v1, rfl, hv1, hb1⟩
    have HB1 := Lib.hid (HB0.out.trans (hb1.mono HB0.out.size))
    have A_1 := Lib.hid (hv1)
    clear hb1 hv1
    go_wp2_with fail
    refine (HRu.out v1 w1 A_1.out).mono ?_
    rintro e w' ⟨rfl, rfl⟩
    clear A_1
    go_wp2_with fail
    refine (HSh.out w1).mono ?_
    rintro e w2 ⟨v2, rfl, hv2, hb2⟩
    have HB2 := Lib.hid (HB1.out.trans (hb2.mono HB1.out.size))
    have X_2 := Lib.hid (hv2)
    clear hb2 hv2
    go_wp2_with fail
    refine (HRS.out w2).mono ?_
    rintro e w3 ⟨v3, rfl, hv3, hb3⟩
    have HB3 := Lib.hid (HB2.out.trans (hb3.mono HB2.out.size))
    have X_3 := Lib.hid (X_2.out.below hb3 (Nat.le_refl _))
    have Y_3 := Lib.hid (hv3)
    clear hb3 hv3
    go_wp2_with fail
    refine (HEq.out v2 v3 w3 X_3.out Y_3.out).mono ?_
    rintro e w4 ⟨rfl, hb4⟩
    have HB4 := Lib.hid (HB3.out.trans (hb4.mono HB3.out.size))
    have X_4 := Lib.hid (X_3.out.below hb4 (Nat.le_refl _))
    have Y_4 := Lib.hid (Y_3.out.below hb4 (Nat.le_refl _))
    clear hb4
    clear X_4
    clear Y_4
    go_wp2_with fail
    go_loopw [9, 55] (fun b i wr => ∃ k : Nat, k ≤ xs.length ∧ i = .int .i64 k ∧ b = .bool (valK xs k) ∧ Below w.heap.size w wr) (fun _ i _ => xs.length - (intOf i).toNat)
    case atStart => exact ⟨0, Nat.zero_le _, rfl, by first | (rw [HV0.out]; done) | (rw [HV0.out]; exact congrArg Value.bool (decide_eq_false (by omega))) | (rw [HV0.out]; exact congrArg Value.bool (decide_eq_true (by omega))), HB4.out⟩
    case round =>
      clear HB4 HV0
      obtain ⟨k, hk, rfl, rfl, hb⟩ := hrel
      have HB := Lib.hid hb
      clear hb
      by_cases hlt : k < xs.length
      · exfalso; omega
      · obtain rfl : k = xs.length := by omega
        have HE := Lib.hid (valK_end xs)
        rw [HE.out, HRv.out]
        go_wp2_with fail
        refine (HAw.out wr).mono ?_
        rintro e wz1 ⟨rfl, hbz⟩
        have HZ1 := Lib.hid (HB.out.trans (hbz.mono HB.out.size))
        clear hbz
        go_wp2
        go_ret
        exact ⟨rfl, HZ1.out⟩
  by_cases d2288 : 10 < xs.length
  · have HV0 : Hid (valK xs 0 = false) := Lib.hid (by unfold valK; rw [decide_eq_false (by omega)]; rfl)
    have HB0 := Lib.hid (Below.refl w.heap.size w)
    go_enter Try.func9, Try.ntmps9
    go_wp2_with fail
    refine (HL.out w HB0.out).mono ?_
    rintro e w1 ⟨v1, rfl, hv1, hb1⟩
    have HB1 := Lib.hid (HB0.out.trans (hb1.mono HB0.out.size))
    have A_1 := Lib.hid (hv1)
    clear hb1 hv1
    go_wp2_with fail
    refine (HRu.out v1 w1 A_1.out).mono ?_
    rintro e w' ⟨rfl, rfl⟩
    clear A_1
    go_wp2_with fail
    refine (HSh.out w1).mono ?_
    rintro e w2 ⟨v2, rfl, hv2, hb2⟩
    have HB2 := Lib.hid (HB1.out.trans (hb2.mono HB1.out.size))
    have X_2 := Lib.hid (hv2)
    clear hb2 hv2
    go_wp2_with fail
    refine (HRS.out w2).mono ?_
    rintro e w3 ⟨v3, rfl, hv3, hb3⟩
    have HB3 := Lib.hid (HB2.out.trans (hb3.mono HB2.out.size))
    have X_3 := Lib.hid (X_2.out.below hb3 (Nat.le_refl _))
    have Y_3 := Lib.hid (hv3)
    clear hb3 hv3
    go_wp2_with fail
    refine (HEq.out v2 v3 w3 X_3.out Y_3.out).mono ?_
    rintro e w4 ⟨rfl, hb4⟩
    have HB4 := Lib.hid (HB3.out.trans (hb4.mono HB3.out.size))
    have X_4 := Lib.hid (X_3.out.below hb4 (Nat.le_refl _))
    have Y_4 := Lib.hid (Y_3.out.below hb4 (Nat.le_refl _))
    clear hb4
    clear X_4
    clear Y_4
    go_wp2_with fail
    go_loopw [9, 55] (fun b i wr => ∃ k : Nat, k ≤ xs.length ∧ i = .int .i64 k ∧ b = .bool (valK xs k) ∧ Below w.heap.size w wr) (fun _ i _ => xs.length - (intOf i).toNat)
    case atStart => exact ⟨0, Nat.zero_le _, rfl, by first | (rw [HV0.out]; done) | (rw [HV0.out]; exact congrArg Value.bool (decide_eq_false (by omega))) | (rw [HV0.out]; exact congrArg Value.bool (decide_eq_true (by omega))), HB4.out⟩
    case round =>
      clear HB4 HV0
      obtain ⟨k, hk, rfl, rfl, hb⟩ := hrel
      have HB := Lib.hid hb
      clear hb
      by_cases hlt : k < xs.length
      · obtain ⟨b, o, rfl, hck⟩ := HX.out k hlt
        have hck' := ck hck HB.out
        have HS := Lib.hid (valK_succ hlt)
        clear hck
        generalize xs.getD k 0 = x at *
        generalize valK xs k = q0 at *
        cases q0 with
        | false =>
          have HS2 : Hid (valK xs (k + 1) = false) := Lib.hid (by rw [HS.out]; rfl)
          go_wp2
          go_roundw
          case rel => exact ⟨k + 1, by omega, by go_num, by rw [HS2.out], HB.out⟩
          case measure => simp [intOf]; omega
        | true =>
          by_cases e1 : x < 0
          · have HS2 : Hid (valK xs (k + 1) = false) := Lib.hid (by rw [HS.out]; unfold okI; rw [decide_eq_false (by omega)]; rfl)
            go_wp2
            go_roundw
            case rel => exact ⟨k + 1, by omega, by go_num, by rw [HS2.out], HB.out⟩
            case measure => simp [intOf]; omega
          by_cases e2 : 60 < x
          · have HS2 : Hid (valK xs (k + 1) = false) := Lib.hid (by rw [HS.out]; unfold okI; rw [decide_eq_false (show ¬ x ≤ 60 by omega)]; simp)
            have e3 : decide (x ≤ 60) = false := decide_eq_false (by omega)
            have e4 : decide (0 ≤ x) = true := decide_eq_true (by omega)
            go_wp2
            go_roundw
            case rel => exact ⟨k + 1, by omega, by go_num, by rw [HS2.out], HB.out⟩
            case measure => simp [intOf]; omega
          have HS2 : Hid (valK xs (k + 1) = true) := Lib.hid (by rw [HS.out]; unfold okI; rw [decide_eq_true (by omega), decide_eq_true (show x ≤ 60 by omega)]; rfl)
          have e3 : decide (x ≤ 60) = true := decide_eq_true (by omega)
          have e4 : decide (0 ≤ x) = true := decide_eq_true (by omega)
          go_wp2
          go_roundw
          case rel => exact ⟨k + 1, by omega, by go_num, by rw [HS2.out], HB.out⟩
          case measure => simp [intOf]; omega
      · obtain rfl : k = xs.length := by omega
        have HE := Lib.hid (valK_end xs)
        rw [HE.out, HRv.out]
        go_wp2_with fail
        refine (HAw.out wr).mono ?_
        rintro e wz1 ⟨rfl, hbz⟩
        have HZ1 := Lib.hid (HB.out.trans (hbz.mono HB.out.size))
        clear hbz
        go_wp2
        go_ret
        exact ⟨rfl, HZ1.out⟩
  have HV0 : Hid (valK xs 0 = true) := Lib.hid (by unfold valK; rw [decide_eq_true (by omega)]; rfl)
  have q1 : 1 ≤ xs.length := by omega
  have q2 : xs.length ≤ 10 := by omega
  have HB0 := Lib.hid (Below.refl w.heap.size w)
  go_enter Try.func9, Try.ntmps9
  go_wp2_with fail
  refine (HL.out w HB0.out).mono ?_
  rintro e w1 ⟨v1, rfl, hv1, hb1⟩
  have HB1 := Lib.hid (HB0.out.trans (hb1.mono HB0.out.size))
  have A_1 := Lib.hid (hv1)
  clear hb1 hv1
  go_wp2_with fail
  refine (HRu.out v1 w1 A_1.out).mono ?_
  rintro e w' ⟨rfl, rfl⟩
  clear A_1
  go_wp2_with fail
  refine (HSh.out w1).mono ?_
  rintro e w2 ⟨v2, rfl, hv2, hb2⟩
  have HB2 := Lib.hid (HB1.out.trans (hb2.mono HB1.out.size))
  have X_2 := Lib.hid (hv2)
  clear hb2 hv2
  go_wp2_with fail
  refine (HRS.out w2).mono ?_
  rintro e w3 ⟨v3, rfl, hv3, hb3⟩
  have HB3 := Lib.hid (HB2.out.trans (hb3.mono HB2.out.size))
  have X_3 := Lib.hid (X_2.out.below hb3 (Nat.le_refl _))
  have Y_3 := Lib.hid (hv3)
  clear hb3 hv3
  go_wp2_with fail
  refine (HEq.out v2 v3 w3 X_3.out Y_3.out).mono ?_
  rintro e w4 ⟨rfl, hb4⟩
  have HB4 := Lib.hid (HB3.out.trans (hb4.mono HB3.out.size))
  have X_4 := Lib.hid (X_3.out.below hb4 (Nat.le_refl _))
  have Y_4 := Lib.hid (Y_3.out.below hb4 (Nat.le_refl _))
  clear hb4
  clear X_4
  clear Y_4
  go_wp2_with fail
  go_loopw [9, 55] (fun b i wr => ∃ k : Nat, k ≤ xs.length ∧ i = .int .i64 k ∧ b = .bool (valK xs k) ∧ Below w.heap.size w wr) (fun _ i _ => xs.length - (intOf i).toNat)
  case atStart => exact ⟨0, Nat.zero_le _, rfl, by first | (rw [HV0.out]; done) | (rw [HV0.out]; exact congrArg Value.bool (decide_eq_false (by omega))) | (rw [HV0.out]; exact congrArg Value.bool (decide_eq_true (by omega))), HB4.out⟩
  case round =>
    clear HB4 HV0
    obtain ⟨k, hk, rfl, rfl, hb⟩ := hrel
    have HB := Lib.hid hb
    clear hb
    by_cases hlt : k < xs.length
    · obtain ⟨b, o, rfl, hck⟩ := HX.out k hlt
      have hck' := ck hck HB.out
      have HS := Lib.hid (valK_succ hlt)
      clear hck
      generalize xs.getD k 0 = x at *
      generalize valK xs k = q0 at *
      cases q0 with
      | false =>
        have HS2 : Hid (valK xs (k + 1) = false) := Lib.hid (by rw [HS.out]; rfl)
        go_wp2
        go_roundw
        case rel => exact ⟨k + 1, by omega, by go_num, by rw [HS2.out], HB.out⟩
        case measure => simp [intOf]; omega
      | true =>
        by_cases e1 : x < 0
        · have HS2 : Hid (valK xs (k + 1) = false) := Lib.hid (by rw [HS.out]; unfold okI; rw [decide_eq_false (by omega)]; rfl)
          go_wp2
          go_roundw
          case rel => exact ⟨k + 1, by omega, by go_num, by rw [HS2.out], HB.out⟩
          case measure => simp [intOf]; omega
        by_cases e2 : 60 < x
        · have HS2 : Hid (valK xs (k + 1) = false) := Lib.hid (by rw [HS.out]; unfold okI; rw [decide_eq_false (show ¬ x ≤ 60 by omega)]; simp)
          have e3 : decide (x ≤ 60) = false := decide_eq_false (by omega)
          have e4 : decide (0 ≤ x) = true := decide_eq_true (by omega)
          go_wp2
          go_roundw
          case rel => exact ⟨k + 1, by omega, by go_num, by rw [HS2.out], HB.out⟩
          case measure => simp [intOf]; omega
        have HS2 : Hid (valK xs (k + 1) = true) := Lib.hid (by rw [HS.out]; unfold okI; rw [decide_eq_true (by omega), decide_eq_true (show x ≤ 60 by omega)]; rfl)
        have e3 : decide (x ≤ 60) = true := decide_eq_true (by omega)
        have e4 : decide (0 ≤ x) = true := decide_eq_true (by omega)
        go_wp2
        go_roundw
        case rel => exact ⟨k + 1, by omega, by go_num, by rw [HS2.out], HB.out⟩
        case measure => simp [intOf]; omega
    · obtain rfl : k = xs.length := by omega
      have HE := Lib.hid (valK_end xs)
      rw [HE.out, HRv.out]
      go_wp2_with fail
      refine (HAw.out wr).mono ?_
      rintro e wz1 ⟨rfl, hbz⟩
      have HZ1 := Lib.hid (HB.out.trans (hbz.mono HB.out.size))
      clear hbz
      go_wp2
      go_ret
      exact ⟨rfl, HZ1.out⟩

set_option maxHeartbeats 2000000 in
set_option maxRecDepth 100000 in
theorem rulers_10 (v : Value) (xs : List Int) (l : List Nat) (w : World) (h : Nats w v l) (hxl : xs = nats l) (hr : rulV xs = true) (hl1 : 1 ≤ l.length) (hl10 : l.length ≤ 10) (hlb : ∀ y ∈ l, y ≤ 60) (k : Int) (hk : k < 1 ∨ 7 < k) :
    Calls Try.prog 9 #[v, .int .i64 k] w fun e w' => e = .returned (.bool true) ∧ Below w.heap.size w w' := by
  have HL := Lib.hid (fun w' (hb : Below w.heap.size w w') => list_any v _ w' (h.below hb (Nat.le_refl _)))
  have HAw := Lib.hid (fun w => awake_any w)
  rw [nats_take9 (by omega)] at HL
  have HRu := Lib.hid (fun v' w' (h' : Nats w' v' l) => Ruler_any v' l w' hl1 hl10 hlb h')
  have HRR := Lib.hid (fun w' (hb : Below w.heap.size w w') => rRuler_any v l w' hlb (by omega) (by omega) (h.below hb (Nat.le_refl _)))
  generalize rulB l = p at *
  have hxlen : xs.length = l.length := by rw [hxl, nats_length]
  obtain ⟨ao, cap, rfl, hc1, hc2, hx⟩ := (show Ints w v xs from (by rw [hxl]; exact h)).open
  have HX := Lib.hid hx
  have HRv := Lib.hid hr
  clear h hx hr hlb hxl
  rcases hk with hk | hk
  · have HSh := Lib.hid (fun w => Short_bad k w (.inl hk))
    have HV0 : Hid (valK xs 0 = true) := Lib.hid (by unfold valK; rw [decide_eq_true (by omega)]; rfl)
    have q1 : 1 ≤ xs.length := by omega
    have q2 : xs.length ≤ 10 := by omega
    clear hxlen hl1 hl10
    have HB0 := Lib.hid (Below.refl w.heap.size w)
    go_enter Try.func9, Try.ntmps9
    go_wp2_with fail
    refine (HL.out w HB0.out).mono ?_
    rintro e w1 ⟨v1, rfl, hv1, hb1⟩
    have HB1 := Lib.hid (HB0.out.trans (hb1.mono HB0.out.size))
    have A_1 := Lib.hid (hv1)
    clear hb1 hv1
    go_wp2_with fail
    refine (HRu.out v1 w1 A_1.out).mono ?_
    rintro e w2 ⟨rfl, hb2⟩
    have HB2 := Lib.hid (HB1.out.trans (hb2.mono HB1.out.size))
    have A_2 := Lib.hid (A_1.out.below hb2 (Nat.le_refl _))
    clear hb2
    clear A_2
    go_wp2_with fail
    refine (HSh.out w2).mono ?_
    rintro e w' ⟨rfl, rfl⟩
    go_wp2_with fail
    go_loopw [9, 55] (fun b i wr => ∃ k : Nat, k ≤ xs.length ∧ i = .int .i64 k ∧ b = .bool (valK xs k) ∧ Below w.heap.size w wr) (fun _ i _ => xs.length - (intOf i).toNat)
    case atStart => exact ⟨0, Nat.zero_le _, rfl, by first | (rw [HV0.out]; done) | (rw [HV0.out]; exact congrArg Value.bool (decide_eq_false (by omega))) | (rw [HV0.out]; exact congrArg Value.bool (decide_eq_true (by omega))), HB2.out⟩
    case round =>
      clear HB2 HV0
      obtain ⟨k, hk, rfl, rfl, hb⟩ := hrel
      have HB := Lib.hid hb
      clear hb
      by_cases hlt : k < xs.length
      · obtain ⟨b, o, rfl, hck⟩ := HX.out k hlt
        have hck' := ck hck HB.out
        have HS := Lib.hid (valK_succ hlt)
        clear hck
        generalize xs.getD k 0 = x at *
        generalize valK xs k = q0 at *
        cases q0 with
        | false =>
          have HS2 : Hid (valK xs (k + 1) = false) := Lib.hid (by rw [HS.out]; rfl)
          go_wp2
          go_roundw
          case rel => exact ⟨k + 1, by omega, by go_num, by rw [HS2.out], HB.out⟩
          case measure => simp [intOf]; omega
        | true =>
          by_cases e1 : x < 0
          · have HS2 : Hid (valK xs (k + 1) = false) := Lib.hid (by rw [HS.out]; unfold okI; rw [decide_eq_false (by omega)]; rfl)
            go_wp2
            go_roundw
            case rel => exact ⟨k + 1, by omega, by go_num, by rw [HS2.out], HB.out⟩
            case measure => simp [intOf]; omega
          by_cases e2 : 60 < x
          · have HS2 : Hid (valK xs (k + 1) = false) := Lib.hid (by rw [HS.out]; unfold okI; rw [decide_eq_false (show ¬ x ≤ 60 by omega)]; simp)
            have e3 : decide (x ≤ 60) = false := decide_eq_false (by omega)
            have e4 : decide (0 ≤ x) = true := decide_eq_true (by omega)
            go_wp2
            go_roundw
            case rel => exact ⟨k + 1, by omega, by go_num, by rw [HS2.out], HB.out⟩
            case measure => simp [intOf]; omega
          have HS2 : Hid (valK xs (k + 1) = true) := Lib.hid (by rw [HS.out]; unfold okI; rw [decide_eq_true (by omega), decide_eq_true (show x ≤ 60 by omega)]; rfl)
          have e3 : decide (x ≤ 60) = true := decide_eq_true (by omega)
          have e4 : decide (0 ≤ x) = true := decide_eq_true (by omega)
          go_wp2
          go_roundw
          case rel => exact ⟨k + 1, by omega, by go_num, by rw [HS2.out], HB.out⟩
          case measure => simp [intOf]; omega
      · obtain rfl : k = xs.length := by omega
        have HE := Lib.hid (valK_end xs)
        rw [HE.out, HRv.out]
        go_wp2_with fail
        refine (HRR.out wr HB.out).mono ?_
        rintro e wz1 ⟨rfl, hbz⟩
        have HZ1 := Lib.hid (HB.out.trans (hbz.mono HB.out.size))
        clear hbz
        go_wp2_with fail
        refine (HAw.out wz1).mono ?_
        rintro e wz2 ⟨rfl, hbz⟩
        have HZ2 := Lib.hid (HZ1.out.trans (hbz.mono HZ1.out.size))
        clear hbz
        go_wp2
        go_ret
        exact ⟨rfl, HZ2.out⟩
  · have HSh := Lib.hid (fun w => Short_bad k w (.inr hk))
    have hk1 : ¬ k < 1 := by omega
    have HV0 : Hid (valK xs 0 = true) := Lib.hid (by unfold valK; rw [decide_eq_true (by omega)]; rfl)
    have q1 : 1 ≤ xs.length := by omega
    have q2 : xs.length ≤ 10 := by omega
    clear hxlen hl1 hl10
    have HB0 := Lib.hid (Below.refl w.heap.size w)
    go_enter Try.func9, Try.ntmps9
    go_wp2_with fail
    refine (HL.out w HB0.out).mono ?_
    rintro e w1 ⟨v1, rfl, hv1, hb1⟩
    have HB1 := Lib.hid (HB0.out.trans (hb1.mono HB0.out.size))
    have A_1 := Lib.hid (hv1)
    clear hb1 hv1
    go_wp2_with fail
    refine (HRu.out v1 w1 A_1.out).mono ?_
    rintro e w2 ⟨rfl, hb2⟩
    have HB2 := Lib.hid (HB1.out.trans (hb2.mono HB1.out.size))
    have A_2 := Lib.hid (A_1.out.below hb2 (Nat.le_refl _))
    clear hb2
    clear A_2
    go_wp2_with fail
    refine (HSh.out w2).mono ?_
    rintro e w' ⟨rfl, rfl⟩
    go_wp2_with fail
    go_loopw [9, 55] (fun b i wr => ∃ k : Nat, k ≤ xs.length ∧ i = .int .i64 k ∧ b = .bool (valK xs k) ∧ Below w.heap.size w wr) (fun _ i _ => xs.length - (intOf i).toNat)
    case atStart => exact ⟨0, Nat.zero_le _, rfl, by first | (rw [HV0.out]; done) | (rw [HV0.out]; exact congrArg Value.bool (decide_eq_false (by omega))) | (rw [HV0.out]; exact congrArg Value.bool (decide_eq_true (by omega))), HB2.out⟩
    case round =>
      clear HB2 HV0
      obtain ⟨k, hk, rfl, rfl, hb⟩ := hrel
      have HB := Lib.hid hb
      clear hb
      by_cases hlt : k < xs.length
      · obtain ⟨b, o, rfl, hck⟩ := HX.out k hlt
        have hck' := ck hck HB.out
        have HS := Lib.hid (valK_succ hlt)
        clear hck
        generalize xs.getD k 0 = x at *
        generalize valK xs k = q0 at *
        cases q0 with
        | false =>
          have HS2 : Hid (valK xs (k + 1) = false) := Lib.hid (by rw [HS.out]; rfl)
          go_wp2
          go_roundw
          case rel => exact ⟨k + 1, by omega, by go_num, by rw [HS2.out], HB.out⟩
          case measure => simp [intOf]; omega
        | true =>
          by_cases e1 : x < 0
          · have HS2 : Hid (valK xs (k + 1) = false) := Lib.hid (by rw [HS.out]; unfold okI; rw [decide_eq_false (by omega)]; rfl)
            go_wp2
            go_roundw
            case rel => exact ⟨k + 1, by omega, by go_num, by rw [HS2.out], HB.out⟩
            case measure => simp [intOf]; omega
          by_cases e2 : 60 < x
          · have HS2 : Hid (valK xs (k + 1) = false) := Lib.hid (by rw [HS.out]; unfold okI; rw [decide_eq_false (show ¬ x ≤ 60 by omega)]; simp)
            have e3 : decide (x ≤ 60) = false := decide_eq_false (by omega)
            have e4 : decide (0 ≤ x) = true := decide_eq_true (by omega)
            go_wp2
            go_roundw
            case rel => exact ⟨k + 1, by omega, by go_num, by rw [HS2.out], HB.out⟩
            case measure => simp [intOf]; omega
          have HS2 : Hid (valK xs (k + 1) = true) := Lib.hid (by rw [HS.out]; unfold okI; rw [decide_eq_true (by omega), decide_eq_true (show x ≤ 60 by omega)]; rfl)
          have e3 : decide (x ≤ 60) = true := decide_eq_true (by omega)
          have e4 : decide (0 ≤ x) = true := decide_eq_true (by omega)
          go_wp2
          go_roundw
          case rel => exact ⟨k + 1, by omega, by go_num, by rw [HS2.out], HB.out⟩
          case measure => simp [intOf]; omega
      · obtain rfl : k = xs.length := by omega
        have HE := Lib.hid (valK_end xs)
        rw [HE.out, HRv.out]
        go_wp2_with fail
        refine (HRR.out wr HB.out).mono ?_
        rintro e wz1 ⟨rfl, hbz⟩
        have HZ1 := Lib.hid (HB.out.trans (hbz.mono HB.out.size))
        clear hbz
        go_wp2_with fail
        refine (HAw.out wz1).mono ?_
        rintro e wz2 ⟨rfl, hbz⟩
        have HZ2 := Lib.hid (HZ1.out.trans (hbz.mono HZ1.out.size))
        clear hbz
        go_wp2
        go_ret
        exact ⟨rfl, HZ2.out⟩

set_option maxHeartbeats 2000000 in
set_option maxRecDepth 100000 in
theorem rulers_11 (v : Value) (xs : List Int) (l : List Nat) (w : World) (h : Nats w v l) (hxl : xs = nats l) (hr : rulV xs = true) (hl1 : 1 ≤ l.length) (hl10 : l.length ≤ 10) (hlb : ∀ y ∈ l, y ≤ 60) (k : Nat) (h1 : 1 ≤ k) (h7 : k ≤ 7) :
    Calls Try.prog 9 #[v, .int .i64 k] w fun e w' => e = .returned (.bool true) ∧ Below w.heap.size w w' := by
  have HL := Lib.hid (fun w' (hb : Below w.heap.size w w') => list_any v _ w' (h.below hb (Nat.le_refl _)))
  have HAw := Lib.hid (fun w => awake_any w)
  rw [nats_take9 (by omega)] at HL
  have HRu := Lib.hid (fun v' w' (h' : Nats w' v' l) => Ruler_any v' l w' hl1 hl10 hlb h')
  have HRR := Lib.hid (fun w' (hb : Below w.heap.size w w') => rRuler_any v l w' hlb (by omega) (by omega) (h.below hb (Nat.le_refl _)))
  generalize rulB l = p at *
  have hxlen : xs.length = l.length := by rw [hxl, nats_length]
  obtain ⟨ao, cap, rfl, hc1, hc2, hx⟩ := (show Ints w v xs from (by rw [hxl]; exact h)).open
  have HX := Lib.hid hx
  have HRv := Lib.hid hr
  clear h hx hr hlb hxl
  obtain ⟨L, r, hL, hno, hyes⟩ := short_ex k h1 h7
  have HSh := Lib.hid (fun w => Short_any k L r w h1 h7 hL hno hyes)
  have HRS := Lib.hid (fun w => rShort_any k L r w h1 h7 hL hno hyes)
  have HEq := Lib.hid (fun v v' w h h' => equal_self v v' r w h h')
  clear hno hyes hL
  have HV0 : Hid (valK xs 0 = true) := Lib.hid (by unfold valK; rw [decide_eq_true (by omega)]; rfl)
  have q1 : 1 ≤ xs.length := by omega
  have q2 : xs.length ≤ 10 := by omega
  clear hxlen hl1 hl10
  have HB0 := Lib.hid (Below.refl w.heap.size w)
  go_enter Try.func9, Try.ntmps9
  go_wp2_with fail
  refine (HL.out w HB0.out).mono ?_
  rintro e w1 ⟨v1, rfl, hv1, hb1⟩
  have HB1 := Lib.hid (HB0.out.trans (hb1.mono HB0.out.size))
  have A_1 := Lib.hid (hv1)
  clear hb1 hv1
  go_wp2_with fail
  refine (HRu.out v1 w1 A_1.out).mono ?_
  rintro e w2 ⟨rfl, hb2⟩
  have HB2 := Lib.hid (HB1.out.trans (hb2.mono HB1.out.size))
  have A_2 := Lib.hid (A_1.out.below hb2 (Nat.le_refl _))
  clear hb2
  clear A_2
  go_wp2_with fail
  refine (HSh.out w2).mono ?_
  rintro e w3 ⟨v3, rfl, hv3, hb3⟩
  have HB3 := Lib.hid (HB2.out.trans (hb3.mono HB2.out.size))
  have X_3 := Lib.hid (hv3)
  clear hb3 hv3
  go_wp2_with fail
  refine (HRS.out w3).mono ?_
  rintro e w4 ⟨v4, rfl, hv4, hb4⟩
  have HB4 := Lib.hid (HB3.out.trans (hb4.mono HB3.out.size))
  have X_4 := Lib.hid (X_3.out.below hb4 (Nat.le_refl _))
  have Y_4 := Lib.hid (hv4)
  clear hb4 hv4
  go_wp2_with fail
  refine (HEq.out v3 v4 w4 X_4.out Y_4.out).mono ?_
  rintro e w5 ⟨rfl, hb5⟩
  have HB5 := Lib.hid (HB4.out.trans (hb5.mono HB4.out.size))
  have X_5 := Lib.hid (X_4.out.below hb5 (Nat.le_refl _))
  have Y_5 := Lib.hid (Y_4.out.below hb5 (Nat.le_refl _))
  clear hb5
  clear X_5
  clear Y_5
  go_wp2_with fail
  go_loopw [9, 55] (fun b i wr => ∃ k : Nat, k ≤ xs.length ∧ i = .int .i64 k ∧ b = .bool (valK xs k) ∧ Below w.heap.size w wr) (fun _ i _ => xs.length - (intOf i).toNat)
  case atStart => exact ⟨0, Nat.zero_le _, rfl, by first | (rw [HV0.out]; done) | (rw [HV0.out]; exact congrArg Value.bool (decide_eq_false (by omega))) | (rw [HV0.out]; exact congrArg Value.bool (decide_eq_true (by omega))), HB5.out⟩
  case round =>
    clear HB5 HV0
    obtain ⟨k, hk, rfl, rfl, hb⟩ := hrel
    have HB := Lib.hid hb
    clear hb
    by_cases hlt : k < xs.length
    · obtain ⟨b, o, rfl, hck⟩ := HX.out k hlt
      have hck' := ck hck HB.out
      have HS := Lib.hid (valK_succ hlt)
      clear hck
      generalize xs.getD k 0 = x at *
      generalize valK xs k = q0 at *
      cases q0 with
      | false =>
        have HS2 : Hid (valK xs (k + 1) = false) := Lib.hid (by rw [HS.out]; rfl)
        go_wp2
        go_roundw
        case rel => exact ⟨k + 1, by omega, by go_num, by rw [HS2.out], HB.out⟩
        case measure => simp [intOf]; omega
      | true =>
        by_cases e1 : x < 0
        · have HS2 : Hid (valK xs (k + 1) = false) := Lib.hid (by rw [HS.out]; unfold okI; rw [decide_eq_false (by omega)]; rfl)
          go_wp2
          go_roundw
          case rel => exact ⟨k + 1, by omega, by go_num, by rw [HS2.out], HB.out⟩
          case measure => simp [intOf]; omega
        by_cases e2 : 60 < x
        · have HS2 : Hid (valK xs (k + 1) = false) := Lib.hid (by rw [HS.out]; unfold okI; rw [decide_eq_false (show ¬ x ≤ 60 by omega)]; simp)
          have e3 : decide (x ≤ 60) = false := decide_eq_false (by omega)
          have e4 : decide (0 ≤ x) = true := decide_eq_true (by omega)
          go_wp2
          go_roundw
          case rel => exact ⟨k + 1, by omega, by go_num, by rw [HS2.out], HB.out⟩
          case measure => simp [intOf]; omega
        have HS2 : Hid (valK xs (k + 1) = true) := Lib.hid (by rw [HS.out]; unfold okI; rw [decide_eq_true (by omega), decide_eq_true (show x ≤ 60 by omega)]; rfl)
        have e3 : decide (x ≤ 60) = true := decide_eq_true (by omega)
        have e4 : decide (0 ≤ x) = true := decide_eq_true (by omega)
        go_wp2
        go_roundw
        case rel => exact ⟨k + 1, by omega, by go_num, by rw [HS2.out], HB.out⟩
        case measure => simp [intOf]; omega
    · obtain rfl : k = xs.length := by omega
      have HE := Lib.hid (valK_end xs)
      rw [HE.out, HRv.out]
      go_wp2_with fail
      refine (HRR.out wr HB.out).mono ?_
      rintro e wz1 ⟨rfl, hbz⟩
      have HZ1 := Lib.hid (HB.out.trans (hbz.mono HB.out.size))
      clear hbz
      go_wp2_with fail
      refine (HAw.out wz1).mono ?_
      rintro e wz2 ⟨rfl, hbz⟩
      have HZ2 := Lib.hid (HZ1.out.trans (hbz.mono HZ1.out.size))
      clear hbz
      go_wp2
      go_ret
      exact ⟨rfl, HZ2.out⟩

theorem capsRulers_law (v : Value) (xs : List Int) (k : Int) (w : World) (h : Ints w v xs) :
    Calls Try.prog 9 #[v, .int .i64 k] w fun e w' => e = .returned (.bool true) ∧ Below w.heap.size w w' := by
  cases hr : rulV xs with
  | false =>
    by_cases hk : k < 1 ∨ 7 < k
    · exact rulers_00 v xs w h hr k hk
    · obtain ⟨k, rfl⟩ := Int.eq_ofNat_of_zero_le (show 0 ≤ k by omega)
      exact rulers_01 v xs w h hr k (by omega) (by omega)
  | true =>
    obtain ⟨l, hl, h1, h10, hb⟩ := rulV_nats hr
    by_cases hk : k < 1 ∨ 7 < k
    · exact rulers_10 v xs l w (show Ints w v (nats l) from by rw [← hl]; exact h) hl hr h1 h10 hb k hk
    · obtain ⟨k, rfl⟩ := Int.eq_ofNat_of_zero_le (show 0 ≤ k by omega)
      exact rulers_11 v xs l w (show Ints w v (nats l) from by rw [← hl]; exact h) hl hr h1 h10 hb k (by omega) (by omega)
end Go.Proofs.Ytlalfjkenkmojaa
