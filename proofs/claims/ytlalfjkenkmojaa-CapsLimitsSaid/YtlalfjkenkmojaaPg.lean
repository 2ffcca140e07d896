/- the reference's Painted -/
import Derived.Test.YtlalfjkenkmojaaKg
namespace Go.Proofs.Ytlalfjkenkmojaa
open Go.RowKit

def ruleK (k : Nat) : List Nat → Nat → Bool := if k = 0 then sumFree else strideB k
def sameK (l : List Nat) (c b i : Nat) : Bool := (List.range i).all fun j => j == 0 || l.getD (l.length - j * b) 0 == c
theorem same_succ (l : List Nat) (c b i : Nat) : sameK l c b (i + 1) = (sameK l c b i && (i == 0 || l.getD (l.length - i * b) 0 == c)) := by
  unfold sameK
  rw [List.range_succ, List.all_append]
  simp
theorem same3 (l : List Nat) (c b : Nat) : sameK l c b 3 = strideF 3 l c b := by
  simp [sameK, strideF, List.range_succ]
theorem same4 (l : List Nat) (c b : Nat) : sameK l c b 4 = strideF 4 l c b := by
  simp [sameK, strideF, List.range_succ]
theorem sumFreeR_bad {l : List Nat} {c j : Nat} (hj : 2 * (j + 1) ≤ l.length + 1) (h : noSumAt l c j = false) : sumFree l c = false := by
  rw [sumFree_R]
  unfold sumFreeR
  rw [List.all_eq_false]
  exact ⟨j, List.mem_range.2 (by omega), by unfold noSumAt at h; rw [h]; decide⟩
theorem sumFreeR_good {l : List Nat} {c : Nat} (h : ∀ j, 2 * (j + 1) ≤ l.length + 1 → noSumAt l c j = true) : sumFree l c = true := by
  rw [sumFree_R]
  unfold sumFreeR
  rw [List.all_eq_true]
  exact fun j hj => h j (by have := List.mem_range.1 hj; omega)

set_option maxHeartbeats 4000000 in
set_option maxRecDepth 100000 in
theorem painted0_any (c : Nat) (v : Value) (l : List Nat) (w : World) (hl : l.length ≤ 1000) (h : Nats w v (l ++ [c])) :
    Calls Try.prog 97 #[v, .int .i64 0] w fun e w' => e = .returned (.bool (sumFree l c)) ∧ Below w.heap.size w w' := by
  obtain ⟨ao, cap, rfl, h1, h2, hx⟩ := h.open
  obtain ⟨n, hn⟩ : ∃ n, n = (l ++ [c]).length := ⟨_, rfl⟩
  have HNl : Hid (n = l.length + 1) := Lib.hid (by rw [hn]; simp)
  rw [← hn] at h1 h2 hx ⊢
  have HX := Lib.hid hx
  have HLast : Hid (∃ b o, ao = some ⟨b, o, none⟩ ∧ w.cell? ⟨b, o + l.length, none⟩ = some (.int .i64 c)) := Lib.hid (by
    obtain ⟨b, o, e, hc⟩ := hx l.length (by have := HNl.out; omega)
    rw [snoc_last] at hc
    exact ⟨b, o, e, hc⟩)
  clear h hx hn
  go_enter Try.func97, Try.ntmps97
  go_wp2_with fail
  go_loopw [6] (fun i wr => ∃ j : Nat, 2 * j ≤ n ∧ i = .int .i64 ((j + 1 : Nat) : Int) ∧ (∀ i : Nat, i < j → 2 * (i + 1) ≤ l.length + 1 → noSumAt l c i = true) ∧ Below w.heap.size w wr) (fun i _ => n + 2 - (intOf i).toNat)
  case atStart => exact ⟨0, by omega, rfl, fun j hj => absurd hj (by omega), Below.refl _ _⟩
  case round =>
    obtain ⟨j, hj, rfl, hall, hb⟩ := hrel
    have HA := Lib.hid hall
    have HB := Lib.hid hb
    clear hall hb
    obtain ⟨x, hx⟩ : ∃ x, x = j + 1 := ⟨_, rfl⟩
    have HXx := Lib.hid hx
    have hxn : x ≤ n + 1 := by omega
    rw [← hx]
    by_cases hlt : 2 * x ≤ n
    · have hnl := HNl.out
      have HBad := Lib.hid (fun (h : noSumAt l c j = false) => sumFreeR_bad (l := l) (c := c) (j := j) (by omega) h)
      have HNx := Lib.hid (fun (h : noSumAt l c j = true) (i : Nat) (hi : i < j + 1) (hil : 2 * (i + 1) ≤ l.length + 1) => if e : i = j then (e ▸ h : noSumAt l c i = true) else HA.out i (by omega) hil)
      have HR : Hid (noSumAt l c j = !(l.getD j 0 == c && l.getD (l.length - 1 - j) 0 == c)) := Lib.hid rfl
      obtain ⟨b, o, rfl, hcl⟩ := HLast.out
      obtain ⟨b', o', he, hc1⟩ := HX.out j (by omega)
      simp only [Option.some.injEq, Addr.mk.injEq] at he
      obtain ⟨rfl, rfl, _⟩ := he
      obtain ⟨b', o', he, hc2⟩ := HX.out (l.length - 1 - j) (by omega)
      simp only [Option.some.injEq, Addr.mk.injEq] at he
      obtain ⟨rfl, rfl, _⟩ := he
      rw [snoc_at (by omega)] at hc1 hc2
      have hcl' := ck hcl HB.out
      have hc1' := ck hc1 HB.out
      have hc2' := ck hc2 HB.out
      clear hcl hc1 hc2 HLast
      generalize l.getD j 0 = z at *
      generalize l.getD (l.length - 1 - j) 0 = y at *
      obtain ⟨q, hq⟩ : ∃ q, q = l.length - 1 - j := ⟨_, rfl⟩
      obtain ⟨p, hp⟩ : ∃ p, p = n - x := ⟨_, rfl⟩
      obtain ⟨m, hm⟩ : ∃ m, m = l.length := ⟨_, rfl⟩
      rw [← hq] at hc2'
      rw [← hm] at hcl'
      have w1 : IntKind.i64.wrap ((x:Int) - 1) = (j:Int) := by rw [show (x:Int) - 1 = j by omega]; exact IntWalk.i64_in _ (by omega)
      have w2 : IntKind.i64.wrap ((n:Int) - 1) = (m:Int) := by rw [show (n:Int) - 1 = m by omega]; exact IntWalk.i64_in _ (by omega)
      have w3 : IntKind.i64.wrap ((n:Int) - x) = (p:Int) := by rw [show (n:Int) - x = p by omega]; exact IntWalk.i64_in _ (by omega)
      have w4 : IntKind.i64.wrap ((p:Int) - 1) = (q:Int) := by rw [show (p:Int) - 1 = q by omega]; exact IntWalk.i64_in _ (by omega)
      have i1 : (j:Int) < (n:Int) := by omega
      have i2 : (m:Int) < (n:Int) := by omega
      have i3 : (q:Int) < (n:Int) := by omega
      have j1 : (0:Int) ≤ (j:Int) := by omega
      have j2 : (0:Int) ≤ (m:Int) := by omega
      have j3 : (0:Int) ≤ (q:Int) := by omega
      have hm2 : m ≤ 1000 := by omega
      have hcond : (2:Int) * x ≤ n := by omega
      clear hq hp hm hx hnl
      by_cases c1 : z = c
      · have d1 : ((z:Int) == (c:Int)) = true := beq_iff_eq.2 (by omega)
        by_cases c2 : y = c
        · have d2 : ((y:Int) == (c:Int)) = true := beq_iff_eq.2 (by omega)
          have HI := Lib.hid (HBad.out (by rw [HR.out, c1, c2]; simp))
          clear c1 c2
          go_wp2_with fail
          go_quiet (fail)
          go_wp2
          go_ret
          exact ⟨ret_bool HI.out.symm, below_drewN HB.out _⟩
        · have d2 : ((y:Int) == (c:Int)) = false := beq_eq_false_iff_ne.2 (by omega)
          have HI := Lib.hid (HNx.out (by rw [HR.out, beq_eq_false_iff_ne.2 c2]; simp))
          clear c1 c2
          go_wp2_with fail
          go_quiet (fail)
          go_wp2
          go_roundw
          case rel => exact ⟨j + 1, by have := HXx.out; omega, vint (by have := HXx.out; omega), HI.out, below_drewN HB.out _⟩
          case measure => have := HXx.out; simp [intOf]; omega
      · have d1 : ((z:Int) == (c:Int)) = false := beq_eq_false_iff_ne.2 (by omega)
        have HI := Lib.hid (HNx.out (by rw [HR.out, beq_eq_false_iff_ne.2 c1]; simp))
        clear c1
        go_wp2_with fail
        go_quiet (fail)
        go_wp2
        go_roundw
        case rel => exact ⟨j + 1, by have := HXx.out; omega, vint (by have := HXx.out; omega), HI.out, below_drewN HB.out _⟩
        case measure => have := HXx.out; simp [intOf]; omega
    · have HI := Lib.hid (sumFreeR_good (l := l) (c := c) fun i hi => HA.out i (by have := HXx.out; have := HNl.out; omega) hi)
      clear hx
      go_wp2
      go_ret
      exact ⟨ret_bool HI.out.symm, HB.out⟩

set_option maxHeartbeats 4000000 in
set_option maxRecDepth 100000 in
theorem painted3_any (c : Nat) (v : Value) (l : List Nat) (w : World) (hl : l.length ≤ 1000) (h : Nats w v (l ++ [c])) :
    Calls Try.prog 97 #[v, .int .i64 3] w fun e w' => e = .returned (.bool (strideB 3 l c)) ∧ Below w.heap.size w w' := by
  obtain ⟨ao, cap, rfl, h1, h2, hx⟩ := h.open
  obtain ⟨n, hn⟩ : ∃ n, n = (l ++ [c]).length := ⟨_, rfl⟩
  have HNl : Hid (n = l.length + 1) := Lib.hid (by rw [hn]; simp)
  have hn2 : n ≤ 1001 := by have := HNl.out; omega
  rw [← hn] at h1 h2 hx ⊢
  have HX := Lib.hid hx
  have HLast : Hid (∃ b o, ao = some ⟨b, o, none⟩ ∧ w.cell? ⟨b, o + l.length, none⟩ = some (.int .i64 c)) := Lib.hid (by
    obtain ⟨b, o, e, hc⟩ := hx l.length (by have := HNl.out; omega)
    rw [snoc_last] at hc
    exact ⟨b, o, e, hc⟩)
  clear h hx hn
  go_enter Try.func97, Try.ntmps97
  go_wp2_with fail
  go_loopw [7] (fun i wr => ∃ b : Nat, b ≤ n ∧ i = .int .i64 ((b + 1 : Nat) : Int) ∧ (∀ j : Nat, j < b → (j + 1) * (3 - 1) ≤ l.length → strideF 3 l c (j + 1) = false) ∧ Below w.heap.size w wr) (fun i _ => n + 2 - (intOf i).toNat)
  case atStart => exact ⟨0, by omega, rfl, fun j hj => absurd hj (by omega), Below.refl _ _⟩
  case round =>
    obtain ⟨b, hb1, rfl, hall, hb⟩ := hrel
    have HA := Lib.hid hall
    have HB := Lib.hid hb
    clear hall hb
    obtain ⟨s, hs⟩ : ∃ s, s = b + 1 := ⟨_, rfl⟩
    have HS := Lib.hid hs
    have hs2 : s ≤ 1002 := by omega
    have hs1 : 1 ≤ s := by omega
    rw [← hs]
    by_cases hlt : 2 * s + 1 ≤ n
    · have HBad := Lib.hid (fun (h : strideF 3 l c s = true) => strideB_bad (k := 3) (l := l) (c := c) (b := b) (by omega) (by have := HNl.out; omega) (hs ▸ h))
      have HNx := Lib.hid (fun (h : strideF 3 l c s = false) (j : Nat) (hj : j < b + 1) (hjl : (j + 1) * (3 - 1) ≤ l.length) => if e : j = b then (by rw [e, ← hs]; exact h : strideF 3 l c (j + 1) = false) else HA.out j (by omega) hjl)
      have q1 : (1:Int) ≤ (n:Int) - 2 * (s:Int) := by omega
      clear hs
      go_wp2_with fail
      clear q1
      go_loopw [8, 56] (fun same i wr => ∃ k : Nat, k ≤ 3 ∧ i = .int .i64 k ∧ same = .bool (sameK l c s k) ∧ Below w.heap.size w wr) (fun _ i _ => 3 - (intOf i).toNat)
      case atStart => exact ⟨0, by omega, rfl, rfl, HB.out⟩
      case round =>
        clear HB
        obtain ⟨k, hk, rfl, rfl, hb⟩ := hrel
        have HB := Lib.hid hb
        clear hb
        have HSu := Lib.hid (same_succ l c s k)
        obtain ⟨bb, o, rfl, hcl⟩ := HLast.out
        have hcl' := ck hcl HB.out
        have hnl := HNl.out
        rcases (show k = 0 ∨ k = 1 ∨ k = 2 ∨ k = 3 by omega) with rfl | rfl | rfl | rfl
        · obtain ⟨b', o', he, hc1⟩ := HX.out (l.length - 0 * s) (by omega)
          simp only [Option.some.injEq, Addr.mk.injEq] at he
          obtain ⟨rfl, rfl, _⟩ := he
          have hc1' := ck hc1 HB.out
          clear hc1 hcl
          rw [Nat.zero_mul, Nat.sub_zero, snoc_last] at hc1'
          simp only [beq_self_eq_true, Bool.true_or, Bool.and_true] at HSu
          obtain ⟨m, hm⟩ : ∃ m, m = l.length := ⟨_, rfl⟩
          rw [← hm] at hcl'
          have w2 : IntKind.i64.wrap ((n:Int) - 1) = (m:Int) := by rw [show (n:Int) - 1 = m by omega]; exact IntWalk.i64_in _ (by omega)
          have w3 : IntKind.i64.wrap (n:Int) = (n:Int) := IntWalk.i64_in _ (by omega)
          have i2 : (m:Int) < (n:Int) := by omega
          have j2 : (0:Int) ≤ (m:Int) := by omega
          have hm2 : m ≤ 1000 := by omega
          clear hm hnl hc1'
          generalize sameK l c s 0 = q0 at *
          go_wp2_with fail
          cases q0
          all_goals
            go_quiet (fail)
            go_wp2
            go_roundw
            case rel => exact ⟨1, by omega, by go_num, by rw [HSu.out], below_drewN HB.out _⟩
            case measure => simp [intOf]
        · obtain ⟨b', o', he, hc1⟩ := HX.out (l.length - 1 * s) (by omega)
          simp only [Option.some.injEq, Addr.mk.injEq] at he
          obtain ⟨rfl, rfl, _⟩ := he
          have hc1' := ck hc1 HB.out
          clear hc1 hcl
          rw [snoc_at (by omega)] at hc1'
          have HSu2 : Hid (sameK l c s (1 + 1) = (sameK l c s 1 && l.getD (l.length - 1 * s) 0 == c)) := Lib.hid (by rw [HSu.out]; rfl)
          clear HSu
          generalize l.getD (l.length - 1 * s) 0 = z at *
          obtain ⟨m, hm⟩ : ∃ m, m = l.length := ⟨_, rfl⟩
          obtain ⟨p, hp⟩ : ∃ p, p = 1 * s := ⟨_, rfl⟩
          obtain ⟨r, hr⟩ : ∃ r, r = n - p := ⟨_, rfl⟩
          obtain ⟨q, hq⟩ : ∃ q, q = l.length - 1 * s := ⟨_, rfl⟩
          rw [← hm] at hcl'
          rw [← hq] at hc1'
          have w0 : IntKind.i64.wrap ((s:Int)) = (p:Int) := by rw [show (s:Int) = p by omega]; exact IntWalk.i64_in _ (by omega)
          have w1 : IntKind.i64.wrap ((n:Int) - p) = (r:Int) := by rw [show (n:Int) - p = r by omega]; exact IntWalk.i64_in _ (by omega)
          have w2 : IntKind.i64.wrap ((n:Int) - 1) = (m:Int) := by rw [show (n:Int) - 1 = m by omega]; exact IntWalk.i64_in _ (by omega)
          have w3 : IntKind.i64.wrap ((r:Int) - 1) = (q:Int) := by rw [show (r:Int) - 1 = q by omega]; exact IntWalk.i64_in _ (by omega)
          have i1 : (q:Int) < (n:Int) := by omega
          have i2 : (m:Int) < (n:Int) := by omega
          have j1 : (0:Int) ≤ (q:Int) := by omega
          have j2 : (0:Int) ≤ (m:Int) := by omega
          have hm2 : m ≤ 1000 := by omega
          clear hm hnl hp hr hq
          generalize sameK l c s 1 = q0 at *
          go_wp2_with fail
          cases q0 with
          | false =>
            go_quiet (fail)
            go_wp2
            go_roundw
            case rel => exact ⟨2, by omega, by go_num, by rw [HSu2.out]; rfl, below_drewN HB.out _⟩
            case measure => simp [intOf]
          | true =>
            by_cases c1 : z = c
            · have d1 : ((z:Int) == (c:Int)) = true := beq_iff_eq.2 (by omega)
              have HV : Hid (sameK l c s (1 + 1) = true) := Lib.hid (by rw [HSu2.out, c1]; simp)
              clear c1
              go_quiet (fail)
              go_wp2
              go_roundw
              case rel => exact ⟨2, by omega, by go_num, by rw [HV.out], below_drewN HB.out _⟩
              case measure => simp [intOf]
            · have d1 : ((z:Int) == (c:Int)) = false := beq_eq_false_iff_ne.2 (by omega)
              have HV : Hid (sameK l c s (1 + 1) = false) := Lib.hid (by rw [HSu2.out, beq_eq_false_iff_ne.2 c1]; simp)
              clear c1
              go_quiet (fail)
              go_wp2
              go_roundw
              case rel => exact ⟨2, by omega, by go_num, by rw [HV.out], below_drewN HB.out _⟩
              case measure => simp [intOf]
        · obtain ⟨b', o', he, hc1⟩ := HX.out (l.length - 2 * s) (by omega)
          simp only [Option.some.injEq, Addr.mk.injEq] at he
          obtain ⟨rfl, rfl, _⟩ := he
          have hc1' := ck hc1 HB.out
          clear hc1 hcl
          rw [snoc_at (by omega)] at hc1'
          have HSu2 : Hid (sameK l c s (2 + 1) = (sameK l c s 2 && l.getD (l.length - 2 * s) 0 == c)) := Lib.hid (by rw [HSu.out]; rfl)
          clear HSu
          generalize l.getD (l.length - 2 * s) 0 = z at *
          obtain ⟨m, hm⟩ : ∃ m, m = l.length := ⟨_, rfl⟩
          obtain ⟨p, hp⟩ : ∃ p, p = 2 * s := ⟨_, rfl⟩
          obtain ⟨r, hr⟩ : ∃ r, r = n - p := ⟨_, rfl⟩
          obtain ⟨q, hq⟩ : ∃ q, q = l.length - 2 * s := ⟨_, rfl⟩
          rw [← hm] at hcl'
          rw [← hq] at hc1'
          have w0 : IntKind.i64.wrap (2 * (s:Int)) = (p:Int) := by rw [show 2 * (s:Int) = p by omega]; exact IntWalk.i64_in _ (by omega)
          have w1 : IntKind.i64.wrap ((n:Int) - p) = (r:Int) := by rw [show (n:Int) - p = r by omega]; exact IntWalk.i64_in _ (by omega)
          have w2 : IntKind.i64.wrap ((n:Int) - 1) = (m:Int) := by rw [show (n:Int) - 1 = m by omega]; exact IntWalk.i64_in _ (by omega)
          have w3 : IntKind.i64.wrap ((r:Int) - 1) = (q:Int) := by rw [show (r:Int) - 1 = q by omega]; exact IntWalk.i64_in _ (by omega)
          have i1 : (q:Int) < (n:Int) := by omega
          have i2 : (m:Int) < (n:Int) := by omega
          have j1 : (0:Int) ≤ (q:Int) := by omega
          have j2 : (0:Int) ≤ (m:Int) := by omega
          have hm2 : m ≤ 1000 := by omega
          clear hm hnl hp hr hq
          generalize sameK l c s 2 = q0 at *
          go_wp2_with fail
          cases q0 with
          | false =>
            go_quiet (fail)
            go_wp2
            go_roundw
            case rel => exact ⟨3, by omega, by go_num, by rw [HSu2.out]; rfl, below_drewN HB.out _⟩
            case measure => simp [intOf]
          | true =>
            by_cases c1 : z = c
            · have d1 : ((z:Int) == (c:Int)) = true := beq_iff_eq.2 (by omega)
              have HV : Hid (sameK l c s (2 + 1) = true) := Lib.hid (by rw [HSu2.out, c1]; simp)
              clear c1
              go_quiet (fail)
              go_wp2
              go_roundw
              case rel => exact ⟨3, by omega, by go_num, by rw [HV.out], below_drewN HB.out _⟩
              case measure => simp [intOf]
            · have d1 : ((z:Int) == (c:Int)) = false := beq_eq_false_iff_ne.2 (by omega)
              have HV : Hid (sameK l c s (2 + 1) = false) := Lib.hid (by rw [HSu2.out, beq_eq_false_iff_ne.2 c1]; simp)
              clear c1
              go_quiet (fail)
              go_wp2
              go_roundw
              case rel => exact ⟨3, by omega, by go_num, by rw [HV.out], below_drewN HB.out _⟩
              case measure => simp [intOf]
        · clear hcl hcl' hnl HSu
          have HF : Hid (sameK l c s 3 = strideF 3 l c s) := Lib.hid (same3 l c s)
          rw [HF.out]
          cases hf : strideF 3 l c s with
          | true =>
            have HI := Lib.hid (HBad.out hf)
            clear hf HBad HNx HF
            go_wp2
            go_ret
            exact ⟨ret_bool HI.out.symm, HB.out⟩
          | false =>
            have HI := Lib.hid (HNx.out hf)
            clear hf HBad HNx HF
            go_wp2
            go_roundw
            case rel => exact ⟨b + 1, by have := HS.out; omega, vint (by have := HS.out; omega), HI.out, HB.out⟩
            case measure => simp [intOf]; omega
    · have HI := Lib.hid (strideB_good (k := 3) (l := l) (c := c) (by omega) fun j hj => HA.out j (by have := HNl.out; omega) hj)
      clear hs
      have q1 : ¬ (1:Int) ≤ (n:Int) - 2 * (s:Int) := by omega
      go_wp2
      go_ret
      exact ⟨ret_bool HI.out.symm, HB.out⟩

set_option maxHeartbeats 4000000 in
set_option maxRecDepth 100000 in
theorem painted4_any (c : Nat) (v : Value) (l : List Nat) (w : World) (hl : l.length ≤ 1000) (h : Nats w v (l ++ [c])) :
    Calls Try.prog 97 #[v, .int .i64 4] w fun e w' => e = .returned (.bool (strideB 4 l c)) ∧ Below w.heap.size w w' := by
  obtain ⟨ao, cap, rfl, h1, h2, hx⟩ := h.open
  obtain ⟨n, hn⟩ : ∃ n, n = (l ++ [c]).length := ⟨_, rfl⟩
  have HNl : Hid (n = l.length + 1) := Lib.hid (by rw [hn]; simp)
  have hn2 : n ≤ 1001 := by have := HNl.out; omega
  rw [← hn] at h1 h2 hx ⊢
  have HX := Lib.hid hx
  have HLast : Hid (∃ b o, ao = some ⟨b, o, none⟩ ∧ w.cell? ⟨b, o + l.length, none⟩ = some (.int .i64 c)) := Lib.hid (by
    obtain ⟨b, o, e, hc⟩ := hx l.length (by have := HNl.out; omega)
    rw [snoc_last] at hc
    exact ⟨b, o, e, hc⟩)
  clear h hx hn
  go_enter Try.func97, Try.ntmps97
  go_wp2_with fail
  go_loopw [7] (fun i wr => ∃ b : Nat, b ≤ n ∧ i = .int .i64 ((b + 1 : Nat) : Int) ∧ (∀ j : Nat, j < b → (j + 1) * (4 - 1) ≤ l.length → strideF 4 l c (j + 1) = false) ∧ Below w.heap.size w wr) (fun i _ => n + 2 - (intOf i).toNat)
  case atStart => exact ⟨0, by omega, rfl, fun j hj => absurd hj (by omega), Below.refl _ _⟩
  case round =>
    obtain ⟨b, hb1, rfl, hall, hb⟩ := hrel
    have HA := Lib.hid hall
    have HB := Lib.hid hb
    clear hall hb
    obtain ⟨s, hs⟩ : ∃ s, s = b + 1 := ⟨_, rfl⟩
    have HS := Lib.hid hs
    have hs2 : s ≤ 1002 := by omega
    have hs1 : 1 ≤ s := by omega
    rw [← hs]
    by_cases hlt : 3 * s + 1 ≤ n
    · have HBad := Lib.hid (fun (h : strideF 4 l c s = true) => strideB_bad (k := 4) (l := l) (c := c) (b := b) (by omega) (by have := HNl.out; omega) (hs ▸ h))
      have HNx := Lib.hid (fun (h : strideF 4 l c s = false) (j : Nat) (hj : j < b + 1) (hjl : (j + 1) * (4 - 1) ≤ l.length) => if e : j = b then (by rw [e, ← hs]; exact h : strideF 4 l c (j + 1) = false) else HA.out j (by omega) hjl)
      have q1 : (1:Int) ≤ (n:Int) - 3 * (s:Int) := by omega
      clear hs
      go_wp2_with fail
      clear q1
      go_loopw [8, 56] (fun same i wr => ∃ k : Nat, k ≤ 4 ∧ i = .int .i64 k ∧ same = .bool (sameK l c s k) ∧ Below w.heap.size w wr) (fun _ i _ => 4 - (intOf i).toNat)
      case atStart => exact ⟨0, by omega, rfl, rfl, HB.out⟩
      case round =>
        clear HB
        obtain ⟨k, hk, rfl, rfl, hb⟩ := hrel
        have HB := Lib.hid hb
        clear hb
        have HSu := Lib.hid (same_succ l c s k)
        obtain ⟨bb, o, rfl, hcl⟩ := HLast.out
        have hcl' := ck hcl HB.out
        have hnl := HNl.out
        rcases (show k = 0 ∨ k = 1 ∨ k = 2 ∨ k = 3 ∨ k = 4 by omega) with rfl | rfl | rfl | rfl | rfl
        · obtain ⟨b', o', he, hc1⟩ := HX.out (l.length - 0 * s) (by omega)
          simp only [Option.some.injEq, Addr.mk.injEq] at he
          obtain ⟨rfl, rfl, _⟩ := he
          have hc1' := ck hc1 HB.out
          clear hc1 hcl
          rw [Nat.zero_mul, Nat.sub_zero, snoc_last] at hc1'
          simp only [beq_self_eq_true, Bool.true_or, Bool.and_true] at HSu
          obtain ⟨m, hm⟩ : ∃ m, m = l.length := ⟨_, rfl⟩
          rw [← hm] at hcl'
          have w2 : IntKind.i64.wrap ((n:Int) - 1) = (m:Int) := by rw [show (n:Int) - 1 = m by omega]; exact IntWalk.i64_in _ (by omega)
          have w3 : IntKind.i64.wrap (n:Int) = (n:Int) := IntWalk.i64_in _ (by omega)
          have i2 : (m:Int) < (n:Int) := by omega
          have j2 : (0:Int) ≤ (m:Int) := by omega
          have hm2 : m ≤ 1000 := by omega
          clear hm hnl hc1'
          generalize sameK l c s 0 = q0 at *
          go_wp2_with fail
          cases q0
          all_goals
            go_quiet (fail)
            go_wp2
            go_roundw
            case rel => exact ⟨1, by omega, by go_num, by rw [HSu.out], below_drewN HB.out _⟩
            case measure => simp [intOf]
        · obtain ⟨b', o', he, hc1⟩ := HX.out (l.length - 1 * s) (by omega)
          simp only [Option.some.injEq, Addr.mk.injEq] at he
          obtain ⟨rfl, rfl, _⟩ := he
          have hc1' := ck hc1 HB.out
          clear hc1 hcl
          rw [snoc_at (by omega)] at hc1'
          have HSu2 : Hid (sameK l c s (1 + 1) = (sameK l c s 1 && l.getD (l.length - 1 * s) 0 == c)) := Lib.hid (by rw [HSu.out]; rfl)
          clear HSu
          generalize l.getD (l.length - 1 * s) 0 = z at *
          obtain ⟨m, hm⟩ : ∃ m, m = l.length := ⟨_, rfl⟩
          obtain ⟨p, hp⟩ : ∃ p, p = 1 * s := ⟨_, rfl⟩
          obtain ⟨r, hr⟩ : ∃ r, r = n - p := ⟨_, rfl⟩
          obtain ⟨q, hq⟩ : ∃ q, q = l.length - 1 * s := ⟨_, rfl⟩
          rw [← hm] at hcl'
          rw [← hq] at hc1'
          have w0 : IntKind.i64.wrap ((s:Int)) = (p:Int) := by rw [show (s:Int) = p by omega]; exact IntWalk.i64_in _ (by omega)
          have w1 : IntKind.i64.wrap ((n:Int) - p) = (r:Int) := by rw [show (n:Int) - p = r by omega]; exact IntWalk.i64_in _ (by omega)
          have w2 : IntKind.i64.wrap ((n:Int) - 1) = (m:Int) := by rw [show (n:Int) - 1 = m by omega]; exact IntWalk.i64_in _ (by omega)
          have w3 : IntKind.i64.wrap ((r:Int) - 1) = (q:Int) := by rw [show (r:Int) - 1 = q by omega]; exact IntWalk.i64_in _ (by omega)
          have i1 : (q:Int) < (n:Int) := by omega
          have i2 : (m:Int) < (n:Int) := by omega
          have j1 : (0:Int) ≤ (q:Int) := by omega
          have j2 : (0:Int) ≤ (m:Int) := by omega
          have hm2 : m ≤ 1000 := by omega
          clear hm hnl hp hr hq
          generalize sameK l c s 1 = q0 at *
          go_wp2_with fail
          cases q0 with
          | false =>
            go_quiet (fail)
            go_wp2
            go_roundw
            case rel => exact ⟨2, by omega, by go_num, by rw [HSu2.out]; rfl, below_drewN HB.out _⟩
            case measure => simp [intOf]
          | true =>
            by_cases c1 : z = c
            · have d1 : ((z:Int) == (c:Int)) = true := beq_iff_eq.2 (by omega)
              have HV : Hid (sameK l c s (1 + 1) = true) := Lib.hid (by rw [HSu2.out, c1]; simp)
              clear c1
              go_quiet (fail)
              go_wp2
              go_roundw
              case rel => exact ⟨2, by omega, by go_num, by rw [HV.out], below_drewN HB.out _⟩
              case measure => simp [intOf]
            · have d1 : ((z:Int) == (c:Int)) = false := beq_eq_false_iff_ne.2 (by omega)
              have HV : Hid (sameK l c s (1 + 1) = false) := Lib.hid (by rw [HSu2.out, beq_eq_false_iff_ne.2 c1]; simp)
              clear c1
              go_quiet (fail)
              go_wp2
              go_roundw
              case rel => exact ⟨2, by omega, by go_num, by rw [HV.out], below_drewN HB.out _⟩
              case measure => simp [intOf]
        · obtain ⟨b', o', he, hc1⟩ := HX.out (l.length - 2 * s) (by omega)
          simp only [Option.some.injEq, Addr.mk.injEq] at he
          obtain ⟨rfl, rfl, _⟩ := he
          have hc1' := ck hc1 HB.out
          clear hc1 hcl
          rw [snoc_at (by omega)] at hc1'
          have HSu2 : Hid (sameK l c s (2 + 1) = (sameK l c s 2 && l.getD (l.length - 2 * s) 0 == c)) := Lib.hid (by rw [HSu.out]; rfl)
          clear HSu
          generalize l.getD (l.length - 2 * s) 0 = z at *
          obtain ⟨m, hm⟩ : ∃ m, m = l.length := ⟨_, rfl⟩
          obtain ⟨p, hp⟩ : ∃ p, p = 2 * s := ⟨_, rfl⟩
          obtain ⟨r, hr⟩ : ∃ r, r = n - p := ⟨_, rfl⟩
          obtain ⟨q, hq⟩ : ∃ q, q = l.length - 2 * s := ⟨_, rfl⟩
          rw [← hm] at hcl'
          rw [← hq] at hc1'
          have w0 : IntKind.i64.wrap (2 * (s:Int)) = (p:Int) := by rw [show 2 * (s:Int) = p by omega]; exact IntWalk.i64_in _ (by omega)
          have w1 : IntKind.i64.wrap ((n:Int) - p) = (r:Int) := by rw [show (n:Int) - p = r by omega]; exact IntWalk.i64_in _ (by omega)
          have w2 : IntKind.i64.wrap ((n:Int) - 1) = (m:Int) := by rw [show (n:Int) - 1 = m by omega]; exact IntWalk.i64_in _ (by omega)
          have w3 : IntKind.i64.wrap ((r:Int) - 1) = (q:Int) := by rw [show (r:Int) - 1 = q by omega]; exact IntWalk.i64_in _ (by omega)
          have i1 : (q:Int) < (n:Int) := by omega
          have i2 : (m:Int) < (n:Int) := by omega
          have j1 : (0:Int) ≤ (q:Int) := by omega
          have j2 : (0:Int) ≤ (m:Int) := by omega
          have hm2 : m ≤ 1000 := by omega
          clear hm hnl hp hr hq
          generalize sameK l c s 2 = q0 at *
          go_wp2_with fail
          cases q0 with
          | false =>
            go_quiet (fail)
            go_wp2
            go_roundw
            case rel => exact ⟨3, by omega, by go_num, by rw [HSu2.out]; rfl, below_drewN HB.out _⟩
            case measure => simp [intOf]
          | true =>
            by_cases c1 : z = c
            · have d1 : ((z:Int) == (c:Int)) = true := beq_iff_eq.2 (by omega)
              have HV : Hid (sameK l c s (2 + 1) = true) := Lib.hid (by rw [HSu2.out, c1]; simp)
              clear c1
              go_quiet (fail)
              go_wp2
              go_roundw
              case rel => exact ⟨3, by omega, by go_num, by rw [HV.out], below_drewN HB.out _⟩
              case measure => simp [intOf]
            · have d1 : ((z:Int) == (c:Int)) = false := beq_eq_false_iff_ne.2 (by omega)
              have HV : Hid (sameK l c s (2 + 1) = false) := Lib.hid (by rw [HSu2.out, beq_eq_false_iff_ne.2 c1]; simp)
              clear c1
              go_quiet (fail)
              go_wp2
              go_roundw
              case rel => exact ⟨3, by omega, by go_num, by rw [HV.out], below_drewN HB.out _⟩
              case measure => simp [intOf]
        · obtain ⟨b', o', he, hc1⟩ := HX.out (l.length - 3 * s) (by omega)
          simp only [Option.some.injEq, Addr.mk.injEq] at he
          obtain ⟨rfl, rfl, _⟩ := he
          have hc1' := ck hc1 HB.out
          clear hc1 hcl
          rw [snoc_at (by omega)] at hc1'
          have HSu2 : Hid (sameK l c s (3 + 1) = (sameK l c s 3 && l.getD (l.length - 3 * s) 0 == c)) := Lib.hid (by rw [HSu.out]; rfl)
          clear HSu
          generalize l.getD (l.length - 3 * s) 0 = z at *
          obtain ⟨m, hm⟩ : ∃ m, m = l.length := ⟨_, rfl⟩
          obtain ⟨p, hp⟩ : ∃ p, p = 3 * s := ⟨_, rfl⟩
          obtain ⟨r, hr⟩ : ∃ r, r = n - p := ⟨_, rfl⟩
          obtain ⟨q, hq⟩ : ∃ q, q = l.length - 3 * s := ⟨_, rfl⟩
          rw [← hm] at hcl'
          rw [← hq] at hc1'
          have w0 : IntKind.i64.wrap (3 * (s:Int)) = (p:Int) := by rw [show 3 * (s:Int) = p by omega]; exact IntWalk.i64_in _ (by omega)
          have w1 : IntKind.i64.wrap ((n:Int) - p) = (r:Int) := by rw [show (n:Int) - p = r by omega]; exact IntWalk.i64_in _ (by omega)
          have w2 : IntKind.i64.wrap ((n:Int) - 1) = (m:Int) := by rw [show (n:Int) - 1 = m by omega]; exact IntWalk.i64_in _ (by omega)
          have w3 : IntKind.i64.wrap ((r:Int) - 1) = (q:Int) := by rw [show (r:Int) - 1 = q by omega]; exact IntWalk.i64_in _ (by omega)
          have i1 : (q:Int) < (n:Int) := by omega
          have i2 : (m:Int) < (n:Int) := by omega
          have j1 : (0:Int) ≤ (q:Int) := by omega
          have j2 : (0:Int) ≤ (m:Int) := by omega
          have hm2 : m ≤ 1000 := by omega
          clear hm hnl hp hr hq
          generalize sameK l c s 3 = q0 at *
          go_wp2_with fail
          cases q0 with
          | false =>
            go_quiet (fail)
            go_wp2
            go_roundw
            case rel => exact ⟨4, by omega, by go_num, by rw [HSu2.out]; rfl, below_drewN HB.out _⟩
            case measure => simp [intOf]
          | true =>
            by_cases c1 : z = c
            · have d1 : ((z:Int) == (c:Int)) = true := beq_iff_eq.2 (by omega)
              have HV : Hid (sameK l c s (3 + 1) = true) := Lib.hid (by rw [HSu2.out, c1]; simp)
              clear c1
              go_quiet (fail)
              go_wp2
              go_roundw
              case rel => exact ⟨4, by omega, by go_num, by rw [HV.out], below_drewN HB.out _⟩
              case measure => simp [intOf]
            · have d1 : ((z:Int) == (c:Int)) = false := beq_eq_false_iff_ne.2 (by omega)
              have HV : Hid (sameK l c s (3 + 1) = false) := Lib.hid (by rw [HSu2.out, beq_eq_false_iff_ne.2 c1]; simp)
              clear c1
              go_quiet (fail)
              go_wp2
              go_roundw
              case rel => exact ⟨4, by omega, by go_num, by rw [HV.out], below_drewN HB.out _⟩
              case measure => simp [intOf]
        · clear hcl hcl' hnl HSu
          have HF : Hid (sameK l c s 4 = strideF 4 l c s) := Lib.hid (same4 l c s)
          rw [HF.out]
          cases hf : strideF 4 l c s with
          | true =>
            have HI := Lib.hid (HBad.out hf)
            clear hf HBad HNx HF
            go_wp2
            go_ret
            exact ⟨ret_bool HI.out.symm, HB.out⟩
          | false =>
            have HI := Lib.hid (HNx.out hf)
            clear hf HBad HNx HF
            go_wp2
            go_roundw
            case rel => exact ⟨b + 1, by have := HS.out; omega, vint (by have := HS.out; omega), HI.out, HB.out⟩
            case measure => simp [intOf]; omega
    · have HI := Lib.hid (strideB_good (k := 4) (l := l) (c := c) (by omega) fun j hj => HA.out j (by have := HNl.out; omega) hj)
      clear hs
      have q1 : ¬ (1:Int) ≤ (n:Int) - 3 * (s:Int) := by omega
      go_wp2
      go_ret
      exact ⟨ret_bool HI.out.symm, HB.out⟩

theorem painted_any (k c : Nat) (v : Value) (l : List Nat) (w : World) (hk : k = 0 ∨ k = 3 ∨ k = 4) (hl : l.length ≤ 1000) (h : Nats w v (l ++ [c])) :
    Calls Try.prog 97 #[v, .int .i64 k] w fun e w' => e = .returned (.bool (ruleK k l c)) ∧ Below w.heap.size w w' := by
  rcases hk with rfl | rfl | rfl
  · exact painted0_any c v l w hl h
  · exact painted3_any c v l w hl h
  · exact painted4_any c v l w hl h
end Go.Proofs.Ytlalfjkenkmojaa
