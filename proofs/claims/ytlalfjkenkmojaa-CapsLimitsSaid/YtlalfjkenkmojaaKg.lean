/- colours: the rules, Schur, Waerden -/
import Derived.Test.YtlalfjkenkmojaaFh
import Derived.Test.YtlalfjkenkmojaaRg
namespace Go.Proofs.Ytlalfjkenkmojaa
open Go.RowKit

def noSumAt (l : List Nat) (c i : Nat) : Bool := !(l.getD i 0 == c && l.getD (l.length - 1 - i) 0 == c)
theorem sumFree_bad {l : List Nat} {c i : Nat} (hi : i < l.length) (h : noSumAt l c i = false) : sumFree l c = false := by
  unfold sumFree
  rw [List.all_eq_false]
  exact ⟨i, List.mem_range.2 hi, by unfold noSumAt at h; rw [h]; decide⟩
theorem sumFree_good {l : List Nat} {c : Nat} (h : ∀ i, i < l.length → noSumAt l c i = true) : sumFree l c = true := by
  unfold sumFree
  rw [List.all_eq_true]
  exact fun i hi => h i (List.mem_range.1 hi)

set_option maxHeartbeats 2000000 in
theorem colourNoSum_any (c : Nat) (v : Value) (l : List Nat) (w : World) (h : Nats w v l) :
    Calls Try.prog 81 #[v, .int .i64 c] w fun e w' => e = .returned (.bool (sumFree l c)) ∧ w = w' := by
  obtain ⟨ao, cap, rfl, h1, h2, hx⟩ := h.open
  have HX := Lib.hid hx
  clear h hx
  go_enter Try.func81, Try.ntmps81
  go_wp2
  go_loop [9] (fun i => ∃ k : Nat, k ≤ l.length ∧ i = .int .i64 k ∧ ∀ j : Nat, j < k → noSumAt l c j = true) (fun i => l.length - (intOf i).toNat)
  case atStart => exact ⟨0, Nat.zero_le _, rfl, fun j hj => absurd hj (by omega)⟩
  case round =>
    obtain ⟨k, hk, rfl, hall⟩ := hrel
    have HA := Lib.hid hall
    clear hall
    by_cases hlt : k < l.length
    · obtain ⟨b, o, rfl, hck⟩ := HX.out k hlt
      obtain ⟨b', o', he, hcj⟩ := HX.out (l.length - 1 - k) (by omega)
      simp only [Option.some.injEq, Addr.mk.injEq] at he
      obtain ⟨rfl, rfl, _⟩ := he
      have HB := Lib.hid (fun (h : noSumAt l c k = false) => sumFree_bad hlt h)
      have HG := Lib.hid (fun (h : noSumAt l c k = true) (j : Nat) (hj : j < k + 1) => if e : j = k then (e ▸ h : noSumAt l c j = true) else HA.out j (by omega))
      have HR : Hid (noSumAt l c k = !(l.getD k 0 == c && l.getD (l.length - 1 - k) 0 == c)) := Lib.hid rfl
      generalize l.getD k 0 = z at *
      generalize l.getD (l.length - 1 - k) 0 = y at *
      by_cases c1 : z = c
      · have d1 : ((z:Int) == (c:Int)) = true := beq_iff_eq.2 (by omega)
        by_cases c2 : y = c
        · have d2 : ((y:Int) == (c:Int)) = true := beq_iff_eq.2 (by omega)
          have HI := Lib.hid (HB.out (by rw [HR.out, c1, c2]; simp))
          clear c1 c2
          go_wp2
          go_ret
          exact ⟨ret_bool HI.out.symm, rfl⟩
        · have d2 : ((y:Int) == (c:Int)) = false := beq_eq_false_iff_ne.2 (by omega)
          have HI := Lib.hid (HG.out (by rw [HR.out, beq_eq_false_iff_ne.2 c2]; simp))
          clear c1 c2
          go_wp2
          go_round
          case rel => exact ⟨k + 1, by omega, by go_num, HI.out⟩
          case measure => simp [intOf]; omega
      · have d1 : ((z:Int) == (c:Int)) = false := beq_eq_false_iff_ne.2 (by omega)
        have HI := Lib.hid (HG.out (by rw [HR.out, beq_eq_false_iff_ne.2 c1]; simp))
        clear c1
        go_wp2
        go_round
        case rel => exact ⟨k + 1, by omega, by go_num, HI.out⟩
        case measure => simp [intOf]; omega
    · obtain rfl : k = l.length := by omega
      have HI := Lib.hid (sumFree_good HA.out)
      go_wp2
      go_ret
      exact ⟨ret_bool HI.out.symm, rfl⟩

theorem strideF_bad {k : Nat} {l : List Nat} {c b i : Nat} (hi : i < k - 1) (h : l.getD (l.length - (i + 1) * b) 0 ≠ c) : strideF k l c b = false := by
  unfold strideF
  rw [List.all_eq_false]
  exact ⟨i, List.mem_range.2 hi, by simpa using h⟩
theorem strideF_good {k : Nat} {l : List Nat} {c b : Nat} (h : ∀ i, i < k - 1 → l.getD (l.length - (i + 1) * b) 0 = c) : strideF k l c b = true := by
  unfold strideF
  rw [List.all_eq_true]
  exact fun i hi => beq_iff_eq.2 (h i (List.mem_range.1 hi))
theorem strideB_bad {k : Nat} {l : List Nat} {c b : Nat} (hk : 2 ≤ k) (hb : (b + 1) * (k - 1) ≤ l.length) (h : strideF k l c (b + 1) = true) : strideB k l c = false := by
  unfold strideB
  rw [List.all_eq_false]
  exact ⟨b, List.mem_range.2 ((Nat.le_div_iff_mul_le (by omega)).2 hb), by rw [h]; decide⟩
theorem strideB_good {k : Nat} {l : List Nat} {c : Nat} (hk : 2 ≤ k) (h : ∀ b, (b + 1) * (k - 1) ≤ l.length → strideF k l c (b + 1) = false) : strideB k l c = true := by
  unfold strideB
  rw [List.all_eq_true]
  intro b hb
  rw [h b ((Nat.le_div_iff_mul_le (by omega)).1 (List.mem_range.1 hb))]; rfl

set_option maxHeartbeats 2000000 in
theorem allHave3_any (c b : Nat) (v : Value) (l : List Nat) (w : World) (hb : 1 ≤ b) (hbl : 2 * b ≤ l.length) (hl : l.length ≤ 1000) (h : Nats w v l) :
    Calls Try.prog 98 #[.int .i64 3, v, .int .i64 c, .int .i64 b] w fun e w' => e = .returned (.bool (strideF 3 l c b)) ∧ w = w' := by
  obtain ⟨ao, cap, rfl, h1, h2, hx⟩ := h.open
  have HX := Lib.hid hx
  clear h hx
  go_enter Try.func98, Try.ntmps98
  go_wp2_with fail
  go_loop [9] (fun i => ∃ k : Nat, k ≤ 2 ∧ i = .int .i64 ((k:Int) + 1) ∧ ∀ j : Nat, j < k → l.getD (l.length - (j + 1) * b) 0 = c) (fun i => 3 - (intOf i).toNat)
  case atStart => exact ⟨0, by omega, rfl, fun j hj => absurd hj (by omega)⟩
  case round =>
    obtain ⟨k, hk, rfl, hall⟩ := hrel
    have HA := Lib.hid hall
    clear hall
    rcases (show k = 0 ∨ k = 1 ∨ k = 2 by omega) with rfl | rfl | rfl
    · obtain ⟨bb, o, rfl, hck⟩ := HX.out (l.length - b) (by omega)
      have HBad := Lib.hid (fun h => strideF_bad (k := 3) (l := l) (c := c) (b := b) (i := 0) (by omega) h)
      have HNx := Lib.hid (fun (h : l.getD (l.length - (0 + 1) * b) 0 = c) (j : Nat) (hj : j < 1) => if e : j = 0 then (e ▸ h : l.getD (l.length - (j + 1) * b) 0 = c) else HA.out j (by omega))
      simp only [Nat.reduceAdd, Nat.one_mul] at HBad HNx
      have hix : l.length - b < l.length := by omega
      generalize l.getD (l.length - b) 0 = z at *
      by_cases c1 : z = c
      · have d1 : ((z:Int) != (c:Int)) = false := by rw [c1]; simp
        have HI := Lib.hid (HNx.out c1)
        clear c1
        go_wp2
        go_round
        case rel => exact ⟨1, by omega, by go_num, HI.out⟩
        case measure => simp [intOf]
      · have d1 : ((z:Int) != (c:Int)) = true := by simp; omega
        have HI := Lib.hid (HBad.out c1)
        clear c1
        go_wp2
        go_ret
        exact ⟨ret_bool HI.out.symm, rfl⟩
    · obtain ⟨bb, o, rfl, hck⟩ := HX.out (l.length - 2 * b) (by omega)
      have HBad := Lib.hid (fun h => strideF_bad (k := 3) (l := l) (c := c) (b := b) (i := 1) (by omega) h)
      have HNx := Lib.hid (fun (h : l.getD (l.length - (1 + 1) * b) 0 = c) (j : Nat) (hj : j < 2) => if e : j = 1 then (e ▸ h : l.getD (l.length - (j + 1) * b) 0 = c) else HA.out j (by omega))
      simp only [Nat.reduceAdd] at HBad HNx
      have hix : l.length - 2 * b < l.length := by omega
      generalize l.getD (l.length - 2 * b) 0 = z at *
      obtain ⟨q, hq⟩ : ∃ q, q = l.length - 2 * b := ⟨_, rfl⟩
      rw [← hq] at hck
      have e1 : (l.length : Int) - 2 * (b:Int) = (q:Int) := by omega
      have e2 : (l.length : Int) - (b:Int) * 2 = (q:Int) := by omega
      clear hq
      by_cases c1 : z = c
      · have d1 : ((z:Int) != (c:Int)) = false := by rw [c1]; simp
        have HI := Lib.hid (HNx.out c1)
        clear c1
        go_wp2
        go_round
        case rel => exact ⟨2, by omega, by go_num, HI.out⟩
        case measure => simp [intOf]
      · have d1 : ((z:Int) != (c:Int)) = true := by simp; omega
        have HI := Lib.hid (HBad.out c1)
        clear c1
        go_wp2
        go_ret
        exact ⟨ret_bool HI.out.symm, rfl⟩
    · have HI := Lib.hid (strideF_good (k := 3) (l := l) (c := c) (b := b) HA.out)
      go_wp2
      go_ret
      exact ⟨ret_bool HI.out.symm, rfl⟩

set_option maxHeartbeats 2000000 in
theorem stride3_any (c : Nat) (v : Value) (l : List Nat) (w : World) (hl : l.length ≤ 1000) (h : Nats w v l) :
    Calls Try.prog 83 #[.int .i64 3, v, .int .i64 c] w fun e w' => e = .returned (.bool (strideB 3 l c)) ∧ w = w' := by
  have HC := Lib.hid (fun b (h1 : 1 ≤ b) (h2 : 2 * b ≤ l.length) => allHave3_any c b v l w h1 h2 hl h)
  obtain ⟨ao, cap, rfl, h1, h2, hx⟩ := h.open
  clear h hx
  go_enter Try.func83, Try.ntmps83
  go_wp2_with fail
  go_loop [7] (fun i => ∃ b : Nat, b ≤ l.length + 1 ∧ i = .int .i64 ((b + 1 : Nat) : Int) ∧ ∀ j : Nat, j < b → (j + 1) * (3 - 1) ≤ l.length → strideF 3 l c (j + 1) = false) (fun i => l.length + 2 - (intOf i).toNat)
  case atStart => exact ⟨0, by omega, rfl, fun j hj => absurd hj (by omega)⟩
  case round =>
    obtain ⟨b, hb, rfl, hall⟩ := hrel
    have HA := Lib.hid hall
    clear hall
    obtain ⟨s, hs⟩ : ∃ s, s = b + 1 := ⟨_, rfl⟩
    have HS := Lib.hid hs
    have hs2 : s ≤ 1002 := by omega
    rw [← hs]
    by_cases hlt : 2 * s ≤ l.length
    · have HC1 := Lib.hid (HC.out s (by omega) hlt)
      have HBad := Lib.hid (fun (h : strideF 3 l c s = true) => strideB_bad (k := 3) (l := l) (c := c) (b := b) (by omega) (by omega) (hs ▸ h))
      have HNx := Lib.hid (fun (h : strideF 3 l c s = false) (j : Nat) (hj : j < b + 1) (hjl : (j + 1) * (3 - 1) ≤ l.length) => if e : j = b then (by rw [e, ← hs]; exact h : strideF 3 l c (j + 1) = false) else HA.out j (by omega) hjl)
      clear hs
      have q1 : decide ((s:Int) * 2 ≤ (l.length : Int)) = true := decide_eq_true (by omega)
      have q2 : (s:Int) * 2 ≤ (l.length : Int) := by omega
      cases hf : strideF 3 l c s with
      | true =>
        rw [hf] at HC1
        have HI := Lib.hid (HBad.out hf)
        clear hf HBad HNx
        go_wp2_with fail
        refine HC1.out.mono ?_
        rintro e w' ⟨rfl, rfl⟩
        go_wp2
        go_ret
        exact ⟨ret_bool HI.out.symm, rfl⟩
      | false =>
        rw [hf] at HC1
        have HI := Lib.hid (HNx.out hf)
        clear hf HBad HNx
        go_wp2_with fail
        refine HC1.out.mono ?_
        rintro e w' ⟨rfl, rfl⟩
        go_wp2
        go_round
        case rel => exact ⟨b + 1, by have := HS.out; omega, vint (by have := HS.out; omega), HI.out⟩
        case measure => simp [intOf]; omega
    · have HI := Lib.hid (strideB_good (k := 3) (l := l) (c := c) (by omega) fun j hj => HA.out j (by omega) hj)
      clear hs
      have q1 : decide ((s:Int) * 2 ≤ (l.length : Int)) = false := decide_eq_false (by omega)
      have q2 : ¬ (s:Int) * 2 ≤ (l.length : Int) := by omega
      have q3 : decide (s * 2 ≤ l.length) = false := decide_eq_false (by omega)
      have q4 : ¬ s * 2 ≤ l.length := by omega
      go_wp2
      go_ret
      exact ⟨ret_bool HI.out.symm, rfl⟩
theorem strideRule3 : Rule 83 #[.int .i64 3] (strideB 3) (fun l _ => l.length ≤ 1000) :=
  ⟨enters_of Try.func83 (by kernel_rfl) rfl, fun v l x w h hD => (stride3_any x v l w hD h).mono fun _ _ ⟨he, hw⟩ => ⟨he, by subst hw; exact Below.refl _ _⟩⟩

set_option maxHeartbeats 2000000 in
theorem allHave4_any (c b : Nat) (v : Value) (l : List Nat) (w : World) (hb : 1 ≤ b) (hbl : 3 * b ≤ l.length) (hl : l.length ≤ 1000) (h : Nats w v l) :
    Calls Try.prog 98 #[.int .i64 4, v, .int .i64 c, .int .i64 b] w fun e w' => e = .returned (.bool (strideF 4 l c b)) ∧ w = w' := by
  obtain ⟨ao, cap, rfl, h1, h2, hx⟩ := h.open
  have HX := Lib.hid hx
  clear h hx
  go_enter Try.func98, Try.ntmps98
  go_wp2_with fail
  go_loop [9] (fun i => ∃ k : Nat, k ≤ 3 ∧ i = .int .i64 ((k:Int) + 1) ∧ ∀ j : Nat, j < k → l.getD (l.length - (j + 1) * b) 0 = c) (fun i => 4 - (intOf i).toNat)
  case atStart => exact ⟨0, by omega, rfl, fun j hj => absurd hj (by omega)⟩
  case round =>
    obtain ⟨k, hk, rfl, hall⟩ := hrel
    have HA := Lib.hid hall
    clear hall
    rcases (show k = 0 ∨ k = 1 ∨ k = 2 ∨ k = 3 by omega) with rfl | rfl | rfl | rfl
    · obtain ⟨bb, o, rfl, hck⟩ := HX.out (l.length - b) (by omega)
      have HBad := Lib.hid (fun h => strideF_bad (k := 4) (l := l) (c := c) (b := b) (i := 0) (by omega) h)
      have HNx := Lib.hid (fun (h : l.getD (l.length - (0 + 1) * b) 0 = c) (j : Nat) (hj : j < 1) => if e : j = 0 then (e ▸ h : l.getD (l.length - (j + 1) * b) 0 = c) else HA.out j (by omega))
      simp only [Nat.reduceAdd, Nat.one_mul] at HBad HNx
      have hix : l.length - b < l.length := by omega
      generalize l.getD (l.length - b) 0 = z at *
      by_cases c1 : z = c
      · have d1 : ((z:Int) != (c:Int)) = false := by rw [c1]; simp
        have HI := Lib.hid (HNx.out c1)
        clear c1
        go_wp2
        go_round
        case rel => exact ⟨1, by omega, by go_num, HI.out⟩
        case measure => simp [intOf]
      · have d1 : ((z:Int) != (c:Int)) = true := by simp; omega
        have HI := Lib.hid (HBad.out c1)
        clear c1
        go_wp2
        go_ret
        exact ⟨ret_bool HI.out.symm, rfl⟩
    · obtain ⟨bb, o, rfl, hck⟩ := HX.out (l.length - 2 * b) (by omega)
      have HBad := Lib.hid (fun h => strideF_bad (k := 4) (l := l) (c := c) (b := b) (i := 1) (by omega) h)
      have HNx := Lib.hid (fun (h : l.getD (l.length - (1 + 1) * b) 0 = c) (j : Nat) (hj : j < 2) => if e : j = 1 then (e ▸ h : l.getD (l.length - (j + 1) * b) 0 = c) else HA.out j (by omega))
      simp only [Nat.reduceAdd] at HBad HNx
      have hix : l.length - 2 * b < l.length := by omega
      generalize l.getD (l.length - 2 * b) 0 = z at *
      obtain ⟨q, hq⟩ : ∃ q, q = l.length - 2 * b := ⟨_, rfl⟩
      rw [← hq] at hck
      have e1 : (l.length : Int) - 2 * (b:Int) = (q:Int) := by omega
      have e2 : (l.length : Int) - (b:Int) * 2 = (q:Int) := by omega
      clear hq
      by_cases c1 : z = c
      · have d1 : ((z:Int) != (c:Int)) = false := by rw [c1]; simp
        have HI := Lib.hid (HNx.out c1)
        clear c1
        go_wp2
        go_round
        case rel => exact ⟨2, by omega, by go_num, HI.out⟩
        case measure => simp [intOf]
      · have d1 : ((z:Int) != (c:Int)) = true := by simp; omega
        have HI := Lib.hid (HBad.out c1)
        clear c1
        go_wp2
        go_ret
        exact ⟨ret_bool HI.out.symm, rfl⟩
    · obtain ⟨bb, o, rfl, hck⟩ := HX.out (l.length - 3 * b) (by omega)
      have HBad := Lib.hid (fun h => strideF_bad (k := 4) (l := l) (c := c) (b := b) (i := 2) (by omega) h)
      have HNx := Lib.hid (fun (h : l.getD (l.length - (2 + 1) * b) 0 = c) (j : Nat) (hj : j < 3) => if e : j = 2 then (e ▸ h : l.getD (l.length - (j + 1) * b) 0 = c) else HA.out j (by omega))
      simp only [Nat.reduceAdd] at HBad HNx
      have hix : l.length - 3 * b < l.length := by omega
      generalize l.getD (l.length - 3 * b) 0 = z at *
      obtain ⟨q, hq⟩ : ∃ q, q = l.length - 3 * b := ⟨_, rfl⟩
      rw [← hq] at hck
      have e1 : (l.length : Int) - 3 * (b:Int) = (q:Int) := by omega
      have e2 : (l.length : Int) - (b:Int) * 3 = (q:Int) := by omega
      clear hq
      by_cases c1 : z = c
      · have d1 : ((z:Int) != (c:Int)) = false := by rw [c1]; simp
        have HI := Lib.hid (HNx.out c1)
        clear c1
        go_wp2
        go_round
        case rel => exact ⟨3, by omega, by go_num, HI.out⟩
        case measure => simp [intOf]
      · have d1 : ((z:Int) != (c:Int)) = true := by simp; omega
        have HI := Lib.hid (HBad.out c1)
        clear c1
        go_wp2
        go_ret
        exact ⟨ret_bool HI.out.symm, rfl⟩
    · have HI := Lib.hid (strideF_good (k := 4) (l := l) (c := c) (b := b) HA.out)
      go_wp2
      go_ret
      exact ⟨ret_bool HI.out.symm, rfl⟩

set_option maxHeartbeats 2000000 in
theorem stride4_any (c : Nat) (v : Value) (l : List Nat) (w : World) (hl : l.length ≤ 1000) (h : Nats w v l) :
    Calls Try.prog 83 #[.int .i64 4, v, .int .i64 c] w fun e w' => e = .returned (.bool (strideB 4 l c)) ∧ w = w' := by
  have HC := Lib.hid (fun b (h1 : 1 ≤ b) (h2 : 3 * b ≤ l.length) => allHave4_any c b v l w h1 h2 hl h)
  obtain ⟨ao, cap, rfl, h1, h2, hx⟩ := h.open
  clear h hx
  go_enter Try.func83, Try.ntmps83
  go_wp2_with fail
  go_loop [7] (fun i => ∃ b : Nat, b ≤ l.length + 1 ∧ i = .int .i64 ((b + 1 : Nat) : Int) ∧ ∀ j : Nat, j < b → (j + 1) * (4 - 1) ≤ l.length → strideF 4 l c (j + 1) = false) (fun i => l.length + 2 - (intOf i).toNat)
  case atStart => exact ⟨0, by omega, rfl, fun j hj => absurd hj (by omega)⟩
  case round =>
    obtain ⟨b, hb, rfl, hall⟩ := hrel
    have HA := Lib.hid hall
    clear hall
    obtain ⟨s, hs⟩ : ∃ s, s = b + 1 := ⟨_, rfl⟩
    have HS := Lib.hid hs
    have hs2 : s ≤ 1002 := by omega
    rw [← hs]
    by_cases hlt : 3 * s ≤ l.length
    · have HC1 := Lib.hid (HC.out s (by omega) hlt)
      have HBad := Lib.hid (fun (h : strideF 4 l c s = true) => strideB_bad (k := 4) (l := l) (c := c) (b := b) (by omega) (by omega) (hs ▸ h))
      have HNx := Lib.hid (fun (h : strideF 4 l c s = false) (j : Nat) (hj : j < b + 1) (hjl : (j + 1) * (4 - 1) ≤ l.length) => if e : j = b then (by rw [e, ← hs]; exact h : strideF 4 l c (j + 1) = false) else HA.out j (by omega) hjl)
      clear hs
      have q1 : decide ((s:Int) * 3 ≤ (l.length : Int)) = true := decide_eq_true (by omega)
      have q2 : (s:Int) * 3 ≤ (l.length : Int) := by omega
      cases hf : strideF 4 l c s with
      | true =>
        rw [hf] at HC1
        have HI := Lib.hid (HBad.out hf)
        clear hf HBad HNx
        go_wp2_with fail
        refine HC1.out.mono ?_
        rintro e w' ⟨rfl, rfl⟩
        go_wp2
        go_ret
        exact ⟨ret_bool HI.out.symm, rfl⟩
      | false =>
        rw [hf] at HC1
        have HI := Lib.hid (HNx.out hf)
        clear hf HBad HNx
        go_wp2_with fail
        refine HC1.out.mono ?_
        rintro e w' ⟨rfl, rfl⟩
        go_wp2
        go_round
        case rel => exact ⟨b + 1, by have := HS.out; omega, vint (by have := HS.out; omega), HI.out⟩
        case measure => simp [intOf]; omega
    · have HI := Lib.hid (strideB_good (k := 4) (l := l) (c := c) (by omega) fun j hj => HA.out j (by omega) hj)
      clear hs
      have q1 : decide ((s:Int) * 3 ≤ (l.length : Int)) = false := decide_eq_false (by omega)
      have q2 : ¬ (s:Int) * 3 ≤ (l.length : Int) := by omega
      have q3 : decide (s * 3 ≤ l.length) = false := decide_eq_false (by omega)
      have q4 : ¬ s * 3 ≤ l.length := by omega
      go_wp2
      go_ret
      exact ⟨ret_bool HI.out.symm, rfl⟩
theorem strideRule4 : Rule 83 #[.int .i64 4] (strideB 4) (fun l _ => l.length ≤ 1000) :=
  ⟨enters_of Try.func83 (by kernel_rfl) rfl, fun v l x w h hD => (stride4_any x v l w hD h).mono fun _ _ ⟨he, hw⟩ => ⟨he, by subst hw; exact Below.refl _ _⟩⟩

theorem sumRule : Rule 81 #[] sumFree (fun _ _ => True) :=
  ⟨enters_of Try.func81 (by kernel_rfl) rfl, fun v l x w h _ => (colourNoSum_any x v l w h).mono fun _ _ ⟨he, hw⟩ => ⟨he, by subst hw; exact Below.refl _ _⟩⟩

/-- What a colouring's search answers. -/
def codeOf (o : Option (List Nat)) : Int := if o.isSome then 0 else 4
set_option maxHeartbeats 1000000 in
theorem colouring_any {N : Nat} {pre : Array Value} {f : List Nat → Nat → Bool} {D : List Nat → Nat → Prop} (hR : Rule N pre f D) (k n : Nat) (hk : k ≤ 1000) (hn : n ≤ 1000)
    (hD : ∀ l x, keepsL f l = true → l.length < k → (∀ z ∈ l, z < n) → x < n → D l x) (w : World) :
    Calls Try.prog 80 #[.func (.func N) pre #[], .int .i64 k, .int .i64 n] w fun e w' => ∃ v', e = .returned (.tuple #[v', .int .i64 (codeOf (firstN f n k []))]) ∧ Nats w' v' (outL (firstN f n k []) []) ∧ Below w.heap.size w w' := by
  have HC := Lib.hid (first_any hR k n hk hn hD w)
  have HBd : Hid (∀ r, firstN f n k [] = some r → r.length ≤ 1000 ∧ ∀ x ∈ r, x < 65536) := Lib.hid fun r hr => by
    obtain ⟨s, hs, hl, hb, _⟩ := firstN_some k hr
    rw [hs]
    exact ⟨by simp; omega, fun x hx => by have := hb x (by simpa using hx); omega⟩
  clear hR hD
  cases ho : firstN f n k [] with
  | none =>
    rw [ho] at HC
    clear ho HBd
    go_enter Try.func80, Try.ntmps80
    go_wp2_with fail
    refine HC.out.mono ?_
    rintro e w1 ⟨v1, rfl, hown, hb⟩
    have HB := Lib.hid hb
    clear hb hown
    have e1 : outB (none : Option (List Nat)) = false := rfl
    go_wp2
    go_ret2
    exact ⟨_, rfl, Nats.nil _, HB.out⟩
  | some r =>
    have hb2 := HBd.out r ho
    have HB2 := Lib.hid hb2
    rw [ho] at HC
    clear ho HBd hb2
    go_enter Try.func80, Try.ntmps80
    go_wp2_with fail
    refine HC.out.mono ?_
    rintro e w1 ⟨v1, rfl, hown, hb⟩
    have HB := Lib.hid hb
    have HV := Lib.hid (Nats.of_owns hown (by have := HB2.out.1; show r.length ≤ _; omega) HB2.out.2)
    clear hb hown
    have e1 : outB (some r) = true := rfl
    go_wp2
    go_ret2
    exact ⟨_, rfl, HV.out, HB.out⟩

/-- Colours from 1 to 3. -/
def colB (n c : Int) : Bool := isCountB n && decide (1 ≤ c ∧ c ≤ 3)
set_option maxHeartbeats 1000000 in
theorem Schur_bad (n c : Int) (w : World) (h : colB n c = false) : Calls Try.prog 45 #[.int .i64 n, .int .i64 c] w fun e w' => e = .returned (.tuple #[.slice none 0 0, .int .i64 2]) ∧ w = w' := by
  have HC := Lib.hid (isCount_any n w)
  unfold colB at h
  cases hc : isCountB n with
  | false =>
    rw [hc] at HC
    clear h hc
    go_enter Try.func45, Try.ntmps45
    go_wp2_with fail
    refine HC.out.mono ?_
    rintro e w' ⟨rfl, rfl⟩
    go_wp2
    go_ret2
    exact ⟨rfl, rfl⟩
  | true =>
    rw [hc, Bool.true_and] at h
    rw [hc] at HC
    have h := of_decide_eq_false h
    by_cases c1 : c < 1
    · clear h hc
      go_enter Try.func45, Try.ntmps45
      go_wp2_with fail
      refine HC.out.mono ?_
      rintro e w' ⟨rfl, rfl⟩
      go_wp2
      go_ret2
      exact ⟨rfl, rfl⟩
    · have c2 : 3 < c := by omega
      clear h hc
      go_enter Try.func45, Try.ntmps45
      go_wp2_with fail
      refine HC.out.mono ?_
      rintro e w' ⟨rfl, rfl⟩
      go_wp2
      go_ret2
      exact ⟨rfl, rfl⟩
set_option maxHeartbeats 1000000 in
theorem Schur_any (n c : Nat) (w : World) (h1 : 1 ≤ n) (h2 : n ≤ 40) (h3 : 1 ≤ c) (h4 : c ≤ 3) :
    Calls Try.prog 45 #[.int .i64 n, .int .i64 c] w fun e w' => ∃ v', e = .returned (.tuple #[v', .int .i64 (codeOf (firstN sumFree c n []))]) ∧ Nats w' v' (outL (firstN sumFree c n []) []) ∧ Below w.heap.size w w' := by
  have HC := Lib.hid (isCount_any n w)
  rw [show isCountB (n:Int) = true from decide_eq_true (by omega)] at HC
  have HF := Lib.hid (colouring_any sumRule n c (by omega) (by omega) (fun _ _ _ _ _ _ => trivial) w)
  generalize firstN sumFree c n [] = F at *
  generalize codeOf F = q at *
  go_enter Try.func45, Try.ntmps45
  go_wp2_with fail
  refine HC.out.mono ?_
  rintro e w' ⟨rfl, rfl⟩
  go_wp2_with fail
  refine HF.out.mono ?_
  rintro e w1 ⟨v1, rfl, hv, hb⟩
  have HV := Lib.hid hv
  have HB := Lib.hid hb
  clear hv hb
  go_wp2
  go_ret2
  exact ⟨_, rfl, HV.out, HB.out⟩
end Go.Proofs.Ytlalfjkenkmojaa
