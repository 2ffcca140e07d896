/- cards: mayAdd; rising slices -/
import Derived.Test.YtlalfjkenkmojaaCb
namespace Go.Proofs.Ytlalfjkenkmojaa
open Go.RowKit

theorem ret_bool' {a b : Bool} (h : a = b) : Ending.returned (.bool a) = .returned (.bool b) := by rw [h]

set_option maxHeartbeats 1000000 in
theorem mayAdd_any (d c : Nat) (v : Value) (l : List Nat) (w : World) (hd : d ≤ 4) (hc : c ≤ 81) (hl : ∀ x ∈ l, x ≤ 81) (h : Nats w v l) :
    Calls Try.prog 64 #[.int .i64 d, v, .int .i64 c] w fun e w' => e = .returned (.bool (mayB d l c)) ∧ w = w' := by
  have HC := Lib.hid (fun x => containsN_any v l x w h)
  obtain ⟨ao, cap, rfl, h1, h2, hx⟩ := h.open
  have HX := Lib.hid hx
  have HT := Lib.hid (fun a (ha : a ∈ l) => third_any d a c w hd (hl a ha) hc)
  clear h hx hl
  go_enter Try.func64, Try.ntmps64
  go_wp2
  go_loop [11] (fun i => ∃ k : Nat, k ≤ l.length ∧ i = .int .i64 k ∧ ∀ j : Nat, j < k → l.contains (thirdN d (l.getD j 0) c) = false) (fun i => l.length - (intOf i).toNat)
  case atStart => exact ⟨0, Nat.zero_le _, rfl, fun j hj => absurd hj (by omega)⟩
  case round =>
    obtain ⟨k, hk, rfl, hall⟩ := hrel
    have HA := Lib.hid hall
    clear hall
    by_cases hlt : k < l.length
    · obtain ⟨b, o, rfl, hck⟩ := HX.out k hlt
      have HT1 := Lib.hid (HT.out _ (natD_mem hlt))
      have HC1 := Lib.hid (HC.out (thirdN d (l.getD k 0) c))
      cases hh : l.contains (thirdN d (l.getD k 0) c) with
      | true =>
        have HI : Hid (mayB d l c = false) := Lib.hid (by
          cases hm : mayB d l c with
          | false => rfl
          | true =>
            have := (mayB_iff _ _ _).1 hm _ (natD_mem hlt)
            rw [List.contains_eq_mem] at hh
            exact absurd (of_decide_eq_true hh) this)
        rw [hh] at HC1
        clear hh
        generalize thirdN d (l.getD k 0) c = t at *
        generalize l.getD k 0 = z at *
        go_wp2_with fail
        refine HT1.out.mono ?_
        rintro e w' ⟨rfl, rfl⟩
        go_wp2_with fail
        refine HC1.out.mono ?_
        rintro e w' ⟨rfl, rfl⟩
        go_wp2
        go_ret
        exact ⟨ret_bool HI.out.symm, rfl⟩
      | false =>
        have H := Lib.hid (fun (j : Nat) (hj : j < k + 1) => if e : j = k then e ▸ hh else HA.out j (by omega))
        rw [hh] at HC1
        clear hh
        generalize thirdN d (l.getD k 0) c = t at *
        generalize l.getD k 0 = z at *
        go_wp2_with fail
        refine HT1.out.mono ?_
        rintro e w' ⟨rfl, rfl⟩
        go_wp2_with fail
        refine HC1.out.mono ?_
        rintro e w' ⟨rfl, rfl⟩
        go_wp2
        go_round
        case rel => exact ⟨k + 1, by omega, by go_num, H.out⟩
        case measure => simp [intOf]; omega
    · obtain rfl : k = l.length := by omega
      have HI : Hid (mayB d l c = true) := Lib.hid ((mayB_iff _ _ _).2 fun a ha => by
        obtain ⟨j, hj, rfl⟩ := mem_at ha
        have := HA.out j hj
        rw [List.contains_eq_mem] at this
        exact of_decide_eq_false this)
      go_wp2
      go_ret
      exact ⟨ret_bool HI.out.symm, rfl⟩

/-- A rising slice of numbers from a to b - 1. -/
def riseAt (xs : List Int) (a b : Int) (i : Nat) : Bool := decide (a ≤ xs.getD i 0) && decide (xs.getD i 0 < b) && (i == 0 || decide (xs.getD (i - 1) 0 < xs.getD i 0))
def riseB (xs : List Int) (a b : Int) : Bool := (List.range xs.length).all (riseAt xs a b)
theorem riseB_bad {xs : List Int} {a b : Int} {k : Nat} (hk : k < xs.length) (h : riseAt xs a b k = false) : riseB xs a b = false := by
  unfold riseB
  rw [List.all_eq_false]
  exact ⟨k, List.mem_range.2 hk, by rw [h]; decide⟩
theorem riseB_good {xs : List Int} {a b : Int} (h : ∀ k, k < xs.length → riseAt xs a b k = true) : riseB xs a b = true := by
  unfold riseB
  rw [List.all_eq_true]
  exact fun k hk => h k (List.mem_range.1 hk)

set_option maxHeartbeats 2000000 in
theorem isRising_any (v : Value) (xs : List Int) (a b : Int) (w : World) (h : Ints w v xs) :
    Calls Try.prog 79 #[v, .int .i64 a, .int .i64 b] w fun e w' => e = .returned (.bool (riseB xs a b)) ∧ w = w' := by
  obtain ⟨ao, cap, rfl, h1, h2, hx⟩ := h.open
  have HX := Lib.hid hx
  clear h hx
  go_enter Try.func79, Try.ntmps79
  go_wp2
  go_loop [11] (fun i => ∃ k : Nat, k ≤ xs.length ∧ i = .int .i64 k ∧ ∀ j : Nat, j < k → riseAt xs a b j = true) (fun i => xs.length - (intOf i).toNat)
  case atStart => exact ⟨0, Nat.zero_le _, rfl, fun j hj => absurd hj (by omega)⟩
  case round =>
    obtain ⟨k, hk, rfl, hall⟩ := hrel
    have HA := Lib.hid hall
    clear hall
    by_cases hlt : k < xs.length
    · have HB := Lib.hid (fun (h : riseAt xs a b k = false) => riseB_bad hlt h)
      have HG := Lib.hid (fun (h : riseAt xs a b k = true) (j : Nat) (hj : j < k + 1) => if e : j = k then e ▸ h else HA.out j (by omega))
      by_cases hk0 : k = 0
      · subst hk0
        obtain ⟨bb, o, rfl, hck⟩ := HX.out 0 hlt
        rw [Nat.add_zero] at hck
        have HR : Hid (riseAt xs a b 0 = (decide (a ≤ xs.getD 0 0) && decide (xs.getD 0 0 < b))) := Lib.hid (by unfold riseAt; simp)
        generalize xs.getD 0 0 = x at *
        by_cases c1 : x < a
        · have HI := Lib.hid (HB.out (by rw [HR.out, decide_eq_false (by omega)]; rfl))
          go_wp2
          go_ret
          exact ⟨ret_bool HI.out.symm, rfl⟩
        by_cases c2 : b ≤ x
        · have HI := Lib.hid (HB.out (by rw [HR.out, decide_eq_false (by omega : ¬ x < b)]; simp))
          go_wp2
          go_ret
          exact ⟨ret_bool HI.out.symm, rfl⟩
        have HI := Lib.hid (HG.out (by rw [HR.out, decide_eq_true (by omega), decide_eq_true (by omega)]; rfl))
        go_wp2
        go_round
        case rel => exact ⟨1, by omega, by go_num, HI.out⟩
        case measure => simp [intOf]; omega
      · obtain ⟨j, rfl⟩ : ∃ j, k = j + 1 := ⟨k - 1, by omega⟩
        obtain ⟨bb, o, rfl, hck⟩ := HX.out (j + 1) hlt
        obtain ⟨bb', o', he, hcj⟩ := HX.out j (by omega)
        simp only [Option.some.injEq, Addr.mk.injEq] at he
        obtain ⟨rfl, rfl, _⟩ := he
        have HR : Hid (riseAt xs a b (j + 1) = (decide (a ≤ xs.getD (j + 1) 0) && decide (xs.getD (j + 1) 0 < b) && decide (xs.getD j 0 < xs.getD (j + 1) 0))) := Lib.hid (by unfold riseAt; simp)
        generalize xs.getD (j + 1) 0 = x at *
        generalize xs.getD j 0 = y at *
        by_cases c1 : x < a
        · have HI := Lib.hid (HB.out (by rw [HR.out, decide_eq_false (by omega)]; rfl))
          go_wp2
          go_ret
          exact ⟨ret_bool HI.out.symm, rfl⟩
        by_cases c2 : b ≤ x
        · have HI := Lib.hid (HB.out (by rw [HR.out, decide_eq_false (by omega : ¬ x < b)]; simp))
          go_wp2
          go_ret
          exact ⟨ret_bool HI.out.symm, rfl⟩
        by_cases c3 : x ≤ y
        · have HI := Lib.hid (HB.out (by rw [HR.out, decide_eq_false (by omega : ¬ y < x)]; simp))
          go_wp2
          go_ret
          exact ⟨ret_bool HI.out.symm, rfl⟩
        have HI := Lib.hid (HG.out (by rw [HR.out, decide_eq_true (by omega), decide_eq_true (by omega), decide_eq_true (by omega)]; rfl))
        go_wp2
        go_round
        case rel => exact ⟨j + 1 + 1, by omega, by go_num, HI.out⟩
        case measure => simp [intOf]; omega
    · obtain rfl : k = xs.length := by omega
      have HI := Lib.hid (riseB_good HA.out)
      go_wp2
      go_ret
      exact ⟨ret_bool HI.out.symm, rfl⟩

set_option maxHeartbeats 2000000 in
theorem rRising_any (v : Value) (xs : List Int) (a b : Int) (w : World) (h : Ints w v xs) :
    Calls Try.prog 40 #[v, .int .i64 a, .int .i64 (b - 1)] w fun e w' => e = .returned (.bool (riseB xs a b)) ∧ w = w' := by
  obtain ⟨ao, cap, rfl, h1, h2, hx⟩ := h.open
  have HX := Lib.hid hx
  clear h hx
  go_enter Try.func40, Try.ntmps40
  go_wp2
  go_loop [11] (fun i => ∃ k : Nat, k ≤ xs.length ∧ i = .int .i64 k ∧ ∀ j : Nat, j < k → riseAt xs a b j = true) (fun i => xs.length - (intOf i).toNat)
  case atStart => exact ⟨0, Nat.zero_le _, rfl, fun j hj => absurd hj (by omega)⟩
  case round =>
    obtain ⟨k, hk, rfl, hall⟩ := hrel
    have HA := Lib.hid hall
    clear hall
    by_cases hlt : k < xs.length
    · have HB := Lib.hid (fun (h : riseAt xs a b k = false) => riseB_bad hlt h)
      have HG := Lib.hid (fun (h : riseAt xs a b k = true) (j : Nat) (hj : j < k + 1) => if e : j = k then e ▸ h else HA.out j (by omega))
      by_cases hk0 : k = 0
      · subst hk0
        obtain ⟨bb, o, rfl, hck⟩ := HX.out 0 hlt
        rw [Nat.add_zero] at hck
        have HR : Hid (riseAt xs a b 0 = (decide (a ≤ xs.getD 0 0) && decide (xs.getD 0 0 < b))) := Lib.hid (by unfold riseAt; simp)
        generalize xs.getD 0 0 = x at *
        by_cases c1 : x < a
        · have HI := Lib.hid (HB.out (by rw [HR.out, decide_eq_false (by omega)]; rfl))
          go_wp2
          go_ret
          exact ⟨ret_bool HI.out.symm, rfl⟩
        by_cases c2 : b - 1 < x
        · have HI := Lib.hid (HB.out (by rw [HR.out, decide_eq_false (by omega : ¬ x < b)]; simp))
          go_wp2
          go_ret
          exact ⟨ret_bool HI.out.symm, rfl⟩
        have HI := Lib.hid (HG.out (by rw [HR.out, decide_eq_true (by omega), decide_eq_true (by omega)]; rfl))
        go_wp2
        go_round
        case rel => exact ⟨1, by omega, by go_num, HI.out⟩
        case measure => simp [intOf]; omega
      · obtain ⟨j, rfl⟩ : ∃ j, k = j + 1 := ⟨k - 1, by omega⟩
        obtain ⟨bb, o, rfl, hck⟩ := HX.out (j + 1) hlt
        obtain ⟨bb', o', he, hcj⟩ := HX.out j (by omega)
        simp only [Option.some.injEq, Addr.mk.injEq] at he
        obtain ⟨rfl, rfl, _⟩ := he
        have HR : Hid (riseAt xs a b (j + 1) = (decide (a ≤ xs.getD (j + 1) 0) && decide (xs.getD (j + 1) 0 < b) && decide (xs.getD j 0 < xs.getD (j + 1) 0))) := Lib.hid (by unfold riseAt; simp)
        generalize xs.getD (j + 1) 0 = x at *
        generalize xs.getD j 0 = y at *
        by_cases c1 : x < a
        · have HI := Lib.hid (HB.out (by rw [HR.out, decide_eq_false (by omega)]; rfl))
          go_wp2
          go_ret
          exact ⟨ret_bool HI.out.symm, rfl⟩
        by_cases c2 : b - 1 < x
        · have HI := Lib.hid (HB.out (by rw [HR.out, decide_eq_false (by omega : ¬ x < b)]; simp))
          go_wp2
          go_ret
          exact ⟨ret_bool HI.out.symm, rfl⟩
        by_cases c3 : x ≤ y
        · have HI := Lib.hid (HB.out (by rw [HR.out, decide_eq_false (by omega : ¬ y < x)]; simp))
          go_wp2
          go_ret
          exact ⟨ret_bool HI.out.symm, rfl⟩
        have HI := Lib.hid (HG.out (by rw [HR.out, decide_eq_true (by omega), decide_eq_true (by omega), decide_eq_true (by omega)]; rfl))
        go_wp2
        go_round
        case rel => exact ⟨j + 1 + 1, by omega, by go_num, HI.out⟩
        case measure => simp [intOf]; omega
    · obtain rfl : k = xs.length := by omega
      have HI := Lib.hid (riseB_good HA.out)
      go_wp2
      go_ret
      exact ⟨ret_bool HI.out.symm, rfl⟩
end Go.Proofs.Ytlalfjkenkmojaa
