/- endsNone, the reference's Steps -/
import Derived.Test.YtlalfjkenkmojaaKe
namespace Go.Proofs.Ytlalfjkenkmojaa
open Go.RowKit

theorem hasB_sub (l : List Nat) (m x : Nat) : hasB (nats l) (2 * (m:Int) - x) = (decide (x ≤ 2 * m) && l.contains (2 * m - x)) := by
  by_cases h : x ≤ 2 * m
  · rw [decide_eq_true h, Bool.true_and, ← hasB_nats]
    congr 1; omega
  · rw [decide_eq_false h, Bool.false_and]
    unfold hasB
    refine decide_eq_false fun hm => ?_
    obtain ⟨y, _, e⟩ := List.mem_map.1 hm
    omega
theorem endsB_bad {l : List Nat} {x k : Nat} (hk : k < l.length) (h : (decide (x ≤ 2 * l.getD k 0) && l.contains (2 * l.getD k 0 - x)) = true) : endsB l x = false := by
  unfold endsB
  rw [List.all_eq_false]
  exact ⟨_, at_mem hk, by rw [h]; decide⟩
theorem endsB_good {l : List Nat} {x : Nat} (h : ∀ k, k < l.length → (decide (x ≤ 2 * l.getD k 0) && l.contains (2 * l.getD k 0 - x)) = false) : endsB l x = true := by
  unfold endsB
  rw [List.all_eq_true]
  intro m hm
  obtain ⟨k, hk, rfl⟩ := mem_at hm
  rw [h k hk]; rfl

set_option maxHeartbeats 2000000 in
theorem endsNone_any (x : Nat) (v : Value) (l : List Nat) (w : World) (hx : x ≤ 1000) (hl : ∀ y ∈ l, y ≤ 1000) (h : Nats w v l) :
    Calls Try.prog 74 #[v, .int .i64 x] w fun e w' => e = .returned (.bool (endsB l x)) ∧ w = w' := by
  have HC := Lib.hid (fun y => contains_any v (nats l) y w h)
  have HBd := Lib.hid hl
  obtain ⟨ao, cap, rfl, h1, h2, hxx⟩ := h.open
  have HX := Lib.hid hxx
  clear h hxx hl
  go_enter Try.func74, Try.ntmps74
  go_wp2
  go_loop [9] (fun i => ∃ k : Nat, k ≤ l.length ∧ i = .int .i64 k ∧ ∀ j : Nat, j < k → (decide (x ≤ 2 * l.getD j 0) && l.contains (2 * l.getD j 0 - x)) = false) (fun i => l.length - (intOf i).toNat)
  case atStart => exact ⟨0, Nat.zero_le _, rfl, fun j hj => absurd hj (by omega)⟩
  case round =>
    obtain ⟨k, hk, rfl, hall⟩ := hrel
    have HA := Lib.hid hall
    clear hall
    by_cases hlt : k < l.length
    · obtain ⟨b, o, rfl, hck⟩ := HX.out k hlt
      have hz := HBd.out _ (natD_mem hlt)
      have HC1 := Lib.hid (HC.out (2 * ((l.getD k 0 : Nat) : Int) - x))
      rw [hasB_sub] at HC1
      have HBad := Lib.hid (endsB_bad (x := x) hlt)
      have HNx := Lib.hid (fun (hh : (decide (x ≤ 2 * l.getD k 0) && l.contains (2 * l.getD k 0 - x)) = false) (j : Nat) (hj : j < k + 1) => if e : j = k then (e ▸ hh : (decide (x ≤ 2 * l.getD j 0) && l.contains (2 * l.getD j 0 - x)) = false) else HA.out j (by omega))
      cases hh : (decide (x ≤ 2 * l.getD k 0) && l.contains (2 * l.getD k 0 - x)) with
      | true =>
        have HI := Lib.hid (HBad.out hh)
        rw [hh] at HC1
        clear hh HBad HNx
        generalize l.getD k 0 = z at *
        go_wp2_with fail
        refine HC1.out.mono ?_
        rintro e w' ⟨rfl, rfl⟩
        go_wp2
        go_ret
        exact ⟨ret_bool HI.out.symm, rfl⟩
      | false =>
        have HI := Lib.hid (HNx.out hh)
        rw [hh] at HC1
        clear hh HBad HNx
        generalize l.getD k 0 = z at *
        go_wp2_with fail
        refine HC1.out.mono ?_
        rintro e w' ⟨rfl, rfl⟩
        go_wp2
        go_round
        case rel => exact ⟨k + 1, by omega, by go_num, HI.out⟩
        case measure => simp [intOf]; omega
    · obtain rfl : k = l.length := by omega
      have HI := Lib.hid (endsB_good HA.out)
      go_wp2
      go_ret
      exact ⟨ret_bool HI.out.symm, rfl⟩

theorem stepsR_bad {l : List Nat} {i j : Nat} (hi : i < l.length) (hj : j < i) (h : 2 * l.getD i 0 - l.getD j 0 ∈ l) : stepsR l = false := by
  cases hh : stepsR l with
  | false => rfl
  | true => exact absurd h ((stepsR_iff l).1 hh i j hi hj)

set_option maxHeartbeats 4000000 in
theorem rSteps_any (v : Value) (l : List Nat) (w : World) (hu : Up l) (hl : ∀ y ∈ l, y ≤ 1000) (h : Nats w v l) :
    Calls Try.prog 41 #[v] w fun e w' => e = .returned (.bool (stepsR l)) ∧ w = w' := by
  have HC := Lib.hid (fun y => hasN_any v l y w h)
  have HBd := Lib.hid hl
  have HU := Lib.hid hu
  obtain ⟨ao, cap, rfl, h1, h2, hxx⟩ := h.open
  have HX := Lib.hid hxx
  clear h hxx hl hu
  go_enter Try.func41, Try.ntmps41
  go_wp2
  go_loop [9] (fun i => ∃ k : Nat, k ≤ l.length ∧ i = .int .i64 k ∧ ∀ i j, i < k → j < i → 2 * l.getD i 0 - l.getD j 0 ∉ l) (fun i => l.length - (intOf i).toNat)
  case atStart => exact ⟨0, Nat.zero_le _, rfl, fun i j hi => absurd hi (by omega)⟩
  case round =>
    obtain ⟨k, hk, rfl, hall⟩ := hrel
    have HA := Lib.hid hall
    clear hall
    by_cases hlt : k < l.length
    · obtain ⟨b, o, rfl, hck⟩ := HX.out k hlt
      have hz := HBd.out _ (natD_mem hlt)
      have HBad := Lib.hid (fun j (hj : j < k) => stepsR_bad hlt hj)
      have HLt := Lib.hid (fun j (hj : j < k) => up_lt HU.out hj hlt)
      have HNx := Lib.hid (fun (hh : ∀ j, j < k → 2 * l.getD k 0 - l.getD j 0 ∉ l) (i j : Nat) (hi : i < k + 1) (hj : j < i) => (show 2 * l.getD i 0 - l.getD j 0 ∉ l from if e : i = k then (by subst e; exact hh j hj) else HA.out i j (by omega) hj))
      generalize l.getD k 0 = z at *
      go_wp2_with fail
      go_loop [18] (fun i => ∃ j : Nat, j ≤ k ∧ i = .int .i64 j ∧ (∀ i, i < j → 2 * z - l.getD i 0 ∉ l)) (fun i => k - (intOf i).toNat)
      case atStart => exact ⟨0, Nat.zero_le _, rfl, fun i hi => absurd hi (by omega)⟩
      case round =>
        clear hck
        obtain ⟨j, hj, rfl, hall⟩ := hrel
        have HA2 := Lib.hid hall
        clear hall
        by_cases hjk : j < k
        · obtain ⟨b', o', he, hcj⟩ := HX.out j (by omega)
          simp only [Option.some.injEq, Addr.mk.injEq] at he
          obtain ⟨rfl, rfl, _⟩ := he
          have hyz := HLt.out j hjk
          have HBad1 := Lib.hid (HBad.out j hjk)
          have HNx2 := Lib.hid (fun (hh : 2 * z - l.getD j 0 ∉ l) (i : Nat) (hi : i < j + 1) => if e : i = j then (e ▸ hh : 2 * z - l.getD i 0 ∉ l) else HA2.out i (by omega))
          generalize l.getD j 0 = y at *
          have HC1 := Lib.hid (HC.out (2 * z - y))
          have hsub : ((2 * z - y : Nat) : Int) = 2 * (z:Int) - y := by omega
          rw [hsub] at HC1
          clear hsub
          cases hh : l.contains (2 * z - y) with
          | true =>
            have HF := Lib.hid (HBad1.out (by rw [List.contains_eq_mem] at hh; exact of_decide_eq_true hh))
            rw [hh] at HC1
            clear hh HBad1 HNx2
            go_wp2_with fail
            refine HC1.out.mono ?_
            rintro e w' ⟨rfl, rfl⟩
            go_wp2
            go_ret
            exact ⟨ret_bool HF.out.symm, rfl⟩
          | false =>
            have HND2 := Lib.hid (HNx2.out (by rw [List.contains_eq_mem] at hh; exact of_decide_eq_false hh))
            rw [hh] at HC1
            clear hh HBad1 HNx2
            go_wp2_with fail
            refine HC1.out.mono ?_
            rintro e w' ⟨rfl, rfl⟩
            go_wp2
            go_round
            case rel => exact ⟨j + 1, by omega, by go_num, HND2.out⟩
            case measure => simp [intOf]; omega
        · obtain rfl : j = k := by omega
          have HND2 := Lib.hid (HNx.out HA2.out)
          go_wp2
          go_round
          case rel => exact ⟨j + 1, by omega, by go_num, HND2.out⟩
          case measure => simp [intOf]; omega
    · obtain rfl : k = l.length := by omega
      have HF : Hid (stepsR l = true) := Lib.hid ((stepsR_iff l).2 HA.out)
      go_wp2
      go_ret
      exact ⟨ret_bool HF.out.symm, rfl⟩
end Go.Proofs.Ytlalfjkenkmojaa
