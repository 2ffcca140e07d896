/- residues and steps: isModulus, areResidues, isCount; Sums, Apart, Steps; the reference's Residues -/
import Derived.Test.YtlalfjkenkmojaaDk
import Derived.Test.YtlalfjkenkmojaaFk
import Derived.Test.YtlalfjkenkmojaaEk
import Derived.Test.YtlalfjkenkmojaaCd
namespace Go.Proofs.Ytlalfjkenkmojaa
open Go.RowKit

theorem rise_take {xs : List Int} {a b : Nat} (hb : b ≤ 89) : riseB (xs.take 90) a b = riseB xs a b := by
  by_cases hl : xs.length ≤ 90
  · rw [List.take_of_length_le hl]
  · have h1 : riseB xs a b = false := by
      cases h : riseB xs a b with
      | false => rfl
      | true =>
        obtain ⟨l, rfl, hu, hk⟩ := rise_nats h
        have := up_len hu (n := b) fun x hx => (hk x hx).2
        rw [nats_length] at hl
        omega
    have h2 : riseB (xs.take 90) a b = false := by
      cases h : riseB (xs.take 90) a b with
      | false => rfl
      | true =>
        obtain ⟨l, he, hu, hk⟩ := rise_nats h
        have h3 := up_len hu (n := b) fun x hx => (hk x hx).2
        have h5 : (xs.take 90).length = (nats l).length := by rw [he]
        rw [nats_length, List.length_take] at h5
        omega
    rw [h1, h2]

def isModulusB (n : Int) : Bool := decide (2 ≤ n ∧ n ≤ 40)
set_option maxHeartbeats 1000000 in
theorem isModulus_any (n : Int) (w : World) : Calls Try.prog 71 #[.int .i64 n] w fun e w' => e = .returned (.bool (isModulusB n)) ∧ w = w' := by
  by_cases h1 : n < 2
  · have HB : Hid (isModulusB n = false) := Lib.hid (decide_eq_false (by omega))
    go_enter Try.func71, Try.ntmps71
    go_wp2
    go_ret
    exact ⟨ret_bool (by first | exact HB.out.symm | (rw [HB.out]; simp; done) | (rw [HB.out]; simp; omega)), rfl⟩
  by_cases h2 : 40 < n
  · have HB : Hid (isModulusB n = false) := Lib.hid (decide_eq_false (by omega))
    go_enter Try.func71, Try.ntmps71
    go_wp2
    go_ret
    exact ⟨ret_bool (by first | exact HB.out.symm | (rw [HB.out]; simp; done) | (rw [HB.out]; simp; omega)), rfl⟩
  have HB : Hid (isModulusB n = true) := Lib.hid (decide_eq_true (by omega))
  go_enter Try.func71, Try.ntmps71
  go_wp2
  go_ret
  exact ⟨ret_bool (by first | exact HB.out.symm | (rw [HB.out]; simp; done) | (rw [HB.out]; simp; omega)), rfl⟩

def isCountB (n : Int) : Bool := decide (1 ≤ n ∧ n ≤ 40)
set_option maxHeartbeats 1000000 in
theorem isCount_any (n : Int) (w : World) : Calls Try.prog 78 #[.int .i64 n] w fun e w' => e = .returned (.bool (isCountB n)) ∧ w = w' := by
  by_cases h1 : n < 1
  · have HB : Hid (isCountB n = false) := Lib.hid (decide_eq_false (by omega))
    go_enter Try.func78, Try.ntmps78
    go_wp2
    go_ret
    exact ⟨ret_bool (by first | exact HB.out.symm | (rw [HB.out]; simp; done) | (rw [HB.out]; simp; omega)), rfl⟩
  by_cases h2 : 40 < n
  · have HB : Hid (isCountB n = false) := Lib.hid (decide_eq_false (by omega))
    go_enter Try.func78, Try.ntmps78
    go_wp2
    go_ret
    exact ⟨ret_bool (by first | exact HB.out.symm | (rw [HB.out]; simp; done) | (rw [HB.out]; simp; omega)), rfl⟩
  have HB : Hid (isCountB n = true) := Lib.hid (decide_eq_true (by omega))
  go_enter Try.func78, Try.ntmps78
  go_wp2
  go_ret
  exact ⟨ret_bool (by first | exact HB.out.symm | (rw [HB.out]; simp; done) | (rw [HB.out]; simp; omega)), rfl⟩

/-- Residues modulo n; numbers from 1 to n. -/
def resB (n : Int) (xs : List Int) : Bool := isModulusB n && riseB xs 0 n
def stB (n : Int) (xs : List Int) : Bool := isCountB n && riseB xs 1 (n + 1)
structure Res (n : Nat) (l : List Nat) : Prop where
  lo : 2 ≤ n
  hi : n ≤ 40
  up : Up l
  bd : ∀ x ∈ l, x < n
theorem Res.b40 {n : Nat} {l : List Nat} (h : Res n l) : ∀ x ∈ l, x < 40 := fun x hx => by have := h.bd x hx; have := h.hi; omega
theorem Res.len {n : Nat} {l : List Nat} (h : Res n l) : l.length ≤ 40 := by have := up_len h.up h.bd; have := h.hi; omega
structure Sts (n : Nat) (l : List Nat) : Prop where
  lo : 1 ≤ n
  hi : n ≤ 40
  up : Up l
  bd : ∀ x ∈ l, 1 ≤ x ∧ x < n + 1
theorem Sts.b41 {n : Nat} {l : List Nat} (h : Sts n l) : ∀ x ∈ l, x ≤ 1000 := fun x hx => by have := h.bd x hx; have := h.hi; omega
theorem Sts.len {n : Nat} {l : List Nat} (h : Sts n l) : l.length ≤ 41 := by have := up_len h.up (n := n + 1) fun x hx => (h.bd x hx).2; have := h.hi; omega
theorem res_nats {n : Int} {xs : List Int} (h : resB n xs = true) : ∃ (m : Nat) (l : List Nat), n = m ∧ xs = nats l ∧ Res m l := by
  unfold resB at h
  rw [Bool.and_eq_true] at h
  have h1 := of_decide_eq_true h.1
  obtain ⟨m, rfl⟩ := Int.eq_ofNat_of_zero_le (show 0 ≤ n by omega)
  obtain ⟨l, hl, hu, hb⟩ := rise_nats (a := 0) h.2
  exact ⟨m, l, rfl, hl, by omega, by omega, hu, fun x hx => (hb x hx).2⟩
theorem res_mk {n : Nat} {l : List Nat} (h : Res n l) : resB n (nats l) = true := by
  unfold resB
  rw [show isModulusB n = true from decide_eq_true (by have := h.lo; have := h.hi; omega), Bool.true_and]
  exact nats_rise (a := 0) h.up fun x hx => ⟨Nat.zero_le _, h.bd x hx⟩
theorem st_nats {n : Int} {xs : List Int} (h : stB n xs = true) : ∃ (m : Nat) (l : List Nat), n = m ∧ xs = nats l ∧ Sts m l := by
  unfold stB at h
  rw [Bool.and_eq_true] at h
  have h1 := of_decide_eq_true h.1
  obtain ⟨m, rfl⟩ := Int.eq_ofNat_of_zero_le (show 0 ≤ n by omega)
  obtain ⟨l, hl, hu, hb⟩ := rise_nats (a := 1) (b := m + 1) h.2
  exact ⟨m, l, rfl, hl, by omega, by omega, hu, hb⟩
theorem st_mk {n : Nat} {l : List Nat} (h : Sts n l) : stB n (nats l) = true := by
  unfold stB
  rw [show isCountB n = true from decide_eq_true (by have := h.lo; have := h.hi; omega), Bool.true_and]
  exact nats_rise (a := 1) (b := n + 1) h.up h.bd
theorem resB_take {n : Int} {xs : List Int} : resB n (xs.take 90) = resB n xs := by
  unfold resB
  cases h : isModulusB n with
  | false => rfl
  | true =>
    have h1 := of_decide_eq_true h
    obtain ⟨m, rfl⟩ := Int.eq_ofNat_of_zero_le (show 0 ≤ n by omega)
    have := rise_take (xs := xs) (a := 0) (b := m) (by omega)
    rw [Bool.true_and, Bool.true_and]; exact this
theorem stB_take {n : Int} {xs : List Int} : stB n (xs.take 90) = stB n xs := by
  unfold stB
  cases h : isCountB n with
  | false => rfl
  | true =>
    have h1 := of_decide_eq_true h
    obtain ⟨m, rfl⟩ := Int.eq_ofNat_of_zero_le (show 0 ≤ n by omega)
    have := rise_take (xs := xs) (a := 1) (b := m + 1) (by omega)
    rw [Bool.true_and, Bool.true_and]; exact this
theorem nats_take90 {l : List Nat} (h : l.length ≤ 90) : (nats l).take 90 = nats l := List.take_of_length_le (by rw [nats_length]; exact h)

set_option maxHeartbeats 1000000 in
theorem areResidues_any (n : Int) (v : Value) (xs : List Int) (w : World) (h : Ints w v xs) : Calls Try.prog 77 #[.int .i64 n, v] w fun e w' => e = .returned (.bool (resB n xs)) ∧ w = w' := by
  have HD := Lib.hid (isModulus_any n w)
  have HR := Lib.hid (isRising_any v xs 0 n w h)
  cases hd : isModulusB n with
  | false =>
    rw [hd] at HD
    have HB : Hid (resB n xs = false) := Lib.hid (by unfold resB; rw [hd]; rfl)
    clear hd h
    go_enter Try.func77, Try.ntmps77
    go_wp2_with fail
    refine HD.out.mono ?_
    rintro e w' ⟨rfl, rfl⟩
    go_wp2
    go_ret
    exact ⟨ret_bool HB.out.symm, rfl⟩
  | true =>
    rw [hd] at HD
    have HB : Hid (resB n xs = riseB xs 0 n) := Lib.hid (by unfold resB; rw [hd]; rfl)
    clear hd h
    generalize riseB xs 0 n = r at *
    go_enter Try.func77, Try.ntmps77
    go_wp2_with fail
    refine HD.out.mono ?_
    rintro e w' ⟨rfl, rfl⟩
    go_wp2_with fail
    refine HR.out.mono ?_
    rintro e w' ⟨rfl, rfl⟩
    go_wp2
    go_ret
    exact ⟨ret_bool HB.out.symm, rfl⟩

theorem rRising' (v : Value) (xs : List Int) (a b : Int) (w : World) (h : Ints w v xs) :
    Calls Try.prog 40 #[v, .int .i64 a, .int .i64 b] w fun e w' => e = .returned (.bool (riseB xs a (b + 1))) ∧ w = w' := by
  have := rRising_any v xs a (b + 1) w h
  rwa [Int.add_sub_cancel] at this

set_option maxHeartbeats 1000000 in
theorem rResidues_any (n : Int) (v : Value) (xs : List Int) (w : World) (h : Ints w v xs) : Calls Try.prog 42 #[.int .i64 n, v] w fun e w' => e = .returned (.bool (resB n xs)) ∧ w = w' := by
  have HR := Lib.hid (rRising_any v xs 0 n w h)
  clear h
  by_cases h1 : n < 2
  · have HB : Hid (resB n xs = false) := Lib.hid (by unfold resB; rw [show isModulusB n = false from decide_eq_false (by omega)]; rfl)
    go_enter Try.func42, Try.ntmps42
    go_wp2
    go_ret
    exact ⟨ret_bool HB.out.symm, rfl⟩
  by_cases h2 : 40 < n
  · have HB : Hid (resB n xs = false) := Lib.hid (by unfold resB; rw [show isModulusB n = false from decide_eq_false (by omega)]; rfl)
    have c1 : decide (2 ≤ n) = true := decide_eq_true (by omega)
    have c2 : decide (n ≤ 40) = false := decide_eq_false (by omega)
    go_enter Try.func42, Try.ntmps42
    go_wp2
    go_ret
    exact ⟨ret_bool (by first | exact HB.out.symm | (rw [HB.out]; simp; done) | (rw [HB.out]; simp; omega)), rfl⟩
  have HB : Hid (resB n xs = riseB xs 0 n) := Lib.hid (by unfold resB; rw [show isModulusB n = true from decide_eq_true (by omega)]; rfl)
  generalize riseB xs 0 n = r at *
  go_enter Try.func42, Try.ntmps42
  go_wp2_with fail
  refine HR.out.mono ?_
  rintro e w' ⟨rfl, rfl⟩
  go_wp2
  go_ret
  exact ⟨ret_bool HB.out.symm, rfl⟩

theorem difRule (n : Nat) (hn : 2 ≤ n) (hn4 : n ≤ 40) : Rule 72 #[.int .i64 n] (ruleOf (sumsB n)) (fun l x => x < 40 ∧ (∀ y ∈ l, y < 40) ∧ l.length ≤ 40) :=
  ⟨enters_of Try.func72 (by kernel_rfl) rfl, fun v l x w h hD => keepsDifferent_any n x v l w hn hn4 hD.2.1 hD.1 hD.2.2 h⟩
theorem freeRule (n : Nat) (hn : 2 ≤ n) (hn4 : n ≤ 40) : Rule 73 #[.int .i64 n] (ruleOf (apartB n)) (fun l x => x < 40 ∧ (∀ y ∈ l, y < 40) ∧ l.length ≤ 40) :=
  ⟨enters_of Try.func73 (by kernel_rfl) rfl, fun v l x w h hD => keepsFree_any n x v l w hn hn4 hD.2.1 hD.1 hD.2.2 h⟩
theorem endsRule : Rule 74 #[] endsB (fun l x => x ≤ 1000 ∧ ∀ y ∈ l, y ≤ 1000) :=
  ⟨enters_of Try.func74 (by kernel_rfl) rfl, fun v l x w h hD => (endsNone_any x v l w hD.1 hD.2 h).mono fun _ _ ⟨he, hw⟩ => ⟨he, by subst hw; exact Below.refl _ _⟩⟩

set_option maxHeartbeats 1000000 in
theorem Sums_bad (n : Int) (v : Value) (xs : List Int) (w : World) (h : Ints w v xs) (hb : resB n xs = false) : Calls Try.prog 37 #[.int .i64 n, v] w fun e w' => e = .returned (.tuple #[.bool false, .int .i64 2]) ∧ w = w' := by
  have HA := Lib.hid (areResidues_any n v xs w h)
  rw [hb] at HA
  clear h hb
  go_enter Try.func37, Try.ntmps37
  go_wp2_with fail
  refine HA.out.mono ?_
  rintro e w' ⟨rfl, rfl⟩
  go_wp2
  go_ret2
  exact ⟨rfl, rfl⟩

set_option maxHeartbeats 1000000 in
theorem Apart_bad (n : Int) (v : Value) (xs : List Int) (w : World) (h : Ints w v xs) (hb : resB n xs = false) : Calls Try.prog 38 #[.int .i64 n, v] w fun e w' => e = .returned (.tuple #[.bool false, .int .i64 2]) ∧ w = w' := by
  have HA := Lib.hid (areResidues_any n v xs w h)
  rw [hb] at HA
  clear h hb
  go_enter Try.func38, Try.ntmps38
  go_wp2_with fail
  refine HA.out.mono ?_
  rintro e w' ⟨rfl, rfl⟩
  go_wp2
  go_ret2
  exact ⟨rfl, rfl⟩

set_option maxHeartbeats 1000000 in
theorem Sums_any (n : Nat) (v : Value) (l : List Nat) (w : World) (hr : Res n l) (h : Nats w v l) :
    Calls Try.prog 37 #[.int .i64 n, v] w fun e w' => e = .returned (.tuple #[.bool (sumsB n l), .int .i64 0]) ∧ Below w.heap.size w w' := by
  have HA := Lib.hid (areResidues_any n v _ w h)
  rw [res_mk hr] at HA
  have HK := Lib.hid (keepsTo_any (difRule n hr.lo hr.hi) v l w h fun k hk _ => ⟨hr.b40 _ (natD_mem hk), fun y hy => hr.b40 y (List.mem_of_mem_take hy), by rw [List.length_take]; have := hr.len; omega⟩)
  rw [keeps_sums n l] at HK
  clear h hr
  generalize sumsB n l = q at *
  go_enter Try.func37, Try.ntmps37
  go_wp2_with fail
  refine HA.out.mono ?_
  rintro e w' ⟨rfl, rfl⟩
  go_wp2_with fail
  refine HK.out.mono ?_
  rintro e w1 ⟨rfl, hb1⟩
  have HB1 := Lib.hid hb1
  clear hb1
  go_wp2
  go_ret2
  exact ⟨rfl, HB1.out⟩

set_option maxHeartbeats 1000000 in
theorem Apart_any (n : Nat) (v : Value) (l : List Nat) (w : World) (hr : Res n l) (h : Nats w v l) :
    Calls Try.prog 38 #[.int .i64 n, v] w fun e w' => e = .returned (.tuple #[.bool (apartB n l), .int .i64 0]) ∧ Below w.heap.size w w' := by
  have HA := Lib.hid (areResidues_any n v _ w h)
  rw [res_mk hr] at HA
  have HK := Lib.hid (keepsTo_any (freeRule n hr.lo hr.hi) v l w h fun k hk _ => ⟨hr.b40 _ (natD_mem hk), fun y hy => hr.b40 y (List.mem_of_mem_take hy), by rw [List.length_take]; have := hr.len; omega⟩)
  rw [keeps_apart n l] at HK
  clear h hr
  generalize apartB n l = q at *
  go_enter Try.func38, Try.ntmps38
  go_wp2_with fail
  refine HA.out.mono ?_
  rintro e w' ⟨rfl, rfl⟩
  go_wp2_with fail
  refine HK.out.mono ?_
  rintro e w1 ⟨rfl, hb1⟩
  have HB1 := Lib.hid hb1
  clear hb1
  go_wp2
  go_ret2
  exact ⟨rfl, HB1.out⟩

set_option maxHeartbeats 1000000 in
theorem Steps_bad (n : Int) (v : Value) (xs : List Int) (w : World) (h : Ints w v xs) (hb : stB n xs = false) : Calls Try.prog 39 #[.int .i64 n, v] w fun e w' => e = .returned (.tuple #[.bool false, .int .i64 2]) ∧ w = w' := by
  have HC := Lib.hid (isCount_any n w)
  have HR := Lib.hid (isRising_any v xs 1 (n + 1) w h)
  cases hd : isCountB n with
  | false =>
    rw [hd] at HC
    clear h hb hd
    go_enter Try.func39, Try.ntmps39
    go_wp2_with fail
    refine HC.out.mono ?_
    rintro e w' ⟨rfl, rfl⟩
    go_wp2
    go_ret2
    exact ⟨rfl, rfl⟩
  | true =>
    have hn := of_decide_eq_true hd
    unfold stB at hb
    rw [hd, Bool.true_and] at hb
    rw [hb] at HR
    rw [hd] at HC
    clear h hb hd
    go_enter Try.func39, Try.ntmps39
    go_wp2_with fail
    refine HC.out.mono ?_
    rintro e w' ⟨rfl, rfl⟩
    go_wp2_with fail
    refine HR.out.mono ?_
    rintro e w' ⟨rfl, rfl⟩
    go_wp2
    go_ret2
    exact ⟨rfl, rfl⟩
set_option maxHeartbeats 1000000 in
theorem Steps_any (n : Nat) (v : Value) (l : List Nat) (w : World) (hr : Sts n l) (h : Nats w v l) :
    Calls Try.prog 39 #[.int .i64 n, v] w fun e w' => e = .returned (.tuple #[.bool (stepsR l), .int .i64 0]) ∧ Below w.heap.size w w' := by
  have HC := Lib.hid (isCount_any n w)
  have HR := Lib.hid (isRising_any v (nats l) 1 (n + 1) w h)
  have hst := st_mk hr
  unfold stB at hst
  rw [Bool.and_eq_true] at hst
  rw [hst.1] at HC
  rw [hst.2] at HR
  have hlo := hr.lo
  have hhi := hr.hi
  have HK := Lib.hid (keepsTo_any endsRule v l w h fun k hk _ => ⟨hr.b41 _ (natD_mem hk), fun y hy => hr.b41 y (List.mem_of_mem_take hy)⟩)
  rw [keeps_steps l hr.up] at HK
  clear h hr hst
  generalize stepsR l = q at *
  go_enter Try.func39, Try.ntmps39
  go_wp2_with fail
  refine HC.out.mono ?_
  rintro e w' ⟨rfl, rfl⟩
  go_wp2_with fail
  refine HR.out.mono ?_
  rintro e w' ⟨rfl, rfl⟩
  go_wp2_with fail
  refine HK.out.mono ?_
  rintro e w1 ⟨rfl, hb1⟩
  have HB1 := Lib.hid hb1
  clear hb1
  go_wp2
  go_ret2
  exact ⟨rfl, HB1.out⟩
end Go.Proofs.Ytlalfjkenkmojaa
