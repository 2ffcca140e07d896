/- cmp.Compare, slices.Compare of slices of one length; Most and Wide; slices.Sort of moved numbers -/
import Derived.Test.YtlalfjkenkmojaaDm
import Derived.Test.YtlalfjkenkmojaaLi
import Derived.Test.YtlalfjkenkmojaaRg
import Derived.Test.YtlalfjkenkmojaaAd
namespace Go.Proofs.Ytlalfjkenkmojaa
open Go.RowKit

set_option maxHeartbeats 1000000 in
theorem isNaN_any (x : Int) (w : World) : Calls Try.prog 111 #[.int .i64 x] w fun e w' => e = .returned (.bool false) ∧ w = w' := by
  go_enter Try.func111, Try.ntmps111
  go_wp2
  go_ret
  exact ⟨ret_bool (by simp), rfl⟩
def cmpI (x y : Int) : Int := if x < y then -1 else if y < x then 1 else 0
set_option maxHeartbeats 1000000 in
theorem cmp_any (x y : Int) (w : World) : Calls Try.prog 90 #[.int .i64 x, .int .i64 y] w fun e w' => e = .returned (.int .i64 (cmpI x y)) ∧ w = w' := by
  have HN := Lib.hid (fun x w => isNaN_any x w)
  by_cases h1 : x < y
  · have HC : Hid (cmpI x y = -1) := Lib.hid (if_pos h1)
    go_enter Try.func90, Try.ntmps90
    go_wp2_with fail
    refine (HN.out _ _).mono ?_
    rintro e w' ⟨rfl, rfl⟩
    go_wp2_with fail
    refine (HN.out _ _).mono ?_
    rintro e w' ⟨rfl, rfl⟩
    go_wp2
    go_ret
    exact ⟨ret_int HC.out.symm, rfl⟩
  by_cases h2 : y < x
  · have HC : Hid (cmpI x y = 1) := Lib.hid (by unfold cmpI; rw [if_neg h1, if_pos h2])
    go_enter Try.func90, Try.ntmps90
    go_wp2_with fail
    refine (HN.out _ _).mono ?_
    rintro e w' ⟨rfl, rfl⟩
    go_wp2_with fail
    refine (HN.out _ _).mono ?_
    rintro e w' ⟨rfl, rfl⟩
    go_wp2
    go_ret
    exact ⟨ret_int HC.out.symm, rfl⟩
  have HC : Hid (cmpI x y = 0) := Lib.hid (by unfold cmpI; rw [if_neg h1, if_neg h2])
  go_enter Try.func90, Try.ntmps90
  go_wp2_with fail
  refine (HN.out _ _).mono ?_
  rintro e w' ⟨rfl, rfl⟩
  go_wp2_with fail
  refine (HN.out _ _).mono ?_
  rintro e w' ⟨rfl, rfl⟩
  go_wp2
  go_ret
  exact ⟨ret_int HC.out.symm, rfl⟩

/-- At most 0. -/
def CmpPost (e : Ending) : Prop := e = .returned (.int .i64 0) ∨ e = .returned (.int .i64 (-1))
set_option maxHeartbeats 2000000 in
theorem compare_any (v u : Value) (a b : List Nat) (w : World) (hv : Nats w v a) (hu : Nats w u b) (hl : a.length = b.length) (hB : Before a b) :
    Calls Try.prog 56 #[v, u] w fun e w' => CmpPost e ∧ w = w' := by
  obtain ⟨ao, cap, rfl, h1, h2, hx⟩ := hv.open
  obtain ⟨bo, cap', rfl, h1', h2', hy⟩ := hu.open
  rw [← hl] at h1' h2' hy ⊢
  have HX := Lib.hid hx
  have HY := Lib.hid hy
  have HBf : Hid (∀ k, (∀ j, j < k → a.getD j 0 = b.getD j 0) → k < a.length → a.getD k 0 ≤ b.getD k 0) := Lib.hid (fun k h1 h2 => before_at hB h1 h2)
  have HC := Lib.hid (fun x y w => cmp_any x y w)
  clear hv hu hl hB hx hy
  go_enter Try.func56, Try.ntmps56
  go_wp2
  go_loop [11] (fun i => ∃ k : Nat, k ≤ a.length ∧ i = .int .i64 k ∧ ∀ j : Nat, j < k → a.getD j 0 = b.getD j 0) (fun i => a.length - (intOf i).toNat)
  case atStart => exact ⟨0, Nat.zero_le _, rfl, fun j hj => absurd hj (by omega)⟩
  case round =>
    obtain ⟨k, hk, rfl, hall⟩ := hrel
    have HA := Lib.hid hall
    clear hall
    by_cases hlt : k < a.length
    · obtain ⟨b1, o1, rfl, hck⟩ := HX.out k hlt
      obtain ⟨b2, o2, rfl, hck2⟩ := HY.out k hlt
      have hle := HBf.out k HA.out hlt
      by_cases heq : a.getD k 0 = b.getD k 0
      · have H := Lib.hid (fun (j : Nat) (hj : j < k + 1) => if e : j = k then e ▸ heq else HA.out j (by omega))
        have HCk := HC.out (a.getD k 0 : Nat) (b.getD k 0 : Nat)
        rw [show cmpI (a.getD k 0 : Nat) (b.getD k 0 : Nat) = 0 by unfold cmpI; rw [heq]; simp] at HCk
        have HCk := Lib.hid HCk
        clear heq hle HC HBf
        generalize a.getD k 0 = x at *
        generalize b.getD k 0 = y at *
        go_wp2_with fail
        refine (HCk.out _).mono ?_
        rintro e w' ⟨rfl, rfl⟩
        go_wp2
        go_round
        case rel => exact ⟨k + 1, by omega, by go_num, H.out⟩
        case measure => simp [intOf]; omega
      · have HCk := HC.out (a.getD k 0 : Nat) (b.getD k 0 : Nat)
        rw [show cmpI (a.getD k 0 : Nat) (b.getD k 0 : Nat) = -1 by unfold cmpI; rw [if_pos (by omega)]] at HCk
        have HCk := Lib.hid HCk
        clear heq hle HC HBf
        generalize a.getD k 0 = x at *
        generalize b.getD k 0 = y at *
        go_wp2_with fail
        refine (HCk.out _).mono ?_
        rintro e w' ⟨rfl, rfl⟩
        go_wp2
        go_ret
        exact ⟨.inr rfl, rfl⟩
    · obtain rfl : k = a.length := by omega
      clear HA HBf
      go_wp2
      go_ret
      exact ⟨.inl rfl, rfl⟩

set_option maxHeartbeats 1000000 in
theorem Most_bad (n : Nat) (w : World) (h : 25 < n) (h4 : n ≤ 40) : Calls Try.prog 31 #[.int .i64 n] w fun e w' => e = .returned (.tuple #[.slice none 0 0, .int .i64 2]) ∧ Below w.heap.size w w' := by
  have HM := Lib.hid (isModulus_any n w)
  rw [show isModulusB (n : Int) = true from decide_eq_true (by omega)] at HM
  go_enter Try.func31, Try.ntmps31
  go_wp2_with fail
  refine HM.out.mono ?_
  rintro e w' ⟨rfl, rfl⟩
  go_wp2
  go_ret2
  exact ⟨rfl, Below.refl _ _⟩
set_option maxHeartbeats 1000000 in
theorem Most_any (n : Nat) (w : World) (h1 : 2 ≤ n) (h2 : n ≤ 25) : Calls Try.prog 31 #[.int .i64 n] w fun e w' => ∃ v, e = .returned (.tuple #[v, .int .i64 0]) ∧ Nats w' v (mostN n) ∧ Below w.heap.size w w' := by
  have HM := Lib.hid (isModulus_any n w)
  rw [show isModulusB (n : Int) = true from decide_eq_true (by omega)] at HM
  have hb := fun w => between_any 0 n w (by omega) (by omega)
  rw [Nat.sub_zero] at hb
  have HBt := Lib.hid hb
  have HLg := Lib.hid (fun v w (h : Nats w v (List.range' 0 n)) => longest_any (U := fun z => z < 40) (difRule n h1 (by omega)) (diffB_mono n) (fun z hz => by omega) v (List.range' 0 n) (by rw [List.length_range']; omega)
    (fun l y hln hl hy => ⟨hy, hl, by rw [List.length_range'] at hln; omega⟩) (fun z hz => by rw [List.mem_range'_1] at hz; omega) w h)
  have HV : Hid (longL (ruleOf (sumsB n)) (List.range' 0 n) = mostN n) := Lib.hid rfl
  rw [HV.out] at HLg
  have HBd := Lib.hid (mostN_bd n)
  have HLe : Hid ((mostN n).length ≤ n) := Lib.hid (up_len (mostN_up n) (mostN_bd n))
  clear hb HV
  generalize mostN n = bs at *
  go_enter Try.func31, Try.ntmps31
  go_wp2_with fail
  refine HM.out.mono ?_
  rintro e w' ⟨rfl, rfl⟩
  go_wp2_with fail
  refine (HBt.out _).mono ?_
  rintro e w1 ⟨v1, rfl, hv1, hb1⟩
  have HV1 := Lib.hid hv1
  have HB1 := Lib.hid hb1
  clear hv1 hb1
  go_wp2_with fail
  refine (HLg.out v1 w1 HV1.out).mono ?_
  rintro e w2 ⟨v2, rfl, ho2, hb2⟩
  have HB2 := Lib.hid (HB1.out.trans (hb2.mono HB1.out.size))
  have HN2 : Hid (Nats w2 v2 bs) := Lib.hid (Nats.of_owns ho2 (by have := HLe.out; omega) fun x hx => by have := HBd.out x hx; omega)
  clear ho2 hb2
  go_wp2
  go_ret2
  exact ⟨v2, rfl, HN2.out, HB2.out⟩
set_option maxHeartbeats 1000000 in
theorem Wide_bad (n : Nat) (w : World) (h : 25 < n) (h4 : n ≤ 40) : Calls Try.prog 32 #[.int .i64 n] w fun e w' => e = .returned (.tuple #[.slice none 0 0, .int .i64 2]) ∧ Below w.heap.size w w' := by
  have HM := Lib.hid (isModulus_any n w)
  rw [show isModulusB (n : Int) = true from decide_eq_true (by omega)] at HM
  go_enter Try.func32, Try.ntmps32
  go_wp2_with fail
  refine HM.out.mono ?_
  rintro e w' ⟨rfl, rfl⟩
  go_wp2
  go_ret2
  exact ⟨rfl, Below.refl _ _⟩
set_option maxHeartbeats 1000000 in
theorem Wide_any (n : Nat) (w : World) (h1 : 2 ≤ n) (h2 : n ≤ 25) : Calls Try.prog 32 #[.int .i64 n] w fun e w' => ∃ v, e = .returned (.tuple #[v, .int .i64 0]) ∧ Nats w' v (wideN n) ∧ Below w.heap.size w w' := by
  have HM := Lib.hid (isModulus_any n w)
  rw [show isModulusB (n : Int) = true from decide_eq_true (by omega)] at HM
  have hb := fun w => between_any 0 n w (by omega) (by omega)
  rw [Nat.sub_zero] at hb
  have HBt := Lib.hid hb
  have HLg := Lib.hid (fun v w (h : Nats w v (List.range' 0 n)) => longest_any (U := fun z => z < 40) (freeRule n h1 (by omega)) (freeB_mono n) (fun z hz => by omega) v (List.range' 0 n) (by rw [List.length_range']; omega)
    (fun l y hln hl hy => ⟨hy, hl, by rw [List.length_range'] at hln; omega⟩) (fun z hz => by rw [List.mem_range'_1] at hz; omega) w h)
  have HV : Hid (longL (ruleOf (apartB n)) (List.range' 0 n) = wideN n) := Lib.hid rfl
  rw [HV.out] at HLg
  have HBd := Lib.hid (wideN_bd n)
  have HLe : Hid ((wideN n).length ≤ n) := Lib.hid (up_len (wideN_up n) (wideN_bd n))
  clear hb HV
  generalize wideN n = bs at *
  go_enter Try.func32, Try.ntmps32
  go_wp2_with fail
  refine HM.out.mono ?_
  rintro e w' ⟨rfl, rfl⟩
  go_wp2_with fail
  refine (HBt.out _).mono ?_
  rintro e w1 ⟨v1, rfl, hv1, hb1⟩
  have HV1 := Lib.hid hv1
  have HB1 := Lib.hid hb1
  clear hv1 hb1
  go_wp2_with fail
  refine (HLg.out v1 w1 HV1.out).mono ?_
  rintro e w2 ⟨v2, rfl, ho2, hb2⟩
  have HB2 := Lib.hid (HB1.out.trans (hb2.mono HB1.out.size))
  have HN2 : Hid (Nats w2 v2 bs) := Lib.hid (Nats.of_owns ho2 (by have := HLe.out; omega) fun x hx => by have := HBd.out x hx; omega)
  clear ho2 hb2
  go_wp2
  go_ret2
  exact ⟨v2, rfl, HN2.out, HB2.out⟩

/-- Moved numbers are sorted where they lie. -/
theorem sortL_any (base : Nat) (v : Value) (l : List Nat) (w : World) (hne : l ≠ []) (hl : l.length ≤ 1000) (hb : ∀ x ∈ l, x < 65536) (ho : w.ownsRow base 3 1 v l.length (ints (nats l))) (hB : base ≤ w.heap.size) :
    Calls Try.prog 53 #[v] w fun e w' => e = .returned (.tuple #[]) ∧ Nats w' v (sortN l) ∧ Below base w w' := by
  have hn : (nats l).length = l.length := nats_length l
  refine (sort_own base v (nats l) w (fun e => hne (by cases l with | nil => rfl | cons a t => simp [nats] at e)) (by omega) (by rw [hn]; exact ho) hB).mono ?_
  rintro e w' ⟨rfl, ho', hb'⟩
  refine ⟨rfl, ?_, hb'⟩
  rw [sort_nats, hn, ← sortN_len l] at ho'
  exact Nats.of_owns ho' (by have := sortN_len l; unfold sortN at *; omega) fun x hx => hb x (sortN_mem.1 hx)
end Go.Proofs.Ytlalfjkenkmojaa
