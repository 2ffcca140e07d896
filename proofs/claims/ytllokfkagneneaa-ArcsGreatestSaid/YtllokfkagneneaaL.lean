/- planes: the reference's Prime, Size, Point, on; the law's points -/
import Derived.Test.YtllokfkagneneaaI
namespace Go.Proofs.Ytllokfkagneneaa
open Go.RowKit

set_option maxHeartbeats 1000000 in
theorem prime_any (p : Int) (w : World) : Calls Try.prog 21 #[.int .i64 p] w fun e w' => e = .returned (.bool (isP p)) ∧ w = w' := by
  by_cases h2 : p = 2
  · subst h2
    go_enter Try.func21, Try.ntmps21
    go_wp2
    go_ret
    exact ⟨rfl, rfl⟩
  by_cases h3 : p = 3
  · subst h3
    go_enter Try.func21, Try.ntmps21
    go_wp2
    go_ret
    exact ⟨rfl, rfl⟩
  by_cases h5 : p = 5
  · subst h5
    go_enter Try.func21, Try.ntmps21
    go_wp2
    go_ret
    exact ⟨rfl, rfl⟩
  by_cases h7 : p = 7
  · subst h7
    go_enter Try.func21, Try.ntmps21
    go_wp2
    go_ret
    exact ⟨rfl, rfl⟩
  have HI : Hid (isP p = false) := by show (p == 2 || p == 3 || p == 5 || p == 7) = false; simp; omega
  have e2 : (p == 2) = false := by simpa using h2
  have e3 : (p == 3) = false := by simpa using h3
  have e5 : (p == 5) = false := by simpa using h5
  have e7 : (p == 7) = false := by simpa using h7
  clear h2 h3 h5 h7
  go_enter Try.func21, Try.ntmps21
  go_wp2
  go_ret
  exact ⟨ret_bool HI.out.symm, rfl⟩

set_option maxHeartbeats 1000000 in
theorem size_any (p : Nat) (w : World) (hp : isPn p) : Calls Try.prog 74 #[.int .i64 p] w fun e w' => e = .returned (.int .i64 (np p)) ∧ w = w' := by
  have hnp : np p = p * p + p + 1 := rfl
  rcases hp with rfl | rfl | rfl | rfl
  all_goals
    go_enter Try.func74, Try.ntmps74
    go_wp2
    go_ret
    exact ⟨rfl, rfl⟩

def pointB (p : Nat) (x : Int) : Bool := decide (0 ≤ x) && decide (x < (np p : Nat))

set_option maxHeartbeats 1000000 in
theorem point_any (p : Nat) (x : Int) (w : World) (hp : isPn p) : Calls Try.prog 58 #[.int .i64 p, .int .i64 x] w fun e w' => e = .returned (.bool (pointB p x)) ∧ w = w' := by
  have HS := Lib.hid (size_any p w hp)
  obtain ⟨n, hn⟩ : ∃ n, n = np p := ⟨_, rfl⟩
  rw [← hn] at HS
  have HB : Hid (pointB p x = (decide (0 ≤ x) && decide (x < (n : Nat)))) := by rw [hn]; rfl
  have hn57 : n ≤ 57 := by rw [hn]; exact np_le p hp.le.2
  clear hn hp
  by_cases h : 0 ≤ x
  · go_enter Try.func58, Try.ntmps58
    go_wp2_with fail
    refine HS.out.mono ?_
    rintro e w' ⟨rfl, rfl⟩
    go_wp2
    go_ret
    exact ⟨ret_bool (by rw [HB.out, decide_eq_true h]; rfl), rfl⟩
  · have hd : decide (0 ≤ x) = false := by simpa using h
    have hd' : decide (x ≥ 0) = false := by simpa using h
    go_enter Try.func58, Try.ntmps58
    go_wp2
    go_ret
    exact ⟨ret_bool (by rw [HB.out, hd]; rfl), rfl⟩

theorem inB_false' {p : Nat} {xs : List Int} {k : Nat} (hk : k < xs.length) (h : pointB p (xs.getD k 0) = false) : inB p xs = false := by
  unfold inB
  rw [List.all_eq_false]
  exact ⟨_, getD_mem hk, by rw [show (decide (0 ≤ xs.getD k 0) && decide (xs.getD k 0 < (np p : Nat))) = false from h]; simp⟩
theorem inB_true' {p : Nat} {xs : List Int} (h : ∀ k : Nat, k < xs.length → pointB p (xs.getD k 0) = true) : inB p xs = true := by
  unfold inB
  rw [List.all_eq_true]
  intro x hx
  obtain ⟨k, hk, rfl⟩ := mem_getD hx
  exact h k hk

set_option maxHeartbeats 2000000 in
theorem lpoints_any (p : Int) (v : Value) (xs : List Int) (w : World) (h : Ints w v xs) :
    Calls Try.prog 25 #[.int .i64 p, v] w fun e w' => e = .returned (.bool (okB p xs)) ∧ w = w' := by
  have HP := Lib.hid (prime_any p w)
  cases hp : isP p with
  | false =>
    rw [hp] at HP
    have HO : Hid (okB p xs = false) := by unfold okB; rw [hp]; rfl
    clear hp
    go_enter Try.func25, Try.ntmps25
    go_wp2_with fail
    refine HP.out.mono ?_
    rintro e w' ⟨rfl, rfl⟩
    go_wp2
    go_ret
    exact ⟨ret_bool HO.out.symm, rfl⟩
  | true =>
    rw [hp] at HP
    have HO : Hid (okB p xs = inB p.toNat xs) := by unfold okB; rw [hp]; rfl
    obtain ⟨q, rfl⟩ : ∃ q : Nat, p = q := ⟨p.toNat, by have := isP_cases hp; omega⟩
    have hq : isPn q := by have := isP_cases hp; unfold isPn; omega
    have HQ := Lib.hid hq
    obtain ⟨ao, cap, rfl, h1, h2, hx⟩ := h.open
    have HX := Lib.hid hx
    clear hp h hx hq
    go_enter Try.func25, Try.ntmps25
    go_wp2_with fail
    refine HP.out.mono ?_
    rintro e w' ⟨rfl, rfl⟩
    go_wp2_with fail
    go_loop [12] (fun i => ∃ k : Nat, k ≤ xs.length ∧ i = .int .i64 k ∧ ∀ j : Nat, j < k → pointB q (xs.getD j 0) = true) (fun i => xs.length - (intOf i).toNat)
    case atStart => exact ⟨0, Nat.zero_le _, rfl, fun j hj => absurd hj (by omega)⟩
    case round =>
      obtain ⟨k, hk, rfl, hall⟩ := hrel
      have HA := Lib.hid hall
      clear hall
      by_cases hlt : k < xs.length
      · obtain ⟨b, o, rfl, hck⟩ := HX.out k hlt
        have HC := Lib.hid (point_any q (xs.getD k 0) w HQ.out)
        cases hb : pointB q (xs.getD k 0) with
        | true =>
          have H := Lib.hid (fun (j : Nat) (hj : j < k + 1) => if e : j = k then e ▸ hb else HA.out j (by omega))
          rw [hb] at HC
          clear hb
          generalize xs.getD k 0 = z at *
          go_wp2_with fail
          refine HC.out.mono ?_
          rintro e w' ⟨rfl, rfl⟩
          go_wp2
          go_round
          case rel => exact ⟨k + 1, by omega, by go_num, H.out⟩
          case measure => simp [intOf]; omega
        | false =>
          have H := Lib.hid (inB_false' hlt hb)
          rw [hb] at HC
          clear hb
          generalize xs.getD k 0 = z at *
          go_wp2_with fail
          refine HC.out.mono ?_
          rintro e w' ⟨rfl, rfl⟩
          go_wp2
          go_ret
          exact ⟨ret_bool (by rw [HO.out]; exact H.out.symm), rfl⟩
      · obtain rfl : k = xs.length := by omega
        have H := Lib.hid (inB_true' HA.out)
        go_wp2
        go_ret
        exact ⟨ret_bool (by rw [HO.out]; exact H.out.symm), rfl⟩

set_option maxHeartbeats 400000 in
theorem ron_any (p : Nat) (a b c x y z : Int) (w : World) (hp : 2 ≤ p) (hp' : p ≤ 7) (ha : 0 ≤ a ∧ a ≤ 200) (hb : 0 ≤ b ∧ b ≤ 200) (hc : 0 ≤ c ∧ c ≤ 200) (hx : 0 ≤ x ∧ x ≤ 200) (hy : 0 ≤ y ∧ y ≤ 200) (hz : 0 ≤ z ∧ z ≤ 200) :
    Calls Try.prog 70 #[.int .i64 p, tri a b c, tri x y z] w fun e w' => e = .returned (.bool ((a*x+b*y+c*z) % (p:Int) == 0)) ∧ Below w.heap.size w w' := by
  have h1 := Int.mul_nonneg ha.1 hx.1
  have h2 := Int.mul_nonneg hb.1 hy.1
  have h3 := Int.mul_nonneg hc.1 hz.1
  obtain ⟨_, h1'⟩ := prodb (a := a) (by omega) hx
  obtain ⟨_, h2'⟩ := prodb (a := b) (by omega) hy
  obtain ⟨_, h3'⟩ := prodb (a := c) (by omega) hz
  have hz0 : ((p:Int) == 0) = false := by simp; omega
  have hp0 : ¬ p = 0 := by omega
  clear ha hb hc hx hy hz
  go_enter Try.func70, Try.ntmps70
  go_wp2
  go_ret
  exact ⟨rfl, ((Below.refl _ _).alloc (Nat.le_refl _) _).alloc (by simp) _⟩
end Go.Proofs.Ytllokfkagneneaa
