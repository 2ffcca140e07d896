/- Ruler, Short; the reference's short, Short -/
import Derived.Test.YtlalfjkenkmojaaSg
import Derived.Test.YtlalfjkenkmojaaFh
import Derived.ArgAppend
namespace Go.Proofs.Ytlalfjkenkmojaa
open Go.RowKit

theorem markRule : Rule 84 #[] (ruleOf rulB) (fun l x => rulB l = true ∧ (∀ y ∈ l, y ≤ 60) ∧ x ≤ 60 ∧ l.length ≤ 100) :=
  ⟨enters_of Try.func84 (by kernel_rfl) rfl, fun v l x w h hD => mayMark_any x v l w hD.1 hD.2.1 hD.2.2.1 hD.2.2.2 h⟩

/-- What Ruler takes. -/
def okI (x : Int) : Bool := decide (0 ≤ x) && decide (x ≤ 60)
def rulV (xs : List Int) : Bool := decide (1 ≤ xs.length ∧ xs.length ≤ 10) && xs.all okI
theorem okI_iff (x : Int) : okI x = true ↔ 0 ≤ x ∧ x ≤ 60 := by unfold okI; simp
theorem rulV_iff (xs : List Int) : rulV xs = true ↔ (1 ≤ xs.length ∧ xs.length ≤ 10) ∧ ∀ k, k < xs.length → 0 ≤ xs.getD k 0 ∧ xs.getD k 0 ≤ 60 := by
  unfold rulV
  rw [Bool.and_eq_true, decide_eq_true_eq, List.all_eq_true]
  constructor
  · rintro ⟨h1, h2⟩
    exact ⟨h1, fun k hk => (okI_iff _).1 (h2 _ (getD_mem hk))⟩
  · rintro ⟨h1, h2⟩
    refine ⟨h1, fun x hx => ?_⟩
    obtain ⟨k, hk, rfl⟩ := mem_getD hx
    exact (okI_iff _).2 (h2 k hk)
theorem rulV_nats {xs : List Int} (h : rulV xs = true) : ∃ l, xs = nats l ∧ 1 ≤ l.length ∧ l.length ≤ 10 ∧ ∀ y ∈ l, y ≤ 60 := by
  obtain ⟨h1, h2⟩ := (rulV_iff xs).1 h
  refine ⟨xs.map Int.toNat, ?_, by simpa using h1.1, by simpa using h1.2, fun y hy => ?_⟩
  · refine List.ext_getElem (by simp [nats]) fun i h3 h4 => ?_
    have := h2 i h3
    simp only [nats, List.getElem_map]
    simp [h3] at this
    omega
  · obtain ⟨x, hx, rfl⟩ := List.mem_map.1 hy
    obtain ⟨k, hk, rfl⟩ := mem_getD hx
    have := h2 k hk
    omega
theorem rulV_take {xs : List Int} : rulV (xs.take 90) = rulV xs := by
  by_cases hl : xs.length ≤ 90
  · rw [List.take_of_length_le hl]
  · unfold rulV
    rw [decide_eq_false (by rw [List.length_take]; omega), decide_eq_false (by omega)]
    rfl

set_option maxHeartbeats 1000000 in
theorem Ruler_bad (v : Value) (xs : List Int) (w : World) (h : Ints w v xs) (hb : rulV xs = false) : Calls Try.prog 48 #[v] w fun e w' => e = .returned (.tuple #[.bool false, .int .i64 2]) ∧ w = w' := by
  obtain ⟨ao, cap, rfl, h1, h2, hx⟩ := h.open
  have HX := Lib.hid hx
  have hnot : ¬ ((1 ≤ xs.length ∧ xs.length ≤ 10) ∧ ∀ k, k < xs.length → 0 ≤ xs.getD k 0 ∧ xs.getD k 0 ≤ 60) := fun hh => by rw [(rulV_iff xs).2 hh] at hb; cases hb
  clear h hx hb
  by_cases c1 : xs.length < 1
  · clear hnot
    go_enter Try.func48, Try.ntmps48
    go_wp2
    go_ret2
    exact ⟨rfl, rfl⟩
  by_cases c2 : 10 < xs.length
  · clear hnot
    go_enter Try.func48, Try.ntmps48
    go_wp2
    go_ret2
    exact ⟨rfl, rfl⟩
  have HNot : Hid (¬ ∀ k, k < xs.length → 0 ≤ xs.getD k 0 ∧ xs.getD k 0 ≤ 60) := Lib.hid fun hh => hnot ⟨by omega, hh⟩
  clear hnot
  go_enter Try.func48, Try.ntmps48
  go_wp2_with fail
  go_loop [16] (fun i => ∃ k : Nat, k ≤ xs.length ∧ i = .int .i64 k ∧ ∀ j : Nat, j < k → 0 ≤ xs.getD j 0 ∧ xs.getD j 0 ≤ 60) (fun i => xs.length - (intOf i).toNat)
  case atStart => exact ⟨0, Nat.zero_le _, rfl, fun j hj => absurd hj (by omega)⟩
  case round =>
    obtain ⟨k, hk, rfl, hall⟩ := hrel
    have HA := Lib.hid hall
    clear hall
    by_cases hlt : k < xs.length
    · obtain ⟨b, o, rfl, hck⟩ := HX.out k hlt
      have HNx := Lib.hid (fun (hh : 0 ≤ xs.getD k 0 ∧ xs.getD k 0 ≤ 60) (j : Nat) (hj : j < k + 1) => if e : j = k then (by subst e; exact hh : 0 ≤ xs.getD j 0 ∧ xs.getD j 0 ≤ 60) else HA.out j (by omega))
      generalize xs.getD k 0 = x at *
      by_cases e1 : x < 0
      · go_wp2
        go_ret2
        exact ⟨rfl, rfl⟩
      by_cases e2 : 60 < x
      · go_wp2
        go_ret2
        exact ⟨rfl, rfl⟩
      have HI := Lib.hid (HNx.out (by omega))
      go_wp2
      go_round
      case rel => exact ⟨k + 1, by omega, by go_num, HI.out⟩
      case measure => simp [intOf]; omega
    · exact absurd (fun k hk => HA.out k (by omega)) HNot.out

set_option maxHeartbeats 1000000 in
theorem Ruler_any (v : Value) (l : List Nat) (w : World) (h1l : 1 ≤ l.length) (h10 : l.length ≤ 10) (hb : ∀ y ∈ l, y ≤ 60) (h : Nats w v l) :
    Calls Try.prog 48 #[v] w fun e w' => e = .returned (.tuple #[.bool (rulB l), .int .i64 0]) ∧ Below w.heap.size w w' := by
  have HK := Lib.hid (keepsTo_any markRule v l w h fun k hk hkp => ⟨by rw [← keeps_rul]; exact hkp, fun y hy => hb y (List.mem_of_mem_take hy), hb _ (natD_mem hk), by rw [List.length_take]; omega⟩)
  rw [keeps_rul l] at HK
  obtain ⟨ao, cap, rfl, h1, h2, hx⟩ := h.open
  have HX := Lib.hid hx
  have HBd := Lib.hid hb
  clear h hx hb
  generalize rulB l = q at *
  go_enter Try.func48, Try.ntmps48
  go_wp2_with fail
  go_loop [16] (fun i => ∃ k : Nat, k ≤ l.length ∧ i = .int .i64 k) (fun i => l.length - (intOf i).toNat)
  case atStart => exact ⟨0, Nat.zero_le _, rfl⟩
  case round =>
    obtain ⟨k, hk, rfl⟩ := hrel
    by_cases hlt : k < l.length
    · obtain ⟨b, o, rfl, hck⟩ := HX.out k hlt
      have hz := HBd.out _ (natD_mem hlt)
      generalize l.getD k 0 = x at *
      have e1 : ¬ (x:Int) < 0 := by omega
      go_wp2
      go_round
      case rel => exact ⟨k + 1, by omega, by go_num⟩
      case measure => simp [intOf]; omega
    · obtain rfl : k = l.length := by omega
      go_wp2_with fail
      refine HK.out.mono ?_
      rintro e w1 ⟨rfl, hb1⟩
      have HB1 := Lib.hid hb1
      clear hb1
      go_wp2
      go_ret2
      exact ⟨rfl, HB1.out⟩

theorem least_of (p : Nat → Prop) (n : Nat) (h : p n) : ∃ m, m ≤ n ∧ p m ∧ ∀ j, j < m → ¬ p j := by
  induction n using Nat.strongRecOn with
  | _ n ih =>
    by_cases hh : ∃ j, j < n ∧ p j
    · obtain ⟨j, hj, hp⟩ := hh
      obtain ⟨m, hm, h1, h2⟩ := ih j hj hp
      exact ⟨m, by omega, h1, h2⟩
    · exact ⟨n, Nat.le_refl _, h, fun j hj hp => hh ⟨j, hj, hp⟩⟩
/-- The shortest rulers with k numbers have a length of at most 25. -/
theorem short_ex (k : Nat) (h1 : 1 ≤ k) (h7 : k ≤ 7) : ∃ L r, L ≤ 25 ∧ (∀ L', L' < L → firstN (ruleOf rulB) (L' + 1) k [] = none) ∧ firstN (ruleOf rulB) (L + 1) k [] = some r := by
  have hw : ∃ s : List Nat, s.length = k ∧ (∀ x ∈ s, x < 26) ∧ rulB s = true := by
    rcases (show k = 1 ∨ k = 2 ∨ k = 3 ∨ k = 4 ∨ k = 5 ∨ k = 6 ∨ k = 7 by omega) with rfl | rfl | rfl | rfl | rfl | rfl | rfl
    · exact ⟨[0], rfl, by decide, by decide⟩
    · exact ⟨[0, 1], rfl, by decide, by decide⟩
    · exact ⟨[0, 1, 3], rfl, by decide, by decide⟩
    · exact ⟨[0, 1, 4, 6], rfl, by decide, by decide⟩
    · exact ⟨[0, 1, 4, 9, 11], rfl, by decide, by decide⟩
    · exact ⟨[0, 1, 4, 10, 12, 17], rfl, by decide, by decide +kernel⟩
    · exact ⟨[0, 1, 4, 10, 18, 23, 25], rfl, by decide, by decide +kernel⟩
  obtain ⟨s, hs, hb, hr⟩ := hw
  obtain ⟨L, hL, hp, hn⟩ := least_of (fun L => firstN (ruleOf rulB) (L + 1) k [] ≠ none) 25 (fun h => firstN_none k h s hs hb ((goes_nil s).2 (by rw [keeps_rul]; exact hr)))
  obtain ⟨r, hr'⟩ := Option.ne_none_iff_exists'.1 hp
  exact ⟨L, r, hL, fun L' hL' => Classical.byContradiction fun h => hn L' hL' h, hr'⟩

set_option maxHeartbeats 1000000 in
theorem Short_bad (k : Int) (w : World) (h : k < 1 ∨ 7 < k) : Calls Try.prog 49 #[.int .i64 k] w fun e w' => e = .returned (.tuple #[.slice none 0 0, .int .i64 2]) ∧ w = w' := by
  rcases h with h | h
  · go_enter Try.func49, Try.ntmps49
    go_wp2
    go_ret2
    exact ⟨rfl, rfl⟩
  · have h' : ¬ k < 1 := by omega
    go_enter Try.func49, Try.ntmps49
    go_wp2
    go_ret2
    exact ⟨rfl, rfl⟩

set_option maxHeartbeats 2000000 in
theorem Short_any (k L : Nat) (r : List Nat) (w : World) (h1 : 1 ≤ k) (h7 : k ≤ 7) (hL : L ≤ 25) (hno : ∀ L', L' < L → firstN (ruleOf rulB) (L' + 1) k [] = none) (hyes : firstN (ruleOf rulB) (L + 1) k [] = some r) :
    Calls Try.prog 49 #[.int .i64 k] w fun e w' => ∃ v', e = .returned (.tuple #[v', .int .i64 0]) ∧ Nats w' v' r ∧ Below w.heap.size w w' := by
  have HF := Lib.hid (fun n (hn : n ≤ 26) w => first_any markRule k n (by omega) (by omega) (fun l x hkp hl hb hx => ⟨by rw [← keeps_rul]; exact hkp, fun y hy => by have := hb y hy; omega, by omega, by omega⟩) w)
  have HNo := Lib.hid hno
  have HYes := Lib.hid hyes
  have HRb : Hid (r.length ≤ 100 ∧ ∀ x ∈ r, x < 65536) := Lib.hid (by
    obtain ⟨s, hs, hl, hb, _⟩ := firstN_some k hyes
    rw [hs]
    exact ⟨by simp; omega, fun x hx => by have := hb x (by simpa using hx); omega⟩)
  clear hno hyes
  go_enter Try.func49, Try.ntmps49
  go_wp2_with fail
  go_loopw [4, 5, 6] (fun s i fd wr => ∃ t : Nat, t ≤ L + 1 ∧ i = .int .i64 t ∧ Below w.heap.size w wr ∧ ((t ≤ L ∧ fd = .bool false) ∨ (t = L + 1 ∧ fd = .bool true ∧ Nats wr s r))) (fun _ i _ _ => L + 2 - (intOf i).toNat)
  case atStart => exact ⟨0, by omega, rfl, Below.refl _ _, .inl ⟨by omega, rfl⟩⟩
  case round =>
    obtain ⟨t, ht, rfl, hb, hor⟩ := hrel
    have HB := Lib.hid hb
    clear hb
    rcases hor with ⟨htL, rfl⟩ | ⟨_, rfl, hN⟩
    · have hf := HF.out (t + 1) (by omega) wr
      rw [show ((t + 1 : Nat) : Int) = (t:Int) + 1 by omega] at hf
      have HF1 := Lib.hid hf
      clear hf
      by_cases e : t < L
      · have hn := HNo.out t e
        rw [hn] at HF1
        clear hn
        go_wp2_with fail
        refine HF1.out.mono ?_
        rintro e w1 ⟨v1, rfl, _, hb1⟩
        have HB1 := Lib.hid (HB.out.trans (hb1.mono HB.out.size))
        clear hb1
        have e1 : outB (none : Option (List Nat)) = false := rfl
        go_wp2
        go_roundw
        case rel => exact ⟨t + 1, by omega, by go_num, HB1.out, .inl ⟨by omega, rfl⟩⟩
        case measure => simp [intOf]; omega
      · obtain rfl : t = L := by omega
        have hn := HYes.out
        rw [hn] at HF1
        clear hn
        go_wp2_with fail
        refine HF1.out.mono ?_
        rintro e w1 ⟨v1, rfl, ho1, hb1⟩
        have HB1 := Lib.hid (HB.out.trans (hb1.mono HB.out.size))
        have HV1 : Hid (Nats w1 v1 r) := Lib.hid (Nats.of_owns ho1 (by have := HRb.out.1; show r.length ≤ _; omega) HRb.out.2)
        clear hb1 ho1
        have e1 : outB (some r) = true := rfl
        go_wp2
        go_roundw
        case rel => exact ⟨t + 1, by omega, by go_num, HB1.out, .inr ⟨rfl, rfl, HV1.out⟩⟩
        case measure => simp [intOf]
    · have HV := Lib.hid hN
      clear hN
      go_wp2
      go_ret2
      exact ⟨_, rfl, HV.out, HB.out⟩
end Go.Proofs.Ytlalfjkenkmojaa
