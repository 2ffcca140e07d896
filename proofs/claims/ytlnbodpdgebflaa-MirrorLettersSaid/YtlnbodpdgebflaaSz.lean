/- letters: cmp.Compare, Compare, order; the search; turning a rule over; the rows of met words -/
import Derived.Test.YtlnbodpdgebflaaQb
import Derived.Test.YtlnbodpdgebflaaOh
import Derived.Test.YtlnbodpdgebflaaNu
import Derived.Test.YtlnbodpdgebflaaQs
import Derived.Test.YtlnbodpdgebflaaLm
namespace Go.Proofs.Ytlnbodpdgebflaa
open Go.RowKit

def cmpL : List Nat → List Nat → Int
  | [], [] => 0
  | [], _ :: _ => -1
  | _ :: _, [] => 1
  | x :: l, y :: m => if x < y then -1 else if y < x then 1 else cmpL l m
theorem cmpL_pos : ∀ (l m : List Nat) (k : Nat), k < l.length → m.length ≤ k → l.take k = m → cmpL l m = 1
  | [], _, k, h, _, _ => by simp at h
  | _ :: _, [], _, _, _, _ => rfl
  | x :: l, y :: m, k, h, hm, e => by
    cases k with
    | zero => simp at hm
    | succ k =>
      simp only [List.take_succ_cons, List.cons.injEq] at e
      obtain ⟨rfl, e⟩ := e
      simp only [cmpL, Nat.lt_irrefl, if_false]
      exact cmpL_pos l m k (by simpa using h) (by simpa using hm) e
theorem cmpL_at : ∀ (l m : List Nat) (k : Nat), k < l.length → k < m.length → l.take k = m.take k → l.getD k 0 ≠ m.getD k 0 → cmpL l m = if l.getD k 0 < m.getD k 0 then -1 else 1
  | [], _, k, h, _, _, _ => by simp at h
  | _ :: _, [], k, _, h, _, _ => by simp at h
  | x :: l, y :: m, 0, _, _, _, hne => by
    simp only [List.getD_cons_zero] at hne ⊢
    simp only [cmpL]
    by_cases h : x < y
    · rw [if_pos h, if_pos h]
    · rw [if_neg h, if_neg h, if_pos (by omega)]
  | x :: l, y :: m, k + 1, h1, h2, e, hne => by
    simp only [List.take_succ_cons, List.cons.injEq] at e
    obtain ⟨rfl, e⟩ := e
    simp only [List.getD_cons_succ] at hne ⊢
    simp only [cmpL, Nat.lt_irrefl, if_false]
    exact cmpL_at l m k (by simpa using h1) (by simpa using h2) e hne
theorem cmpL_end : ∀ (l m : List Nat), l.length ≤ m.length → l = m.take l.length → cmpL l m = if l.length < m.length then -1 else 0
  | [], [], _, _ => rfl
  | [], _ :: _, _, _ => by simp [cmpL]
  | _ :: _, [], h, _ => by simp at h
  | x :: l, y :: m, h, e => by
    simp only [List.length_cons, List.take_succ_cons, List.cons.injEq] at e
    obtain ⟨rfl, e⟩ := e
    simp only [cmpL, Nat.lt_irrefl, if_false]
    rw [cmpL_end l m (by simpa using h) e]
    simp
theorem cmpL_refl : ∀ l : List Nat, cmpL l l = 0
  | [] => rfl
  | x :: l => by simp [cmpL, cmpL_refl l]

theorem isNaN_any (x : Int) (w : World) : Calls Try.prog 106 #[.int .i64 x] w fun e w' => e = .returned (.bool false) ∧ w = w' := by
  have hne : (x != x) = false := by simp
  go_enter Try.func106, Try.ntmps106
  go_wp2
  go_ret
  exact ⟨rfl, rfl⟩
theorem cmp_any (x y : Nat) (w : World) : Calls Try.prog 90 #[.int .i64 x, .int .i64 y] w fun e w' => e = .returned (.int .i64 (if x < y then -1 else if y < x then 1 else 0)) ∧ w = w' := by
  have HX := Lib.hid (isNaN_any (x : Nat) w)
  have HY := Lib.hid (isNaN_any (y : Nat) w)
  obtain ⟨r, hr⟩ : ∃ r : Int, r = if x < y then -1 else if y < x then 1 else 0 := ⟨_, rfl⟩
  rw [← hr]
  by_cases h : x < y
  · rw [if_pos h] at hr
    subst hr
    go_enter Try.func90, Try.ntmps90
    go_wp2_with fail
    refine HX.out.mono ?_
    rintro e w2 ⟨rfl, rfl⟩
    go_wp2_with fail
    refine HY.out.mono ?_
    rintro e w2 ⟨rfl, rfl⟩
    go_wp2_with fail
    go_ret
    exact ⟨rfl, rfl⟩
  · rw [if_neg h] at hr
    by_cases h2 : y < x
    · rw [if_pos h2] at hr
      subst hr
      go_enter Try.func90, Try.ntmps90
      go_wp2_with fail
      refine HX.out.mono ?_
      rintro e w2 ⟨rfl, rfl⟩
      go_wp2_with fail
      refine HY.out.mono ?_
      rintro e w2 ⟨rfl, rfl⟩
      go_wp2_with fail
      go_ret
      exact ⟨rfl, rfl⟩
    · rw [if_neg h2] at hr
      subst hr
      go_enter Try.func90, Try.ntmps90
      go_wp2_with fail
      refine HX.out.mono ?_
      rintro e w2 ⟨rfl, rfl⟩
      go_wp2_with fail
      refine HY.out.mono ?_
      rintro e w2 ⟨rfl, rfl⟩
      go_wp2_with fail
      go_ret
      exact ⟨rfl, rfl⟩

set_option maxHeartbeats 1000000 in
theorem compare_any (v v' : Value) (xs ys : List Nat) (w : World) (h : Nats w v xs) (h' : Nats w v' ys) (h6 : ∀ x ∈ xs, x ≤ 65536) (h6' : ∀ x ∈ ys, x ≤ 65536) :
    Calls Try.prog 59 #[v, v'] w fun e w' => e = .returned (.int .i64 (cmpL xs ys)) ∧ w = w' := by
  obtain ⟨ao, cap, rfl, h1, h2, hc⟩ := Nats.open h
  obtain ⟨ao', cap', rfl, h1', h2', hc'⟩ := Nats.open h'
  have HC := Lib.hid hc
  have HC' := Lib.hid hc'
  have H6 := Lib.hid h6
  have H6' := Lib.hid h6'
  have HM := Lib.hid (fun (x y : Nat) => cmp_any x y w)
  obtain ⟨r, hr⟩ : ∃ r : Int, r = cmpL xs ys := ⟨_, rfl⟩
  have HR := Lib.hid hr
  rw [← hr]
  clear h h' hc hc' h6 h6' hr
  go_enter Try.func59, Try.ntmps59
  go_wp2_with fail
  go_loop [11] (fun i => ∃ k : Nat, k ≤ xs.length ∧ k ≤ ys.length ∧ i = .int .i64 k ∧ Hid (xs.take k = ys.take k)) (fun i => xs.length - (intOf i).toNat)
  case atStart => exact ⟨0, Nat.zero_le _, Nat.zero_le _, rfl, Lib.hid rfl⟩
  case round =>
    obtain ⟨k, hk, hk', rfl, hT⟩ := hrel
    by_cases hlt : k < xs.length
    · obtain ⟨b, o, rfl, hck⟩ := HC.out k hlt
      have hx := H6.out _ (natD_mem hlt)
      by_cases hl2 : k < ys.length
      · obtain ⟨b', o', rfl, hck'⟩ := HC'.out k hl2
        have hy := H6'.out _ (natD_mem hl2)
        have HF := Lib.hid (cmpL_at xs ys k hlt hl2 hT.out)
        have HS : Hid (xs.getD k 0 = ys.getD k 0 → xs.take (k + 1) = ys.take (k + 1)) := Lib.hid fun e => by rw [natT_snoc' _ _ hlt, natT_snoc' _ _ hl2, hT.out, e]
        have HMk := Lib.hid (HM.out (xs.getD k 0) (ys.getD k 0))
        generalize xs.getD k 0 = x at *
        generalize ys.getD k 0 = y at *
        by_cases e1 : x < y
        · have hrv : r = -1 := by rw [HR.out, HF.out (by omega), if_pos e1]
          subst hrv
          rw [if_pos e1] at HMk
          go_wp2_with fail
          refine HMk.out.mono ?_
          rintro e w2 ⟨rfl, rfl⟩
          go_wp2_with fail
          go_ret
          exact ⟨rfl, rfl⟩
        · rw [if_neg e1] at HMk
          by_cases e2 : y < x
          · have hrv : r = 1 := by rw [HR.out, HF.out (by omega), if_neg e1]
            subst hrv
            rw [if_pos e2] at HMk
            go_wp2_with fail
            refine HMk.out.mono ?_
            rintro e w2 ⟨rfl, rfl⟩
            go_wp2_with fail
            go_ret
            exact ⟨rfl, rfl⟩
          · rw [if_neg e2] at HMk
            go_wp2_with fail
            refine HMk.out.mono ?_
            rintro e w2 ⟨rfl, rfl⟩
            go_wp2_with fail
            go_round
            case rel => exact ⟨k + 1, by omega, by omega, by go_num, Lib.hid (HS.out (by omega))⟩
            case measure => simp [intOf]; omega
      · have hrv : r = 1 := by rw [HR.out, cmpL_pos xs ys k hlt (by omega) (by rw [hT.out, List.take_of_length_le (by omega)])]
        subst hrv
        generalize xs.getD k 0 = x at *
        go_wp2_with fail
        go_ret
        exact ⟨rfl, rfl⟩
    · obtain rfl : k = xs.length := by omega
      have HE := Lib.hid (cmpL_end xs ys hk' (by rw [← hT.out, List.take_length]))
      by_cases e1 : xs.length < ys.length
      · have hrv : r = -1 := by rw [HR.out, HE.out, if_pos e1]
        subst hrv
        go_wp2_with fail
        go_ret
        exact ⟨rfl, rfl⟩
      · have hrv : r = 0 := by rw [HR.out, HE.out, if_neg e1]
        subst hrv
        go_wp2_with fail
        go_ret
        exact ⟨rfl, rfl⟩
set_option maxHeartbeats 1000000 in
theorem order_lt (g i j : Nat) (hg : g < 17) (hi : i < 4) (hj : j < 4) (hij : i < j) (w : World) :
    Calls Try.prog 56 #[gV (kd g) (nm g), .int .i64 i, .int .i64 j] w fun e w' => e = .returned (.int .i64 (if kd g = 73 then nm g else if i + 1 < j ∨ j + 1 < i then 2 else if kd g = 66 ∧ max i j = nm g - 1 then 4 else 3 : Nat)) ∧ Below w.heap.size w w' := by
  obtain ⟨r, hr⟩ : ∃ r : Nat, r = if kd g = 73 then nm g else if i + 1 < j ∨ j + 1 < i then 2 else if kd g = 66 ∧ max i j = nm g - 1 then 4 else 3 := ⟨_, rfl⟩
  rw [← hr]
  have hmm : max i j = j := by omega
  rw [hmm] at hr
  clear hmm
  obtain ⟨_, _, _, _, hn1, hn2, _⟩ := tg hg
  generalize kd g = k at *
  generalize nm g = n at *
  by_cases q : k = 73
  · rw [if_pos q] at hr
    subst q hr
    go_enter Try.func56, Try.ntmps56
    go_wp2_with fail
    all_goals go_ret
    all_goals exact ⟨rfl, (Below.refl _ _).alloc (Nat.le_refl _) _⟩
  · rw [if_neg q] at hr
    have hk73 : ((k : Int) == 73) = false := beq_eq_false_iff_ne.2 (by omega)
    by_cases q2 : i + 1 < j ∨ j + 1 < i
    · rw [if_pos q2] at hr
      subst hr
      go_enter Try.func56, Try.ntmps56
      go_wp2_with fail
      all_goals go_ret
      all_goals exact ⟨rfl, (Below.refl _ _).alloc (Nat.le_refl _) _⟩
    · rw [if_neg q2] at hr
      by_cases q3 : k = 66
      · by_cases q4 : j = n - 1
        · rw [if_pos ⟨q3, q4⟩] at hr
          have hmn : ((j : Int) == (n : Int) - 1) = true := by simp; omega
          subst q3 hr
          go_enter Try.func56, Try.ntmps56
          go_wp2_with fail
          all_goals go_ret
          all_goals exact ⟨rfl, (Below.refl _ _).alloc (Nat.le_refl _) _⟩
        · rw [if_neg (fun e => q4 e.2)] at hr
          have hmn : ((j : Int) == (n : Int) - 1) = false := by simp; omega
          subst q3 hr
          go_enter Try.func56, Try.ntmps56
          go_wp2_with fail
          all_goals go_ret
          all_goals exact ⟨rfl, (Below.refl _ _).alloc (Nat.le_refl _) _⟩
      · rw [if_neg (fun e => q3 e.1)] at hr
        have hk66 : ((k : Int) == 66) = false := beq_eq_false_iff_ne.2 (by omega)
        subst hr
        go_enter Try.func56, Try.ntmps56
        go_wp2_with fail
        all_goals go_ret
        all_goals exact ⟨rfl, (Below.refl _ _).alloc (Nat.le_refl _) _⟩
set_option maxHeartbeats 1000000 in
theorem order_gt (g i j : Nat) (hg : g < 17) (hi : i < 4) (hj : j < 4) (hij : j < i) (w : World) :
    Calls Try.prog 56 #[gV (kd g) (nm g), .int .i64 i, .int .i64 j] w fun e w' => e = .returned (.int .i64 (if kd g = 73 then nm g else if i + 1 < j ∨ j + 1 < i then 2 else if kd g = 66 ∧ max i j = nm g - 1 then 4 else 3 : Nat)) ∧ Below w.heap.size w w' := by
  obtain ⟨r, hr⟩ : ∃ r : Nat, r = if kd g = 73 then nm g else if i + 1 < j ∨ j + 1 < i then 2 else if kd g = 66 ∧ max i j = nm g - 1 then 4 else 3 := ⟨_, rfl⟩
  rw [← hr]
  have hmm : max i j = i := by omega
  rw [hmm] at hr
  clear hmm
  obtain ⟨_, _, _, _, hn1, hn2, _⟩ := tg hg
  generalize kd g = k at *
  generalize nm g = n at *
  by_cases q : k = 73
  · rw [if_pos q] at hr
    subst q hr
    go_enter Try.func56, Try.ntmps56
    go_wp2_with fail
    all_goals go_ret
    all_goals exact ⟨rfl, (Below.refl _ _).alloc (Nat.le_refl _) _⟩
  · rw [if_neg q] at hr
    have hk73 : ((k : Int) == 73) = false := beq_eq_false_iff_ne.2 (by omega)
    by_cases q2 : i + 1 < j ∨ j + 1 < i
    · rw [if_pos q2] at hr
      subst hr
      go_enter Try.func56, Try.ntmps56
      go_wp2_with fail
      all_goals go_ret
      all_goals exact ⟨rfl, (Below.refl _ _).alloc (Nat.le_refl _) _⟩
    · rw [if_neg q2] at hr
      by_cases q3 : k = 66
      · by_cases q4 : i = n - 1
        · rw [if_pos ⟨q3, q4⟩] at hr
          have hmn : ((i : Int) == (n : Int) - 1) = true := by simp; omega
          subst q3 hr
          go_enter Try.func56, Try.ntmps56
          go_wp2_with fail
          all_goals go_ret
          all_goals exact ⟨rfl, (Below.refl _ _).alloc (Nat.le_refl _) _⟩
        · rw [if_neg (fun e => q4 e.2)] at hr
          have hmn : ((i : Int) == (n : Int) - 1) = false := by simp; omega
          subst q3 hr
          go_enter Try.func56, Try.ntmps56
          go_wp2_with fail
          all_goals go_ret
          all_goals exact ⟨rfl, (Below.refl _ _).alloc (Nat.le_refl _) _⟩
      · rw [if_neg (fun e => q3 e.1)] at hr
        have hk66 : ((k : Int) == 66) = false := beq_eq_false_iff_ne.2 (by omega)
        subst hr
        go_enter Try.func56, Try.ntmps56
        go_wp2_with fail
        all_goals go_ret
        all_goals exact ⟨rfl, (Below.refl _ _).alloc (Nat.le_refl _) _⟩
theorem order_any (g i j : Nat) (hg : g < 17) (hi : i < 4) (hj : j < 4) (hne : i ≠ j) (w : World) :
    Calls Try.prog 56 #[gV (kd g) (nm g), .int .i64 i, .int .i64 j] w fun e w' => e = .returned (.int .i64 (if kd g = 73 then nm g else if i + 1 < j ∨ j + 1 < i then 2 else if kd g = 66 ∧ max i j = nm g - 1 then 4 else 3 : Nat)) ∧ Below w.heap.size w w' := by
  by_cases h : i < j
  · exact order_lt g i j hg hi hj h w
  · exact order_gt g i j hg hi hj (by omega) w
end Go.Proofs.Ytlnbodpdgebflaa

namespace Go.Proofs.Ytlnbodpdgebflaa
open Go.RowKit

set_option maxHeartbeats 1000000 in
theorem search_any (v v' : Value) (L : List (List Nat)) (y : List Nat) (w : World) (h : NatRows w v L) (h' : Nats w v' y) (hL : L.length ≤ 16777216) (h6 : ∀ l ∈ L, ∀ x ∈ l, x ≤ 65536) (h6' : ∀ x ∈ y, x ≤ 65536)
    (hm : ∀ i j, i ≤ j → j < L.length → cmpL (L.getD j []) y < 0 → cmpL (L.getD i []) y < 0) :
    Calls Try.prog 58 #[v, v', .func (.func 59) #[] #[]] w fun e w' => w = w' ∧ ∃ i, i ≤ L.length ∧ (∀ j, j < i → cmpL (L.getD j []) y < 0) ∧ (∀ j, i ≤ j → j < L.length → 0 ≤ cmpL (L.getD j []) y) ∧
      e = .returned (.tuple #[.int .i64 (i : Nat), .bool (decide (i < L.length) && (cmpL (L.getD i []) y == 0))]) := by
  obtain ⟨ao, cap, rfl, h1, h2, hx⟩ := h.open
  have HX := Lib.hid hx
  have H6 := Lib.hid h6
  have H6' := Lib.hid h6'
  have HM := Lib.hid hm
  have HY := Lib.hid h'
  obtain ⟨ao', cap', rfl, _, _, _⟩ := Nats.open h'
  have HC := Lib.hid (fun v xs (h : Nats w v xs) h6 => compare_any v _ xs y w h HY.out h6 H6'.out)
  clear h h' hx h6 h6' hm
  generalize y.length = yn at *
  go_enter Try.func58, Try.ntmps58
  go_wp2_with fail
  go_loop [9, 10] (fun i j => ∃ a b : Nat, a ≤ b ∧ b ≤ L.length ∧ i = .int .i64 a ∧ j = .int .i64 b ∧ Hid (∀ k, k < a → cmpL (L.getD k []) y < 0) ∧ Hid (∀ k, b ≤ k → k < L.length → 0 ≤ cmpL (L.getD k []) y)) (fun i j => (intOf j).toNat - (intOf i).toNat)
  case atStart => exact ⟨0, L.length, Nat.zero_le _, Nat.le_refl _, rfl, rfl, Lib.hid fun k hk => absurd hk (by omega), Lib.hid fun k h1 h2 => absurd h1 (by omega)⟩
  case round =>
    obtain ⟨a, b, hab, hb, rfl, rfl, hA, hB⟩ := hrel
    by_cases hlt : a < b
    · obtain ⟨k, hk⟩ : ∃ k, k = (a + b) / 2 := ⟨_, rfl⟩
      have hkl : k < L.length := by omega
      obtain ⟨l, hl⟩ : ∃ l, L[k]? = some l := ⟨L[k], by simp [hkl]⟩
      have hD : L.getD k [] = l := by rw [List.getD_eq_getElem?_getD, hl]; rfl
      obtain ⟨pb, po, u, rfl, h1c, hu⟩ := HX.out k l hl
      have HXc := Lib.hid (HC.out u l hu (H6.out l (List.mem_of_getElem? hl)))
      obtain ⟨ua, uc, rfl, _, _, _⟩ := Nats.open hu
      clear hu hl
      have HP := Lib.hid (fun h => HM.out · k · hkl h)
      have HQ := Lib.hid (fun i (h : k ≤ i) (hi : i < L.length) (hn : ¬ cmpL (L.getD k []) y < 0) (hc : cmpL (L.getD i []) y < 0) => hn (HM.out k i h hi hc))
      rw [hD] at HP HQ
      clear hD
      generalize l.length = ln at *
      generalize cmpL l y = r at *
      rw [hk] at h1c
      by_cases hr : r < 0
      · have HA : Hid (∀ i, i < k + 1 → cmpL (L.getD i []) y < 0) := Lib.hid fun i hi => HP.out i (by omega) hr
        go_wp2_with fail
        refine HXc.out.mono ?_
        rintro e w2 ⟨rfl, rfl⟩
        go_wp2_with fail
        go_round
        case rel => exact ⟨k + 1, b, by omega, by omega, by rw [hk]; go_num, rfl, HA, hB⟩
        case measure => simp [intOf]; omega
      · have HA : Hid (∀ i, k ≤ i → i < L.length → 0 ≤ cmpL (L.getD i []) y) := Lib.hid fun i h1 h2 => Int.not_lt.1 (HQ.out i h1 h2 hr)
        go_wp2_with fail
        refine HXc.out.mono ?_
        rintro e w2 ⟨rfl, rfl⟩
        go_wp2_with fail
        go_round
        case rel => exact ⟨a, k, by omega, by omega, rfl, by rw [hk]; go_num, hA, HA⟩
        case measure => simp [intOf]; omega
    · obtain rfl : a = b := by omega
      by_cases hl : a < L.length
      · obtain ⟨l, hl2⟩ : ∃ l, L[a]? = some l := ⟨L[a], by simp [hl]⟩
        have hD : L.getD a [] = l := by rw [List.getD_eq_getElem?_getD, hl2]; rfl
        obtain ⟨pb, po, u, rfl, h1c, hu⟩ := HX.out a l hl2
        have HXc := Lib.hid (HC.out u l hu (H6.out l (List.mem_of_getElem? hl2)))
        obtain ⟨ua, uc, rfl, _, _, _⟩ := Nats.open hu
        have HZ : Hid (∀ r : Int, r = cmpL l y → (decide (a < L.length) && (cmpL (L.getD a []) y == 0)) = (r == 0)) := Lib.hid fun r e => by rw [hD, ← e]; simp [hl]
        clear hu hl2 hD
        generalize l.length = ln at *
        obtain ⟨r, hr⟩ : ∃ r, r = cmpL l y := ⟨_, rfl⟩
        rw [← hr] at HXc
        have HZ2 := Lib.hid (HZ.out r hr)
        clear hr HZ
        go_wp2_with fail
        refine HXc.out.mono ?_
        rintro e w2 ⟨rfl, rfl⟩
        go_wp2_with fail
        refine bodyPost_ret (results_tmp2 rfl _ _ _) rfl ⟨rfl, a, hb, hA.out, hB.out, ?_⟩
        rw [HZ2.out]; rfl
      · obtain rfl : a = L.length := by omega
        go_wp2_with fail
        refine bodyPost_ret (results_tmp2 rfl _ _ _) rfl ⟨rfl, L.length, Nat.le_refl _, hA.out, hB.out, ?_⟩
        simp
end Go.Proofs.Ytlnbodpdgebflaa

namespace Go.Proofs.Ytlnbodpdgebflaa
open Go.RowKit

theorem cmpL_bef : ∀ (a b : List Nat), a.length = b.length → (cmpL a b < 0 ↔ bef a b = true) ∧ (cmpL a b = 0 ↔ a = b)
  | [], [], _ => by simp [cmpL, bef]
  | [], _ :: _, h => by simp at h
  | _ :: _, [], h => by simp at h
  | x :: a, y :: b, h => by
    have ih := cmpL_bef a b (by simpa using h)
    by_cases e : x = y
    · subst e
      simp only [cmpL, bef, Nat.lt_irrefl, if_false, if_true, List.cons.injEq, true_and]
      exact ih
    · by_cases l : x < y
      · simp [cmpL, bef, e, l]
      · have : y < x := by omega
        simp [cmpL, bef, e, l, this]
theorem ris_mono {L : List (List Nat)} (h : Ris L) {i j : Nat} (hij : i < j) (hj : j < L.length) : bef (L.getD i []) (L.getD j []) = true := by
  have h1 := List.pairwise_iff_getElem.1 h i j (by omega) hj hij
  simpa [List.getD_eq_getElem?_getD, hj, show i < L.length by omega] using h1
/-- The search in words of one length, in order. -/
theorem ris_find {L : List (List Nat)} {y : List Nat} {n : Nat} (hR : Ris L) (hn : ∀ l ∈ L, l.length = n) (hy : y.length = n) :
    (∀ i j, i ≤ j → j < L.length → cmpL (L.getD j []) y < 0 → cmpL (L.getD i []) y < 0) ∧
    ∀ i, i ≤ L.length → (∀ j, j < i → cmpL (L.getD j []) y < 0) → (∀ j, i ≤ j → j < L.length → 0 ≤ cmpL (L.getD j []) y) →
      ((decide (i < L.length) && (cmpL (L.getD i []) y == 0)) = true ↔ y ∈ L) ∧ (y ∈ L → i < L.length ∧ L.getD i [] = y) := by
  have hm : ∀ j, j < L.length → (L.getD j []).length = y.length := fun j hj => by
    rw [hy]; apply hn; simp [List.getD_eq_getElem?_getD, hj]
  refine ⟨fun i j hij hj hc => ?_, fun i hi hA hB => ?_⟩
  · by_cases e : i = j
    · rw [e]; exact hc
    · rw [(cmpL_bef _ _ (hm i (by omega))).1]
      exact bef_trans (ris_mono hR (by omega) hj) ((cmpL_bef _ _ (hm j hj)).1.1 hc)
  · have key : y ∈ L → i < L.length ∧ L.getD i [] = y := fun h => by
      obtain ⟨k, hk, e⟩ := List.getElem_of_mem h
      have e' : L.getD k [] = y := by simp [List.getD_eq_getElem?_getD, hk, e]
      have hki : ¬ k < i := fun hlt => by
        have := hA k hlt
        rw [e', cmpL_refl] at this
        omega
      have hil : i < L.length := by omega
      refine ⟨hil, ?_⟩
      by_cases q : i = k
      · rw [q, e']
      · have h1 := ris_mono hR (show i < k by omega) hk
        rw [e', ← (cmpL_bef _ _ (hm i hil)).1] at h1
        have := hB i (Nat.le_refl _) hil
        omega
    refine ⟨⟨fun h => ?_, fun h => ?_⟩, key⟩
    · rw [Bool.and_eq_true, decide_eq_true_eq, beq_iff_eq] at h
      have h2 := (cmpL_bef _ _ (hm i h.1)).2.1 h.2
      rw [← h2]
      simp [List.getD_eq_getElem?_getD, h.1]
    · obtain ⟨h1, h2⟩ := key h
      rw [h2, cmpL_refl]
      simp [h1]

/-- Letters of s t s .. -/
theorem alt_get (s t : Nat) : ∀ n c, c < n → (alt s t n).getD c 0 = if c % 2 = 0 then s else t
  | 0, _, h => by omega
  | n + 1, 0, _ => rfl
  | n + 1, c + 1, h => by
    simp only [alt, List.getD_cons_succ]
    rw [alt_get t s n c (by omega)]
    by_cases e : c % 2 = 0
    · rw [if_pos e, if_neg (by omega)]
    · rw [if_neg e, if_pos (by omega)]
theorem ext_getD {a b : List Nat} (hl : a.length = b.length) (h : ∀ i, i < a.length → a.getD i 0 = b.getD i 0) : a = b := by
  apply List.ext_getElem hl
  intro i h1 h2
  have := h i h1
  simpa [List.getD_eq_getElem?_getD, h1, h2] using this
theorem getD_app (a b : List Nat) (i : Nat) : (a ++ b).getD i 0 = if i < a.length then a.getD i 0 else b.getD (i - a.length) 0 := by
  by_cases h : i < a.length
  · rw [if_pos h]; simp [List.getD_eq_getElem?_getD, List.getElem?_append_left h]
  · rw [if_neg h]; simp [List.getD_eq_getElem?_getD, List.getElem?_append_right (Nat.not_lt.1 h)]
/-- x with the rule of its letters at and behind p turned over. -/
def ovr (x : List Nat) (p k : Nat) : List Nat := x.take p ++ alt (x.getD (p + 1) 0) (x.getD p 0) k ++ x.drop (p + k)
/-- A word with turned letters p .. p + c - 1. -/
def ovc (x : List Nat) (p c : Nat) : List Nat := (List.range x.length).map fun i => if p ≤ i ∧ i < p + c then x.getD (p + (i - p + 1) % 2) 0 else x.getD i 0
theorem ovc_len (x : List Nat) (p c : Nat) : (ovc x p c).length = x.length := by simp [ovc]
theorem ovc_get (x : List Nat) (p c i : Nat) (h : i < x.length) : (ovc x p c).getD i 0 = if p ≤ i ∧ i < p + c then x.getD (p + (i - p + 1) % 2) 0 else x.getD i 0 := by
  simp [ovc, List.getD_eq_getElem?_getD, h]
theorem ovc_zero (x : List Nat) (p : Nat) : ovc x p 0 = x := ext_getD (ovc_len _ _ _) fun i hi => by
  rw [ovc_len] at hi
  rw [ovc_get _ _ _ _ hi, if_neg (by omega)]
theorem ovc_succ (x : List Nat) (p c : Nat) (h : p + c < x.length) : ovc x p (c + 1) = (ovc x p c).set (p + c) (x.getD (p + (c + 1) % 2) 0) := by
  apply ext_getD
  · rw [ovc_len, List.length_set, ovc_len]
  · intro i hi
    rw [ovc_len] at hi
    rw [ovc_get _ _ _ _ hi]
    by_cases e : p + c = i
    · subst e
      rw [if_pos (by omega), show p + c - p + 1 = c + 1 by omega]
      simp [List.getD_eq_getElem?_getD, ovc_len, h]
    · rw [show ((ovc x p c).set (p + c) (x.getD (p + (c + 1) % 2) 0)).getD i 0 = (ovc x p c).getD i 0 by simp [List.getD_eq_getElem?_getD, List.getElem?_set_ne e], ovc_get _ _ _ _ hi]
      by_cases q : p ≤ i ∧ i < p + c
      · rw [if_pos q, if_pos (by omega)]
      · rw [if_neg q, if_neg (by omega)]
theorem ovc_all (x : List Nat) (p k : Nat) (h : p + k ≤ x.length) : ovc x p k = ovr x p k := by
  apply ext_getD
  · simp [ovc, ovr, alt_len]; omega
  · intro i hi
    rw [ovc_len] at hi
    rw [ovc_get _ _ _ _ hi, ovr, getD_app, getD_app]
    simp only [List.length_append, List.length_take, alt_len, show min p x.length = p by omega]
    by_cases h1 : i < p
    · rw [if_neg (by omega), if_pos (by omega), if_pos h1]
      simp [List.getD_eq_getElem?_getD, h1]
    · by_cases h2 : i < p + k
      · rw [if_pos (by omega), if_pos h2, if_neg h1, alt_get _ _ _ _ (by omega)]
        by_cases e : (i - p) % 2 = 0
        · rw [if_pos e, show (i - p + 1) % 2 = 1 by omega]
        · rw [if_neg e, show (i - p + 1) % 2 = 0 by omega, Nat.add_zero]
      · rw [if_neg (by omega), if_neg h2]
        simp [List.getD_eq_getElem?_getD, List.getElem?_drop, show p + k + (i - (p + k)) = i by omega]
theorem alt_within (x : List Nat) (p k : Nat) (h : p + k ≤ x.length) (ha : ∀ c, c < k → x.getD (p + c) 0 = x.getD (p + c % 2) 0) : x = x.take p ++ alt (x.getD p 0) (x.getD (p + 1) 0) k ++ x.drop (p + k) := by
  apply ext_getD
  · simp [alt_len]; omega
  · intro i hi
    rw [getD_app, getD_app]
    simp only [List.length_append, List.length_take, alt_len, show min p x.length = p by omega]
    by_cases h1 : i < p
    · rw [if_pos (by omega), if_pos h1]
      simp [List.getD_eq_getElem?_getD, h1]
    · by_cases h2 : i < p + k
      · rw [if_pos h2, if_neg h1, alt_get _ _ _ _ (by omega)]
        have := ha (i - p) (by omega)
        rw [show p + (i - p) = i by omega] at this
        rw [this]
        by_cases e : (i - p) % 2 = 0
        · rw [if_pos e, e, Nat.add_zero]
        · rw [if_neg e, show (i - p) % 2 = 1 by omega]
      · rw [if_neg h2]
        simp [List.getD_eq_getElem?_getD, List.getElem?_drop, show p + k + (i - (p + k)) = i by omega]
/-- What is kept when rules are turned over holds of all short words. -/
theorem met_all {g x : Nat} (hg : g < 17) (hx : x < nE g) (M : List Nat → Prop) {w0 : List Nat} (h0 : M w0) (hw0 : Shw g x w0)
    (hcl : ∀ w, M w → ∀ p, p + 1 < w.length → w.getD p 0 ≠ w.getD (p + 1) 0 → p + ordN g (w.getD p 0) (w.getD (p + 1) 0) ≤ w.length →
      (∀ c, c < ordN g (w.getD p 0) (w.getD (p + 1) 0) → w.getD (p + c) 0 = w.getD (p + c % 2) 0) → M (ovr w p (ordN g (w.getD p 0) (w.getD (p + 1) 0)))) :
    ∀ y, Shw g x y → M y := by
  intro y hy
  have h := movs_all hg (ln g x) x rfl hx w0 y hw0 hy
  clear hy
  induction h with
  | refl => exact h0
  | @step b c _ hm ih =>
    obtain ⟨l, r, s, t, hs, ht, hne, rfl, rfl⟩ := hm
    have h2 := (rule_ok hg (tE hg).1 hs ht hne).2.1
    have gl : ∀ c, c < ordN g s t → (l ++ alt s t (ordN g s t) ++ r).getD (l.length + c) 0 = if c % 2 = 0 then s else t := fun c hc => by
      rw [getD_app, if_pos (by simp [alt_len]; omega), getD_app, if_neg (by omega), show l.length + c - l.length = c by omega, alt_get _ _ _ _ hc]
    have g0 := gl 0 (by omega)
    have g1 := gl 1 (by omega)
    rw [Nat.add_zero, if_pos rfl] at g0
    rw [if_neg (by decide)] at g1
    have hk := hcl _ ih l.length
    rw [g0, g1] at hk
    have hr := hk (by simp [alt_len]; omega) hne (by simp [alt_len]) fun c hc => by
      rw [gl c hc, gl (c % 2) (by omega), Nat.mod_mod]
    rw [ovr, g0, g1] at hr
    have e1 : (l ++ alt s t (ordN g s t) ++ r).take l.length = l := by rw [List.append_assoc, List.take_left]
    have e2 : (l ++ alt s t (ordN g s t) ++ r).drop (l.length + ordN g s t) = r := by
      rw [show l.length + ordN g s t = (l ++ alt s t (ordN g s t)).length by simp [alt_len], List.drop_left]
    rw [e1, e2] at hr
    exact hr
end Go.Proofs.Ytlnbodpdgebflaa

namespace Go.Proofs.Ytlnbodpdgebflaa
open Go.RowKit

theorem nd_le : ∀ (n : Nat) (l : List Nat), l.Nodup → (∀ i, i ∈ l → i < n) → l.length ≤ n
  | 0, l, _, h => by
    cases l with
    | nil => simp
    | cons a l => exact absurd (h a (by simp)) (Nat.not_lt_zero _)
  | n + 1, l, hd, h => by
    by_cases e : n ∈ l
    · have h1 := nd_le n (l.erase n) (hd.erase n) fun i hi => by
        have := (List.Nodup.mem_erase_iff hd).1 hi
        have := h i this.2
        omega
      rw [List.length_erase_of_mem e] at h1
      omega
    · have h1 := nd_le n l hd fun i hi => by
        have := h i hi
        have : i ≠ n := fun q => e (q ▸ hi)
        omega
      omega
theorem nd_inj {L : List (List Nat)} (hL : L.Nodup) {i j : Nat} (hi : i < L.length) (hj : j < L.length) (e : L[i] = L[j]) : i = j := by
  have hp := List.pairwise_iff_getElem.1 hL
  rcases Nat.lt_trichotomy i j with q | q | q
  · exact absurd e (hp i j hi hj q)
  · exact q
  · exact absurd e.symm (hp j i hj hi q)
/-- What turning the rule at p of a word w asks of the row of words met. -/
def ClP (g : Nat) (L : List (List Nat)) (td : List Nat) (w : List Nat) (p : Nat) : Prop :=
  p + 1 < w.length → w.getD p 0 ≠ w.getD (p + 1) 0 → p + ordN g (w.getD p 0) (w.getD (p + 1) 0) ≤ w.length →
    (∀ c, c < ordN g (w.getD p 0) (w.getD (p + 1) 0) → w.getD (p + c) 0 = w.getD (p + c % 2) 0) → ∃ i, i ∈ td ∧ L.getD i [] = ovr w p (ordN g (w.getD p 0) (w.getD (p + 1) 0))
theorem ClP.mono {g : Nat} {L : List (List Nat)} {td te w : List Nat} {p : Nat} (h : ClP g L td w p) (hs : ∀ i, i ∈ td → i ∈ te) : ClP g L te w p := fun a b c d => by
  obtain ⟨i, h1, h2⟩ := h a b c d
  exact ⟨i, hs i h1, h2⟩
/-- The rows met and todo; n words are done. -/
structure Srch (g : Nat) (L : List (List Nat)) (mt : Nat → Bool) (td : List Nat) (n : Nat) : Prop where
  nd : td.Nodup
  lt : ∀ i, i ∈ td → i < L.length
  zero : 0 ∈ td
  met : ∀ i, i < L.length → (mt i = true ↔ i ∈ td)
  done : ∀ k, k < n → ∀ p, ClP g L td (L.getD (td.getD k 0) []) p
  le : n ≤ td.length
theorem Srch.len {g n : Nat} {L : List (List Nat)} {mt : Nat → Bool} {td : List Nat} (h : Srch g L mt td n) : td.length ≤ L.length := by
  exact nd_le _ td h.nd h.lt
theorem srch_start {g : Nat} {L : List (List Nat)} (h : 0 < L.length) : Srch g L (fun j => j == 0) [0] 0 where
  nd := by simp
  lt := by simpa using h
  zero := by simp
  met := fun i _ => by simp
  done := fun k hk => absurd hk (Nat.not_lt_zero _)
  le := by simp
/-- A word is met for the first time. -/
theorem Srch.push {g n i : Nat} {L : List (List Nat)} {mt mt' : Nat → Bool} {td : List Nat} (h : Srch g L mt td n) (hi : i < L.length) (hm : mt i = false) (hmt : ∀ j, j < L.length → mt' j = if j = i then true else mt j) : Srch g L mt' (td ++ [i]) n where
  nd := by
    have hn : i ∉ td := fun hh => by rw [(h.met i hi).2 hh] at hm; cases hm
    rw [List.nodup_append]
    refine ⟨h.nd, by simp, fun a ha b hb => ?_⟩
    rw [List.mem_singleton] at hb
    intro e
    rw [e, hb] at ha
    exact hn ha
  lt := fun j hj => by
    rcases List.mem_append.1 hj with q | q
    · exact h.lt j q
    · rw [List.mem_singleton.1 q]; exact hi
  zero := List.mem_append_left _ h.zero
  met := fun j hj => by
    rw [hmt j hj]
    by_cases e : j = i
    · simp [e]
    · rw [if_neg e, h.met j hj]; simp [e]
  done := fun k hk p => by
    have hkl : k < td.length := Nat.lt_of_lt_of_le hk h.le
    have e : (td ++ [i]).getD k 0 = td.getD k 0 := by simp [List.getD_eq_getElem?_getD, List.getElem?_append_left hkl]
    rw [e]
    exact (h.done k hk p).mono fun j hj => List.mem_append_left _ hj
  le := by rw [List.length_append]; exact Nat.le_trans h.le (Nat.le_add_right _ _)
theorem Srch.step {g n : Nat} {L : List (List Nat)} {mt : Nat → Bool} {td : List Nat} (h : Srch g L mt td n) (hn : n < td.length) (hd : ∀ p, ClP g L td (L.getD (td.getD n 0) []) p) : Srch g L mt td (n + 1) :=
  { h with
    done := fun k hk p => by
      by_cases e : k = n
      · rw [e]; exact hd p
      · exact h.done k (by omega) p
    le := hn }
theorem Srch.all {g x n : Nat} {mt : Nat → Bool} {td : List Nat} (hg : g < 17) (hx : x < nE g) (h : Srch g (shP g (ln g x) x) mt td n) (hn : n = td.length) : ∀ i, i < (shP g (ln g x) x).length → mt i = true := by
  intro i hi
  obtain ⟨L, hL⟩ : ∃ L, L = shP g (ln g x) x := ⟨_, rfl⟩
  have hM : ∀ w, w ∈ L ↔ Shw g x w := fun w => by rw [hL]; exact shP_mem hg _ x hx (Nat.le_refl _) w
  have hR : L.Nodup := by rw [hL]; exact ris_nodup (shP_ris _ x)
  rw [← hL] at h hi
  clear hL
  have hmem : ∀ j, j < L.length → L.getD j [] ∈ L := fun j hj => by simp [List.getD_eq_getElem?_getD, hj]
  have h0 : 0 < L.length := by omega
  have key := met_all hg hx (fun w => ∃ j, j ∈ td ∧ L.getD j [] = w) ⟨0, h.zero, rfl⟩ ((hM _).1 (hmem 0 h0)) (fun w hw p h1 h2 h3 h4 => by
    obtain ⟨j, hj, rfl⟩ := hw
    obtain ⟨k, hk, e⟩ := List.getElem_of_mem hj
    have e' : td.getD k 0 = j := by simp [List.getD_eq_getElem?_getD, hk, e]
    have := h.done k (by omega) p
    rw [e'] at this
    exact this h1 h2 h3 h4)
  obtain ⟨j, hj, e⟩ := key _ ((hM _).1 (hmem i hi))
  have hjl := h.lt j hj
  have : j = i := by
    have e2 : L[j] = L[i] := by simpa [List.getD_eq_getElem?_getD, hjl, hi] using e
    exact nd_inj hR hjl hi e2
  rw [h.met i hi, ← this]
  exact hj
/-- The word that comes of turning a rule over is one of the short words. -/
theorem ovr_short {g x p : Nat} (hg : g < 17) {w : List Nat} (hw : Shw g x w) (h1 : p + 1 < w.length) (h2 : w.getD p 0 ≠ w.getD (p + 1) 0) (h3 : p + ordN g (w.getD p 0) (w.getD (p + 1) 0) ≤ w.length)
    (h4 : ∀ c, c < ordN g (w.getD p 0) (w.getD (p + 1) 0) → w.getD (p + c) 0 = w.getD (p + c % 2) 0) : Shw g x (ovr w p (ordN g (w.getD p 0) (w.getD (p + 1) 0))) := by
  have e := alt_within w p _ h3 h4
  have hs : w.getD p 0 < kM g := hw.1 _ (natD_mem (by omega))
  have ht : w.getD (p + 1) 0 < kM g := hw.1 _ (natD_mem h1)
  exact Mov.shw hg ⟨_, _, _, _, hs, ht, h2, e, rfl⟩ hw
end Go.Proofs.Ytlnbodpdgebflaa
