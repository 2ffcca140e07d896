/- Waerden; CapsSchur, CapsWaerden: the walks -/
import Derived.Test.YtlalfjkenkmojaaPh
import Derived.Test.YtlalfjkenkmojaaL4
namespace Go.Proofs.Ytlalfjkenkmojaa
open Go.RowKit

theorem equal_nats (v v' : Value) (xs : List Nat) (w : World) (h : Nats w v xs) (h' : Nats w v' xs) :
    Calls Try.prog 28 #[v, v'] w fun e w' => e = .returned (.bool true) ∧ Below w.heap.size w w' := equal_self v v' xs w h h'

set_option maxHeartbeats 2000000 in
set_option maxRecDepth 100000 in
theorem schur_bad_law (n c : Int) (w : World) (h : colB n c = false) :
    Calls Try.prog 7 #[.int .i64 n, .int .i64 c] w fun e w' => e = .returned (.bool true) ∧ Below w.heap.size w w' := by
  have HS := Lib.hid (Schur_bad n c w h)
  have HAw := Lib.hid (fun w => awake_any w)
  have hh : n < 1 ∨ 40 < n ∨ c < 1 ∨ 3 < c := by
    unfold colB isCountB at h
    simp only [Bool.and_eq_false_iff, decide_eq_false_iff_not] at h
    omega
  clear h
  by_cases c1 : n < 1
  · have HB0 := Lib.hid (Below.refl w.heap.size w)
    go_enter Try.func7, Try.ntmps7
    go_wp2_with fail
    refine (HS.out).mono ?_
    rintro e w' ⟨rfl, rfl⟩
    go_wp2_with fail
    refine (HAw.out w).mono ?_
    rintro e w1 ⟨rfl, hb1⟩
    have HB1 := Lib.hid (HB0.out.trans (hb1.mono HB0.out.size))
    clear hb1
    go_wp2
    go_ret
    exact ⟨rfl, HB1.out⟩
  by_cases c2 : 40 < n
  · have HB0 := Lib.hid (Below.refl w.heap.size w)
    go_enter Try.func7, Try.ntmps7
    go_wp2_with fail
    refine (HS.out).mono ?_
    rintro e w' ⟨rfl, rfl⟩
    go_wp2_with fail
    refine (HAw.out w).mono ?_
    rintro e w1 ⟨rfl, hb1⟩
    have HB1 := Lib.hid (HB0.out.trans (hb1.mono HB0.out.size))
    clear hb1
    go_wp2
    go_ret
    exact ⟨rfl, HB1.out⟩
  by_cases c3 : c < 1
  · have HB0 := Lib.hid (Below.refl w.heap.size w)
    go_enter Try.func7, Try.ntmps7
    go_wp2_with fail
    refine (HS.out).mono ?_
    rintro e w' ⟨rfl, rfl⟩
    go_wp2_with fail
    refine (HAw.out w).mono ?_
    rintro e w1 ⟨rfl, hb1⟩
    have HB1 := Lib.hid (HB0.out.trans (hb1.mono HB0.out.size))
    clear hb1
    go_wp2
    go_ret
    exact ⟨rfl, HB1.out⟩
  have c4 : 3 < c := by omega
  have HB0 := Lib.hid (Below.refl w.heap.size w)
  go_enter Try.func7, Try.ntmps7
  go_wp2_with fail
  refine (HS.out).mono ?_
  rintro e w' ⟨rfl, rfl⟩
  go_wp2_with fail
  refine (HAw.out w).mono ?_
  rintro e w1 ⟨rfl, hb1⟩
  have HB1 := Lib.hid (HB0.out.trans (hb1.mono HB0.out.size))
  clear hb1
  go_wp2
  go_ret
  exact ⟨rfl, HB1.out⟩

set_option maxHeartbeats 2000000 in
set_option maxRecDepth 100000 in
theorem schur_good_law (n c : Nat) (w : World) (h1 : 1 ≤ n) (h2 : n ≤ 40) (h3 : 1 ≤ c) (h4 : c ≤ 3) :
    Calls Try.prog 7 #[.int .i64 n, .int .i64 c] w fun e w' => e = .returned (.bool true) ∧ Below w.heap.size w w' := by
  have HS := Lib.hid (Schur_any n c w h1 h2 h3 h4)
  have HP := Lib.hid (fun w => Paint_any 0 n c w (.inl rfl) h2 h4)
  rw [show ruleK 0 = sumFree from rfl] at HP
  have HAw := Lib.hid (fun w => awake_any w)
  generalize firstN sumFree c n [] = F at *
  have HEq := Lib.hid (fun v v' w h h' => equal_nats v v' (outL F []) w h h')
  generalize codeOf F = q at *
  have HB0 := Lib.hid (Below.refl w.heap.size w)
  go_enter Try.func7, Try.ntmps7
  go_wp2_with fail
  refine (HS.out).mono ?_
  rintro e w1 ⟨v1, rfl, hv1, hb1⟩
  have HB1 := Lib.hid (HB0.out.trans (hb1.mono HB0.out.size))
  have X_1 := Lib.hid (hv1)
  clear hb1 hv1
  go_wp2_with fail
  refine (HP.out w1).mono ?_
  rintro e w2 ⟨v2, rfl, hv2, hb2⟩
  have HB2 := Lib.hid (HB1.out.trans (hb2.mono HB1.out.size))
  have X_2 := Lib.hid (X_1.out.below hb2 (Nat.le_refl _))
  have Y_2 := Lib.hid (hv2)
  clear hb2 hv2
  go_wp2_with fail
  refine (HEq.out v1 v2 w2 X_2.out Y_2.out).mono ?_
  rintro e w3 ⟨rfl, hb3⟩
  have HB3 := Lib.hid (HB2.out.trans (hb3.mono HB2.out.size))
  have X_3 := Lib.hid (X_2.out.below hb3 (Nat.le_refl _))
  have Y_3 := Lib.hid (Y_2.out.below hb3 (Nat.le_refl _))
  clear hb3
  clear X_3
  clear Y_3
  go_wp2_with fail
  refine (HAw.out w3).mono ?_
  rintro e w4 ⟨rfl, hb4⟩
  have HB4 := Lib.hid (HB3.out.trans (hb4.mono HB3.out.size))
  clear hb4
  go_wp2
  go_ret
  exact ⟨rfl, HB4.out⟩

theorem capsSchur_law (n c : Int) (w : World) :
    Calls Try.prog 7 #[.int .i64 n, .int .i64 c] w fun e w' => e = .returned (.bool true) ∧ Below w.heap.size w w' := by
  cases h : colB n c with
  | false => exact schur_bad_law n c w h
  | true =>
    unfold colB isCountB at h
    simp only [Bool.and_eq_true, decide_eq_true_eq] at h
    obtain ⟨n, rfl⟩ := Int.eq_ofNat_of_zero_le (show 0 ≤ n by omega)
    obtain ⟨c, rfl⟩ := Int.eq_ofNat_of_zero_le (show 0 ≤ c by omega)
    exact schur_good_law n c w (by omega) (by omega) (by omega) (by omega)

/-- What Waerden takes. -/
def waB (n c k : Int) : Bool := decide ((1 ≤ n ∧ n ≤ 40) ∧ (1 ≤ c ∧ c ≤ 3) ∧ (c = 3 → n ≤ 27) ∧ (k = 3 ∨ k = 4))

set_option maxHeartbeats 2000000 in
set_option maxRecDepth 100000 in
theorem Waerden_bad (n c k : Int) (w : World) (h : waB n c k = false) : Calls Try.prog 47 #[.int .i64 n, .int .i64 c, .int .i64 k] w fun e w' => e = .returned (.tuple #[.slice none 0 0, .int .i64 2]) ∧ w = w' := by
  have HC := Lib.hid (isCount_any n w)
  have hh := of_decide_eq_false h
  clear h
  cases hc : isCountB n with
  | false =>
    rw [hc] at HC
    clear hh hc
    go_enter Try.func47, Try.ntmps47
    go_wp2_with fail
    refine HC.out.mono ?_
    rintro e w' ⟨rfl, rfl⟩
    go_wp2
    go_ret2
    exact ⟨rfl, rfl⟩
  | true =>
    have hn := of_decide_eq_true hc
    rw [hc] at HC
    clear hc
    by_cases c1 : c < 1
    · clear hh
      go_enter Try.func47, Try.ntmps47
      go_wp2_with fail
      refine HC.out.mono ?_
      rintro e w' ⟨rfl, rfl⟩
      go_wp2
      go_ret2
      exact ⟨rfl, rfl⟩
    by_cases c2 : 3 < c
    · clear hh
      go_enter Try.func47, Try.ntmps47
      go_wp2_with fail
      refine HC.out.mono ?_
      rintro e w' ⟨rfl, rfl⟩
      go_wp2
      go_ret2
      exact ⟨rfl, rfl⟩
    by_cases c3 : k = 3
    · subst c3
      have c5 : c = 3 := by omega
      subst c5
      have c6 : 27 < n := by omega
      clear hh
      go_enter Try.func47, Try.ntmps47
      go_wp2_with fail
      refine HC.out.mono ?_
      rintro e w' ⟨rfl, rfl⟩
      go_wp2
      go_ret2
      exact ⟨rfl, rfl⟩
    by_cases c4 : k = 4
    · subst c4
      have c5 : c = 3 := by omega
      subst c5
      have c6 : 27 < n := by omega
      clear hh
      go_enter Try.func47, Try.ntmps47
      go_wp2_with fail
      refine HC.out.mono ?_
      rintro e w' ⟨rfl, rfl⟩
      go_wp2
      go_ret2
      exact ⟨rfl, rfl⟩
    have d1 : (k != 3) = true := by simpa using c3
    have d2 : (k != 4) = true := by simpa using c4
    clear hh c3 c4
    go_enter Try.func47, Try.ntmps47
    go_wp2_with fail
    refine HC.out.mono ?_
    rintro e w' ⟨rfl, rfl⟩
    go_wp2
    go_ret2
    exact ⟨rfl, rfl⟩

set_option maxHeartbeats 2000000 in
set_option maxRecDepth 100000 in
theorem Waerden3_any (n c : Nat) (w : World) (h1 : 1 ≤ n) (h2 : n ≤ 40) (h3 : 1 ≤ c) (h4 : c ≤ 3) (h5 : c = 3 → n ≤ 27) :
    Calls Try.prog 47 #[.int .i64 n, .int .i64 c, .int .i64 3] w fun e w' => ∃ v', e = .returned (.tuple #[v', .int .i64 (codeOf (firstN (strideB 3) c n []))]) ∧ Nats w' v' (outL (firstN (strideB 3) c n []) []) ∧ Below w.heap.size w w' := by
  have HC := Lib.hid (isCount_any n w)
  rw [show isCountB (n:Int) = true from decide_eq_true (by omega)] at HC
  have HF := Lib.hid (colouring_any strideRule3 n c (by omega) (by omega) (fun l _ _ hl _ _ => by omega) w)
  generalize firstN (strideB 3) c n [] = F at *
  generalize codeOf F = q at *
  by_cases c5 : c = 3
  · have h6 := h5 c5
    subst c5
    clear h5
    go_enter Try.func47, Try.ntmps47
    go_wp2_with fail
    refine HC.out.mono ?_
    rintro e w' ⟨rfl, rfl⟩
    go_wp2_with fail
    refine HF.out.mono ?_
    rintro e w1 ⟨v1, rfl, hv, hb⟩
    have HV := Lib.hid hv
    have HB := Lib.hid hb
    clear hv hb
    go_wp2
    go_ret2
    exact ⟨_, rfl, HV.out, HB.out⟩
  · have d5 : ((c:Int) == 3) = false := beq_eq_false_iff_ne.2 (by omega)
    clear h5
    go_enter Try.func47, Try.ntmps47
    go_wp2_with fail
    refine HC.out.mono ?_
    rintro e w' ⟨rfl, rfl⟩
    go_wp2_with fail
    refine HF.out.mono ?_
    rintro e w1 ⟨v1, rfl, hv, hb⟩
    have HV := Lib.hid hv
    have HB := Lib.hid hb
    clear hv hb
    go_wp2
    go_ret2
    exact ⟨_, rfl, HV.out, HB.out⟩

set_option maxHeartbeats 2000000 in
set_option maxRecDepth 100000 in
theorem Waerden4_any (n c : Nat) (w : World) (h1 : 1 ≤ n) (h2 : n ≤ 40) (h3 : 1 ≤ c) (h4 : c ≤ 3) (h5 : c = 3 → n ≤ 27) :
    Calls Try.prog 47 #[.int .i64 n, .int .i64 c, .int .i64 4] w fun e w' => ∃ v', e = .returned (.tuple #[v', .int .i64 (codeOf (firstN (strideB 4) c n []))]) ∧ Nats w' v' (outL (firstN (strideB 4) c n []) []) ∧ Below w.heap.size w w' := by
  have HC := Lib.hid (isCount_any n w)
  rw [show isCountB (n:Int) = true from decide_eq_true (by omega)] at HC
  have HF := Lib.hid (colouring_any strideRule4 n c (by omega) (by omega) (fun l _ _ hl _ _ => by omega) w)
  generalize firstN (strideB 4) c n [] = F at *
  generalize codeOf F = q at *
  by_cases c5 : c = 3
  · have h6 := h5 c5
    subst c5
    clear h5
    go_enter Try.func47, Try.ntmps47
    go_wp2_with fail
    refine HC.out.mono ?_
    rintro e w' ⟨rfl, rfl⟩
    go_wp2_with fail
    refine HF.out.mono ?_
    rintro e w1 ⟨v1, rfl, hv, hb⟩
    have HV := Lib.hid hv
    have HB := Lib.hid hb
    clear hv hb
    go_wp2
    go_ret2
    exact ⟨_, rfl, HV.out, HB.out⟩
  · have d5 : ((c:Int) == 3) = false := beq_eq_false_iff_ne.2 (by omega)
    clear h5
    go_enter Try.func47, Try.ntmps47
    go_wp2_with fail
    refine HC.out.mono ?_
    rintro e w' ⟨rfl, rfl⟩
    go_wp2_with fail
    refine HF.out.mono ?_
    rintro e w1 ⟨v1, rfl, hv, hb⟩
    have HV := Lib.hid hv
    have HB := Lib.hid hb
    clear hv hb
    go_wp2
    go_ret2
    exact ⟨_, rfl, HV.out, HB.out⟩

set_option maxHeartbeats 2000000 in
set_option maxRecDepth 100000 in
theorem waerden_bad_law (n c k : Int) (w : World) (h : waB n c k = false) :
    Calls Try.prog 8 #[.int .i64 n, .int .i64 c, .int .i64 k] w fun e w' => e = .returned (.bool true) ∧ Below w.heap.size w w' := by
  have HS := Lib.hid (Waerden_bad n c k w h)
  have HAw := Lib.hid (fun w => awake_any w)
  have hh := of_decide_eq_false h
  clear h
  by_cases e1 : n < 1
  · clear hh
    have HB0 := Lib.hid (Below.refl w.heap.size w)
    go_enter Try.func8, Try.ntmps8
    go_wp2_with fail
    refine (HS.out).mono ?_
    rintro e w' ⟨rfl, rfl⟩
    go_wp2_with fail
    refine (HAw.out w).mono ?_
    rintro e w1 ⟨rfl, hb1⟩
    have HB1 := Lib.hid (HB0.out.trans (hb1.mono HB0.out.size))
    clear hb1
    go_wp2
    go_ret
    exact ⟨rfl, HB1.out⟩
  by_cases e2 : 40 < n
  · clear hh
    have HB0 := Lib.hid (Below.refl w.heap.size w)
    go_enter Try.func8, Try.ntmps8
    go_wp2_with fail
    refine (HS.out).mono ?_
    rintro e w' ⟨rfl, rfl⟩
    go_wp2_with fail
    refine (HAw.out w).mono ?_
    rintro e w1 ⟨rfl, hb1⟩
    have HB1 := Lib.hid (HB0.out.trans (hb1.mono HB0.out.size))
    clear hb1
    go_wp2
    go_ret
    exact ⟨rfl, HB1.out⟩
  by_cases c1 : c < 1
  · clear hh
    have HB0 := Lib.hid (Below.refl w.heap.size w)
    go_enter Try.func8, Try.ntmps8
    go_wp2_with fail
    refine (HS.out).mono ?_
    rintro e w' ⟨rfl, rfl⟩
    go_wp2_with fail
    refine (HAw.out w).mono ?_
    rintro e w1 ⟨rfl, hb1⟩
    have HB1 := Lib.hid (HB0.out.trans (hb1.mono HB0.out.size))
    clear hb1
    go_wp2
    go_ret
    exact ⟨rfl, HB1.out⟩
  by_cases c2 : 3 < c
  · clear hh
    have HB0 := Lib.hid (Below.refl w.heap.size w)
    go_enter Try.func8, Try.ntmps8
    go_wp2_with fail
    refine (HS.out).mono ?_
    rintro e w' ⟨rfl, rfl⟩
    go_wp2_with fail
    refine (HAw.out w).mono ?_
    rintro e w1 ⟨rfl, hb1⟩
    have HB1 := Lib.hid (HB0.out.trans (hb1.mono HB0.out.size))
    clear hb1
    go_wp2
    go_ret
    exact ⟨rfl, HB1.out⟩
  by_cases c3 : k = 3
  · subst c3
    have c5 : c = 3 := by omega
    subst c5
    have c6 : 27 < n := by omega
    clear hh
    have HB0 := Lib.hid (Below.refl w.heap.size w)
    go_enter Try.func8, Try.ntmps8
    go_wp2_with fail
    refine (HS.out).mono ?_
    rintro e w' ⟨rfl, rfl⟩
    go_wp2_with fail
    refine (HAw.out w).mono ?_
    rintro e w1 ⟨rfl, hb1⟩
    have HB1 := Lib.hid (HB0.out.trans (hb1.mono HB0.out.size))
    clear hb1
    go_wp2
    go_ret
    exact ⟨rfl, HB1.out⟩
  by_cases c4 : k = 4
  · subst c4
    have c5 : c = 3 := by omega
    subst c5
    have c6 : 27 < n := by omega
    clear hh
    have HB0 := Lib.hid (Below.refl w.heap.size w)
    go_enter Try.func8, Try.ntmps8
    go_wp2_with fail
    refine (HS.out).mono ?_
    rintro e w' ⟨rfl, rfl⟩
    go_wp2_with fail
    refine (HAw.out w).mono ?_
    rintro e w1 ⟨rfl, hb1⟩
    have HB1 := Lib.hid (HB0.out.trans (hb1.mono HB0.out.size))
    clear hb1
    go_wp2
    go_ret
    exact ⟨rfl, HB1.out⟩
  have d1 : (k != 3) = true := by simpa using c3
  have d2 : (k != 4) = true := by simpa using c4
  clear hh c3 c4
  by_cases c5 : c = 3
  · subst c5
    by_cases c6 : 27 < n
    · skip
      have HB0 := Lib.hid (Below.refl w.heap.size w)
      go_enter Try.func8, Try.ntmps8
      go_wp2_with fail
      refine (HS.out).mono ?_
      rintro e w' ⟨rfl, rfl⟩
      go_wp2_with fail
      refine (HAw.out w).mono ?_
      rintro e w1 ⟨rfl, hb1⟩
      have HB1 := Lib.hid (HB0.out.trans (hb1.mono HB0.out.size))
      clear hb1
      go_wp2
      go_ret
      exact ⟨rfl, HB1.out⟩
    · skip
      have HB0 := Lib.hid (Below.refl w.heap.size w)
      go_enter Try.func8, Try.ntmps8
      go_wp2_with fail
      refine (HS.out).mono ?_
      rintro e w' ⟨rfl, rfl⟩
      go_wp2_with fail
      refine (HAw.out w).mono ?_
      rintro e w1 ⟨rfl, hb1⟩
      have HB1 := Lib.hid (HB0.out.trans (hb1.mono HB0.out.size))
      clear hb1
      go_wp2
      go_ret
      exact ⟨rfl, HB1.out⟩
  · have d5 : (c == 3) = false := beq_eq_false_iff_ne.2 c5
    clear c5
    have HB0 := Lib.hid (Below.refl w.heap.size w)
    go_enter Try.func8, Try.ntmps8
    go_wp2_with fail
    refine (HS.out).mono ?_
    rintro e w' ⟨rfl, rfl⟩
    go_wp2_with fail
    refine (HAw.out w).mono ?_
    rintro e w1 ⟨rfl, hb1⟩
    have HB1 := Lib.hid (HB0.out.trans (hb1.mono HB0.out.size))
    clear hb1
    go_wp2
    go_ret
    exact ⟨rfl, HB1.out⟩

set_option maxHeartbeats 2000000 in
set_option maxRecDepth 100000 in
theorem waerden3_law (n c : Nat) (w : World) (h1 : 1 ≤ n) (h2 : n ≤ 40) (h3 : 1 ≤ c) (h4 : c ≤ 3) (h5 : c = 3 → n ≤ 27) :
    Calls Try.prog 8 #[.int .i64 n, .int .i64 c, .int .i64 3] w fun e w' => e = .returned (.bool true) ∧ Below w.heap.size w w' := by
  have HS := Lib.hid (Waerden3_any n c w h1 h2 h3 h4 h5)
  have HP := Lib.hid (fun w => Paint_any 3 n c w (by omega) h2 h4)
  rw [show ruleK 3 = strideB 3 from rfl] at HP
  have HAw := Lib.hid (fun w => awake_any w)
  generalize firstN (strideB 3) c n [] = F at *
  have HEq := Lib.hid (fun v v' w h h' => equal_nats v v' (outL F []) w h h')
  generalize codeOf F = q at *
  by_cases c5 : c = 3
  · have h6 := h5 c5
    subst c5
    clear h5
    have HB0 := Lib.hid (Below.refl w.heap.size w)
    go_enter Try.func8, Try.ntmps8
    go_wp2_with fail
    refine (HS.out).mono ?_
    rintro e w1 ⟨v1, rfl, hv1, hb1⟩
    have HB1 := Lib.hid (HB0.out.trans (hb1.mono HB0.out.size))
    have X_1 := Lib.hid (hv1)
    clear hb1 hv1
    go_wp2_with fail
    refine (HP.out w1).mono ?_
    rintro e w2 ⟨v2, rfl, hv2, hb2⟩
    have HB2 := Lib.hid (HB1.out.trans (hb2.mono HB1.out.size))
    have X_2 := Lib.hid (X_1.out.below hb2 (Nat.le_refl _))
    have Y_2 := Lib.hid (hv2)
    clear hb2 hv2
    go_wp2_with fail
    refine (HEq.out v1 v2 w2 X_2.out Y_2.out).mono ?_
    rintro e w3 ⟨rfl, hb3⟩
    have HB3 := Lib.hid (HB2.out.trans (hb3.mono HB2.out.size))
    have X_3 := Lib.hid (X_2.out.below hb3 (Nat.le_refl _))
    have Y_3 := Lib.hid (Y_2.out.below hb3 (Nat.le_refl _))
    clear hb3
    clear X_3
    clear Y_3
    go_wp2_with fail
    refine (HAw.out w3).mono ?_
    rintro e w4 ⟨rfl, hb4⟩
    have HB4 := Lib.hid (HB3.out.trans (hb4.mono HB3.out.size))
    clear hb4
    go_wp2
    go_ret
    exact ⟨rfl, HB4.out⟩
  · have d5 : ((c:Int) == 3) = false := beq_eq_false_iff_ne.2 (by omega)
    clear h5
    have HB0 := Lib.hid (Below.refl w.heap.size w)
    go_enter Try.func8, Try.ntmps8
    go_wp2_with fail
    refine (HS.out).mono ?_
    rintro e w1 ⟨v1, rfl, hv1, hb1⟩
    have HB1 := Lib.hid (HB0.out.trans (hb1.mono HB0.out.size))
    have X_1 := Lib.hid (hv1)
    clear hb1 hv1
    go_wp2_with fail
    refine (HP.out w1).mono ?_
    rintro e w2 ⟨v2, rfl, hv2, hb2⟩
    have HB2 := Lib.hid (HB1.out.trans (hb2.mono HB1.out.size))
    have X_2 := Lib.hid (X_1.out.below hb2 (Nat.le_refl _))
    have Y_2 := Lib.hid (hv2)
    clear hb2 hv2
    go_wp2_with fail
    refine (HEq.out v1 v2 w2 X_2.out Y_2.out).mono ?_
    rintro e w3 ⟨rfl, hb3⟩
    have HB3 := Lib.hid (HB2.out.trans (hb3.mono HB2.out.size))
    have X_3 := Lib.hid (X_2.out.below hb3 (Nat.le_refl _))
    have Y_3 := Lib.hid (Y_2.out.below hb3 (Nat.le_refl _))
    clear hb3
    clear X_3
    clear Y_3
    go_wp2_with fail
    refine (HAw.out w3).mono ?_
    rintro e w4 ⟨rfl, hb4⟩
    have HB4 := Lib.hid (HB3.out.trans (hb4.mono HB3.out.size))
    clear hb4
    go_wp2
    go_ret
    exact ⟨rfl, HB4.out⟩

set_option maxHeartbeats 2000000 in
set_option maxRecDepth 100000 in
theorem waerden4_law (n c : Nat) (w : World) (h1 : 1 ≤ n) (h2 : n ≤ 40) (h3 : 1 ≤ c) (h4 : c ≤ 3) (h5 : c = 3 → n ≤ 27) :
    Calls Try.prog 8 #[.int .i64 n, .int .i64 c, .int .i64 4] w fun e w' => e = .returned (.bool true) ∧ Below w.heap.size w w' := by
  have HS := Lib.hid (Waerden4_any n c w h1 h2 h3 h4 h5)
  have HP := Lib.hid (fun w => Paint_any 4 n c w (by omega) h2 h4)
  rw [show ruleK 4 = strideB 4 from rfl] at HP
  have HAw := Lib.hid (fun w => awake_any w)
  generalize firstN (strideB 4) c n [] = F at *
  have HEq := Lib.hid (fun v v' w h h' => equal_nats v v' (outL F []) w h h')
  generalize codeOf F = q at *
  by_cases c5 : c = 3
  · have h6 := h5 c5
    subst c5
    clear h5
    have HB0 := Lib.hid (Below.refl w.heap.size w)
    go_enter Try.func8, Try.ntmps8
    go_wp2_with fail
    refine (HS.out).mono ?_
    rintro e w1 ⟨v1, rfl, hv1, hb1⟩
    have HB1 := Lib.hid (HB0.out.trans (hb1.mono HB0.out.size))
    have X_1 := Lib.hid (hv1)
    clear hb1 hv1
    go_wp2_with fail
    refine (HP.out w1).mono ?_
    rintro e w2 ⟨v2, rfl, hv2, hb2⟩
    have HB2 := Lib.hid (HB1.out.trans (hb2.mono HB1.out.size))
    have X_2 := Lib.hid (X_1.out.below hb2 (Nat.le_refl _))
    have Y_2 := Lib.hid (hv2)
    clear hb2 hv2
    go_wp2_with fail
    refine (HEq.out v1 v2 w2 X_2.out Y_2.out).mono ?_
    rintro e w3 ⟨rfl, hb3⟩
    have HB3 := Lib.hid (HB2.out.trans (hb3.mono HB2.out.size))
    have X_3 := Lib.hid (X_2.out.below hb3 (Nat.le_refl _))
    have Y_3 := Lib.hid (Y_2.out.below hb3 (Nat.le_refl _))
    clear hb3
    clear X_3
    clear Y_3
    go_wp2_with fail
    refine (HAw.out w3).mono ?_
    rintro e w4 ⟨rfl, hb4⟩
    have HB4 := Lib.hid (HB3.out.trans (hb4.mono HB3.out.size))
    clear hb4
    go_wp2
    go_ret
    exact ⟨rfl, HB4.out⟩
  · have d5 : ((c:Int) == 3) = false := beq_eq_false_iff_ne.2 (by omega)
    clear h5
    have HB0 := Lib.hid (Below.refl w.heap.size w)
    go_enter Try.func8, Try.ntmps8
    go_wp2_with fail
    refine (HS.out).mono ?_
    rintro e w1 ⟨v1, rfl, hv1, hb1⟩
    have HB1 := Lib.hid (HB0.out.trans (hb1.mono HB0.out.size))
    have X_1 := Lib.hid (hv1)
    clear hb1 hv1
    go_wp2_with fail
    refine (HP.out w1).mono ?_
    rintro e w2 ⟨v2, rfl, hv2, hb2⟩
    have HB2 := Lib.hid (HB1.out.trans (hb2.mono HB1.out.size))
    have X_2 := Lib.hid (X_1.out.below hb2 (Nat.le_refl _))
    have Y_2 := Lib.hid (hv2)
    clear hb2 hv2
    go_wp2_with fail
    refine (HEq.out v1 v2 w2 X_2.out Y_2.out).mono ?_
    rintro e w3 ⟨rfl, hb3⟩
    have HB3 := Lib.hid (HB2.out.trans (hb3.mono HB2.out.size))
    have X_3 := Lib.hid (X_2.out.below hb3 (Nat.le_refl _))
    have Y_3 := Lib.hid (Y_2.out.below hb3 (Nat.le_refl _))
    clear hb3
    clear X_3
    clear Y_3
    go_wp2_with fail
    refine (HAw.out w3).mono ?_
    rintro e w4 ⟨rfl, hb4⟩
    have HB4 := Lib.hid (HB3.out.trans (hb4.mono HB3.out.size))
    clear hb4
    go_wp2
    go_ret
    exact ⟨rfl, HB4.out⟩

theorem capsWaerden_law (n c k : Int) (w : World) :
    Calls Try.prog 8 #[.int .i64 n, .int .i64 c, .int .i64 k] w fun e w' => e = .returned (.bool true) ∧ Below w.heap.size w w' := by
  cases h : waB n c k with
  | false => exact waerden_bad_law n c k w h
  | true =>
    obtain ⟨h1, h2, h3, h4⟩ := of_decide_eq_true h
    obtain ⟨n, rfl⟩ := Int.eq_ofNat_of_zero_le (show 0 ≤ n by omega)
    obtain ⟨c, rfl⟩ := Int.eq_ofNat_of_zero_le (show 0 ≤ c by omega)
    rcases h4 with rfl | rfl
    · exact waerden3_law n c w (by omega) (by omega) (by omega) (by omega) (by omega)
    · exact waerden4_law n c w (by omega) (by omega) (by omega) (by omega) (by omega)
end Go.Proofs.Ytlalfjkenkmojaa
