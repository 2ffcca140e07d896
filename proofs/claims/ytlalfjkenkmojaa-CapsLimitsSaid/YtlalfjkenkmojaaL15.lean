/- CapsLimits: the walk where the numbers are none, and all walks together -/
import Derived.Test.YtlalfjkenkmojaaZa
import Derived.Test.YtlalfjkenkmojaaZb
import Derived.Test.YtlalfjkenkmojaaZc
import Derived.Test.YtlalfjkenkmojaaZd
import Derived.Test.YtlalfjkenkmojaaZe
import Derived.Test.YtlalfjkenkmojaaZf
import Derived.Test.YtlalfjkenkmojaaZg
import Derived.Test.YtlalfjkenkmojaaZh
namespace Go.Proofs.Ytlalfjkenkmojaa
open Go.RowKit

set_option maxHeartbeats 2000000 in
set_option maxRecDepth 100000 in
theorem limits_bad (n c k : Int) (w : World) (h : colB n c = false) :
    Calls Try.prog 15 #[.int .i64 n, .int .i64 c, .int .i64 k] w fun e w' => e = .returned (.bool true) ∧ Below w.heap.size w w' := by
  have HS := Lib.hid (fun w => Schur_bad n c w h)
  have HAw := Lib.hid (fun w => awake_any w)
  have hh : n < 1 ∨ 40 < n ∨ c < 1 ∨ 3 < c := by
    unfold colB isCountB at h
    simp only [Bool.and_eq_false_iff, decide_eq_false_iff_not] at h
    omega
  have HW := Lib.hid (fun w => Waerden_bad n c k w (decide_eq_false (by omega)))
  clear h
  by_cases cnl1 : n < 1
  · have HB0 := Lib.hid (Below.refl w.heap.size w)
    go_enter Try.func15, Try.ntmps15
    go_wp2_with fail
    refine (HS.out w).mono ?_
    rintro e w' ⟨rfl, rfl⟩
    go_wp2_with fail
    refine (HW.out w).mono ?_
    rintro e w' ⟨rfl, rfl⟩
    go_wp2_with fail
    refine (HAw.out w).mono ?_
    rintro e w1 ⟨rfl, hb1⟩
    have HB1 := Lib.hid (HB0.out.trans (hb1.mono HB0.out.size))
    clear hb1
    go_wp2
    go_ret
    exact ⟨rfl, HB1.out⟩
  by_cases c40ln : 40 < n
  · have HB0 := Lib.hid (Below.refl w.heap.size w)
    go_enter Try.func15, Try.ntmps15
    go_wp2_with fail
    refine (HS.out w).mono ?_
    rintro e w' ⟨rfl, rfl⟩
    go_wp2_with fail
    refine (HW.out w).mono ?_
    rintro e w' ⟨rfl, rfl⟩
    go_wp2_with fail
    refine (HAw.out w).mono ?_
    rintro e w1 ⟨rfl, hb1⟩
    have HB1 := Lib.hid (HB0.out.trans (hb1.mono HB0.out.size))
    clear hb1
    go_wp2
    go_ret
    exact ⟨rfl, HB1.out⟩
  by_cases ccl1 : c < 1
  · have HB0 := Lib.hid (Below.refl w.heap.size w)
    go_enter Try.func15, Try.ntmps15
    go_wp2_with fail
    refine (HS.out w).mono ?_
    rintro e w' ⟨rfl, rfl⟩
    go_wp2_with fail
    refine (HW.out w).mono ?_
    rintro e w' ⟨rfl, rfl⟩
    go_wp2_with fail
    refine (HAw.out w).mono ?_
    rintro e w1 ⟨rfl, hb1⟩
    have HB1 := Lib.hid (HB0.out.trans (hb1.mono HB0.out.size))
    clear hb1
    go_wp2
    go_ret
    exact ⟨rfl, HB1.out⟩
  have c4 : 3 < c := by omega
  have HB0 := Lib.hid (Below.refl w.heap.size w)
  go_enter Try.func15, Try.ntmps15
  go_wp2_with fail
  refine (HS.out w).mono ?_
  rintro e w' ⟨rfl, rfl⟩
  go_wp2_with fail
  refine (HW.out w).mono ?_
  rintro e w' ⟨rfl, rfl⟩
  go_wp2_with fail
  refine (HAw.out w).mono ?_
  rintro e w1 ⟨rfl, hb1⟩
  have HB1 := Lib.hid (HB0.out.trans (hb1.mono HB0.out.size))
  clear hb1
  go_wp2
  go_ret
  exact ⟨rfl, HB1.out⟩

theorem capsLimits_law (n c k : Int) (w : World) :
    Calls Try.prog 15 #[.int .i64 n, .int .i64 c, .int .i64 k] w fun e w' => e = .returned (.bool true) ∧ Below w.heap.size w w' := by
  cases h : colB n c with
  | false => exact limits_bad n c k w h
  | true =>
    unfold colB isCountB at h
    simp only [Bool.and_eq_true, decide_eq_true_eq] at h
    obtain ⟨n, rfl⟩ := Int.eq_ofNat_of_zero_le (show 0 ≤ n by omega)
    obtain ⟨c, rfl⟩ := Int.eq_ofNat_of_zero_le (show 0 ≤ c by omega)
    have h1 : 1 ≤ n := by omega
    have h2 : n ≤ 40 := by omega
    have h3 : 1 ≤ c := by omega
    have h4 : c ≤ 3 := by omega
    cases hw : waB n c k with
    | false =>
      by_cases hs : n ≤ limS c
      · exact limits_ok_arg n c k w h1 h2 h3 h4 hs hw
      · exact limits_none_arg n c k w h1 h2 h3 h4 (by omega) hw
    | true =>
      have hw := of_decide_eq_true hw
      have h5 : c = 3 → n ≤ 27 := fun e => by have := hw.2.2.1 (by omega); omega
      rcases hw.2.2.2 with rfl | rfl
      · by_cases hs : n ≤ limS c
        · exact limits_ok_ok3 n c w h1 h2 h3 h4 hs h5 (lim_le h3 h4 h5 hs).1
        · by_cases hW : n ≤ limW c
          · exact limits_none_ok3 n c w h1 h2 h3 h4 (by omega) h5 hW
          · exact limits_none_none3 n c w h1 h2 h3 h4 (by omega) h5 (by omega)
      · by_cases hs : n ≤ limS c
        · exact limits_ok_ok4 n c w h1 h2 h3 h4 hs h5 (lim_le h3 h4 h5 hs).2
        · by_cases hW : n ≤ limV c
          · exact limits_none_ok4 n c w h1 h2 h3 h4 (by omega) h5 hW
          · exact limits_none_none4 n c w h1 h2 h3 h4 (by omega) h5 (by omega)
end Go.Proofs.Ytlalfjkenkmojaa
