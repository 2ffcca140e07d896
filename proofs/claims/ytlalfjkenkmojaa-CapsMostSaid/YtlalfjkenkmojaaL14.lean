/- Long; CapsMirrored: the walk -/
import Derived.Test.YtlalfjkenkmojaaMm
import Derived.Test.YtlalfjkenkmojaaLi
import Derived.Test.YtlalfjkenkmojaaRg
namespace Go.Proofs.Ytlalfjkenkmojaa
open Go.RowKit

set_option maxHeartbeats 1000000 in
theorem Long_bad (n : Int) (w : World) (h : n < 1 ∨ 24 < n) : Calls Try.prog 33 #[.int .i64 n] w fun e w' => e = .returned (.tuple #[.int .i64 0, .int .i64 2]) ∧ Below w.heap.size w w' := by
  rcases h with h | h
  · go_enter Try.func33, Try.ntmps33
    go_wp2
    go_ret2
    exact ⟨rfl, Below.refl _ _⟩
  · have h' : ¬ n < 1 := by omega
    go_enter Try.func33, Try.ntmps33
    go_wp2
    go_ret2
    exact ⟨rfl, Below.refl _ _⟩
theorem longN_le (n : Nat) : longN n ≤ n := by
  obtain ⟨l, hl, hu, hb, _⟩ := longN_has n
  rw [← hl]
  have := (up_sub n l 1 hu fun x hx => by have := hb x hx; omega).length_le
  rwa [List.length_range'] at this
set_option maxHeartbeats 1000000 in
theorem Long_any (n : Nat) (w : World) (h1 : 1 ≤ n) (h2 : n ≤ 24) : Calls Try.prog 33 #[.int .i64 n] w fun e w' => e = .returned (.tuple #[.int .i64 (longN n : Nat), .int .i64 0]) ∧ Below w.heap.size w w' := by
  have hb := fun w => between_any 1 (n + 1) w (by omega) (by omega)
  rw [Nat.add_sub_cancel] at hb
  have hc : ((n + 1 : Nat) : Int) = (n : Int) + 1 := by omega
  rw [hc] at hb
  have HBt := Lib.hid hb
  have HLg := Lib.hid (fun v w (h : Nats w v (List.range' 1 n)) => longest_any (U := fun z => z ≤ 1000) endsRule endsB_mono (fun z hz => by omega) v (List.range' 1 n) (by rw [List.length_range']; omega) (fun l y _ hl hy => ⟨hy, hl⟩)
    (fun z hz => by rw [List.mem_range'_1] at hz; omega) w h)
  have HV : Hid ((longL endsB (List.range' 1 n)).length = longN n) := Lib.hid rfl
  clear hb hc
  generalize longL endsB (List.range' 1 n) = bs at *
  go_enter Try.func33, Try.ntmps33
  go_wp2_with fail
  refine (HBt.out _).mono ?_
  rintro e w1 ⟨v1, rfl, hv1, hb1⟩
  have HV1 := Lib.hid hv1
  have HB1 := Lib.hid hb1
  clear hv1 hb1
  go_wp2_with fail
  refine (HLg.out v1 w1 HV1.out).mono ?_
  rintro e w2 ⟨v2, rfl, ho2, hb2⟩
  have HB2 := Lib.hid (HB1.out.trans (hb2.mono HB1.out.size))
  obtain ⟨a2, c2, rfl⟩ := owns_form ho2
  clear ho2 hb2
  go_wp2
  go_ret2
  exact ⟨by rw [← HV.out]; rfl, HB2.out⟩

set_option maxHeartbeats 800000 in
set_option maxRecDepth 100000 in
theorem mirrored_bad (n : Int) (v : Value) (xs : List Int) (w : World) (hn : I64 n) (h : Ints w v xs) (hst : stB n xs = false) :
    Calls Try.prog 14 #[.int .i64 n, v] w fun e w' => e = .returned (.bool true) ∧ Below w.heap.size w w' := by
  have HL := Lib.hid (fun w' (hb : Below w.heap.size w w') => list_any v _ w' (h.below hb (Nat.le_refl _)))
  have HAw := Lib.hid (fun w => awake_any w)
  have HSt := Lib.hid (fun v' w' (h' : Ints w' v' (xs.take 90)) => Steps_bad n v' _ w' h' (by rw [stB_take, hst]))
  unfold I64 at hn
  clear h hst
  by_cases c1 : n < 1
  · have HF := Lib.hid (fun w => Long_bad n w (.inl c1))
    have HG := Lib.hid (fun w => Long_bad (wrap64 (n - 1)) w (by unfold wrap64; omega))
    clear hn
    have HB0 := Lib.hid (Below.refl w.heap.size w)
    go_enter Try.func14, Try.ntmps14
    go_wp2_with fail
    refine (HF.out w).mono ?_
    rintro e w1 ⟨rfl, hb1⟩
    have HB1 := Lib.hid (HB0.out.trans (hb1.mono HB0.out.size))
    clear hb1
    go_wp2_with fail
    refine (HG.out w1).mono ?_
    rintro e w2 ⟨rfl, hb2⟩
    have HB2 := Lib.hid (HB1.out.trans (hb2.mono HB1.out.size))
    clear hb2
    go_wp2_with fail
    refine (HL.out w2 HB2.out).mono ?_
    rintro e w3 ⟨v3, rfl, hv3, hb3⟩
    have HB3 := Lib.hid (HB2.out.trans (hb3.mono HB2.out.size))
    have A_3 := Lib.hid (hv3)
    clear hb3 hv3
    go_wp2_with fail
    refine (HSt.out v3 w3 A_3.out).mono ?_
    rintro e w' ⟨rfl, rfl⟩
    clear A_3
    go_wp2_with fail
    refine (HAw.out w3).mono ?_
    rintro e w4 ⟨rfl, hb4⟩
    have HB4 := Lib.hid (HB3.out.trans (hb4.mono HB3.out.size))
    clear hb4
    go_wp2
    go_ret
    exact ⟨rfl, HB4.out⟩
  by_cases c2 : n = 1
  · subst c2
    have HF := Lib.hid (fun w => Long_any 1 w (by decide) (by decide))
    have HG := Lib.hid (fun w => Long_bad 0 w (.inl (by decide)))
    generalize longN 1 = p at *
    have HB0 := Lib.hid (Below.refl w.heap.size w)
    go_enter Try.func14, Try.ntmps14
    go_wp2_with fail
    refine (HF.out w).mono ?_
    rintro e w1 ⟨rfl, hb1⟩
    have HB1 := Lib.hid (HB0.out.trans (hb1.mono HB0.out.size))
    clear hb1
    go_wp2_with fail
    refine (HG.out w1).mono ?_
    rintro e w2 ⟨rfl, hb2⟩
    have HB2 := Lib.hid (HB1.out.trans (hb2.mono HB1.out.size))
    clear hb2
    go_wp2_with fail
    refine (HL.out w2 HB2.out).mono ?_
    rintro e w3 ⟨v3, rfl, hv3, hb3⟩
    have HB3 := Lib.hid (HB2.out.trans (hb3.mono HB2.out.size))
    have A_3 := Lib.hid (hv3)
    clear hb3 hv3
    go_wp2_with fail
    refine (HSt.out v3 w3 A_3.out).mono ?_
    rintro e w' ⟨rfl, rfl⟩
    clear A_3
    go_wp2_with fail
    refine (HAw.out w3).mono ?_
    rintro e w4 ⟨rfl, hb4⟩
    have HB4 := Lib.hid (HB3.out.trans (hb4.mono HB3.out.size))
    clear hb4
    go_wp2
    go_ret
    exact ⟨rfl, HB4.out⟩
  by_cases c3 : n ≤ 24
  · obtain ⟨n, rfl⟩ := Int.eq_ofNat_of_zero_le (show 0 ≤ n by omega)
    have hn3 : n ≤ 24 := by omega
    have hn4 : 2 ≤ n := by omega
    have HF := Lib.hid (fun w => Long_any n w (by omega) (by omega))
    have hg := fun w => Long_any (n - 1) w (by omega) (by omega)
    rw [show ((n - 1 : Nat) : Int) = (n:Int) - 1 by omega] at hg
    have HG := Lib.hid hg
    have hs := longN_step (n - 1)
    rw [show n - 1 + 1 = n by omega] at hs
    have hq := longN_le (n - 1)
    have hq2 : longN (n - 1) ≤ 24 := by omega
    clear hg c2 hq
    generalize longN n = p at *
    generalize longN (n - 1) = q at *
    rcases hs with rfl | rfl
    · have HB0 := Lib.hid (Below.refl w.heap.size w)
      go_enter Try.func14, Try.ntmps14
      go_wp2_with fail
      refine (HF.out w).mono ?_
      rintro e w1 ⟨rfl, hb1⟩
      have HB1 := Lib.hid (HB0.out.trans (hb1.mono HB0.out.size))
      clear hb1
      go_wp2_with fail
      refine (HG.out w1).mono ?_
      rintro e w2 ⟨rfl, hb2⟩
      have HB2 := Lib.hid (HB1.out.trans (hb2.mono HB1.out.size))
      clear hb2
      go_wp2_with fail
      refine (HL.out w2 HB2.out).mono ?_
      rintro e w3 ⟨v3, rfl, hv3, hb3⟩
      have HB3 := Lib.hid (HB2.out.trans (hb3.mono HB2.out.size))
      have A_3 := Lib.hid (hv3)
      clear hb3 hv3
      go_wp2_with fail
      refine (HSt.out v3 w3 A_3.out).mono ?_
      rintro e w' ⟨rfl, rfl⟩
      clear A_3
      go_wp2_with fail
      refine (HAw.out w3).mono ?_
      rintro e w4 ⟨rfl, hb4⟩
      have HB4 := Lib.hid (HB3.out.trans (hb4.mono HB3.out.size))
      clear hb4
      go_wp2
      go_ret
      exact ⟨rfl, HB4.out⟩
    · have HB0 := Lib.hid (Below.refl w.heap.size w)
      go_enter Try.func14, Try.ntmps14
      go_wp2_with fail
      refine (HF.out w).mono ?_
      rintro e w1 ⟨rfl, hb1⟩
      have HB1 := Lib.hid (HB0.out.trans (hb1.mono HB0.out.size))
      clear hb1
      go_wp2_with fail
      refine (HG.out w1).mono ?_
      rintro e w2 ⟨rfl, hb2⟩
      have HB2 := Lib.hid (HB1.out.trans (hb2.mono HB1.out.size))
      clear hb2
      go_wp2_with fail
      refine (HL.out w2 HB2.out).mono ?_
      rintro e w3 ⟨v3, rfl, hv3, hb3⟩
      have HB3 := Lib.hid (HB2.out.trans (hb3.mono HB2.out.size))
      have A_3 := Lib.hid (hv3)
      clear hb3 hv3
      go_wp2_with fail
      refine (HSt.out v3 w3 A_3.out).mono ?_
      rintro e w' ⟨rfl, rfl⟩
      clear A_3
      go_wp2_with fail
      refine (HAw.out w3).mono ?_
      rintro e w4 ⟨rfl, hb4⟩
      have HB4 := Lib.hid (HB3.out.trans (hb4.mono HB3.out.size))
      clear hb4
      go_wp2
      go_ret
      exact ⟨rfl, HB4.out⟩
  by_cases c4 : n = 25
  · subst c4
    have HF := Lib.hid (fun w => Long_bad 25 w (.inr (by decide)))
    have HG := Lib.hid (fun w => Long_any 24 w (by decide) (by decide))
    generalize longN 24 = q at *
    have HB0 := Lib.hid (Below.refl w.heap.size w)
    go_enter Try.func14, Try.ntmps14
    go_wp2_with fail
    refine (HF.out w).mono ?_
    rintro e w1 ⟨rfl, hb1⟩
    have HB1 := Lib.hid (HB0.out.trans (hb1.mono HB0.out.size))
    clear hb1
    go_wp2_with fail
    refine (HG.out w1).mono ?_
    rintro e w2 ⟨rfl, hb2⟩
    have HB2 := Lib.hid (HB1.out.trans (hb2.mono HB1.out.size))
    clear hb2
    go_wp2_with fail
    refine (HL.out w2 HB2.out).mono ?_
    rintro e w3 ⟨v3, rfl, hv3, hb3⟩
    have HB3 := Lib.hid (HB2.out.trans (hb3.mono HB2.out.size))
    have A_3 := Lib.hid (hv3)
    clear hb3 hv3
    go_wp2_with fail
    refine (HSt.out v3 w3 A_3.out).mono ?_
    rintro e w' ⟨rfl, rfl⟩
    clear A_3
    go_wp2_with fail
    refine (HAw.out w3).mono ?_
    rintro e w4 ⟨rfl, hb4⟩
    have HB4 := Lib.hid (HB3.out.trans (hb4.mono HB3.out.size))
    clear hb4
    go_wp2
    go_ret
    exact ⟨rfl, HB4.out⟩
  have HF := Lib.hid (fun w => Long_bad n w (.inr (by omega)))
  have HG := Lib.hid (fun w => Long_bad (n - 1) w (.inr (by omega)))
  have HB0 := Lib.hid (Below.refl w.heap.size w)
  go_enter Try.func14, Try.ntmps14
  go_wp2_with fail
  refine (HF.out w).mono ?_
  rintro e w1 ⟨rfl, hb1⟩
  have HB1 := Lib.hid (HB0.out.trans (hb1.mono HB0.out.size))
  clear hb1
  go_wp2_with fail
  refine (HG.out w1).mono ?_
  rintro e w2 ⟨rfl, hb2⟩
  have HB2 := Lib.hid (HB1.out.trans (hb2.mono HB1.out.size))
  clear hb2
  go_wp2_with fail
  refine (HL.out w2 HB2.out).mono ?_
  rintro e w3 ⟨v3, rfl, hv3, hb3⟩
  have HB3 := Lib.hid (HB2.out.trans (hb3.mono HB2.out.size))
  have A_3 := Lib.hid (hv3)
  clear hb3 hv3
  go_wp2_with fail
  refine (HSt.out v3 w3 A_3.out).mono ?_
  rintro e w' ⟨rfl, rfl⟩
  clear A_3
  go_wp2_with fail
  refine (HAw.out w3).mono ?_
  rintro e w4 ⟨rfl, hb4⟩
  have HB4 := Lib.hid (HB3.out.trans (hb4.mono HB3.out.size))
  clear hb4
  go_wp2
  go_ret
  exact ⟨rfl, HB4.out⟩
end Go.Proofs.Ytlalfjkenkmojaa
