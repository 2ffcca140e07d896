/- CapsMirrored: the walk where the slice is one -/
import Derived.Test.YtlalfjkenkmojaaL14
namespace Go.Proofs.Ytlalfjkenkmojaa
open Go.RowKit

set_option maxHeartbeats 1600000 in
set_option maxRecDepth 100000 in
theorem mirrored_one (n : Nat) (v : Value) (l : List Nat) (w : World) (h : Nats w v l) (hs : Sts n l) (hn : n = 1) :
    Calls Try.prog 14 #[.int .i64 n, v] w fun e w' => e = .returned (.bool true) ∧ Below w.heap.size w w' := by
  subst hn
  have HL := Lib.hid (fun w' (hb : Below w.heap.size w w') => list_any v _ w' (h.below hb (Nat.le_refl _)))
  rw [nats_take90 (by have := hs.len; omega)] at HL
  have HAw := Lib.hid (fun w => awake_any w)
  have HSt := Lib.hid (fun v' w' (h' : Nats w' v' l) => Steps_any 1 v' l w' hs h')
  have hm : Sts 1 (mirL 1 l) := ⟨hs.lo, hs.hi, mirL_up hs.up hs.bd, mirL_bd hs.bd⟩
  have HSt2 := Lib.hid (fun v' w' (h' : Nats w' v' (mirL 1 l)) => Steps_any 1 v' _ w' hm h')
  rw [mirL_steps hs.up hs.bd] at HSt2
  have HMb : Hid (∀ x ∈ mirL 1 l, x < 65536) := Lib.hid fun x hx => by have := hm.b41 x hx; omega
  have HSn := Lib.hid (fun k (hk : k < l.length) => mirL_snoc (n := 1) hk)
  have HBd := Lib.hid hs.bd
  have hlen := hs.len
  have hn1 := hs.lo
  have hn2 := hs.hi
  have HMo := Lib.hid (fun (hq : stepsR l = true) => longN_most hs.up hs.bd hq)
  obtain ⟨ao, cap, rfl, h1, h2, hxx⟩ := h.open
  have HX := Lib.hid hxx
  obtain ⟨i0, hi, hz0, hz1, hz2⟩ := info_parts Try.info3
  clear h hs hm hxx
  have HF := Lib.hid (fun w => Long_any 1 w (by decide) (by decide))
  have HG := Lib.hid (fun w => Long_bad 0 w (.inl (by decide)))
  cases hq : stepsR l with
  | true =>
    have hle := HMo.out hq
    rw [hq] at HSt HSt2
    clear hq HMo
    generalize longN 1 = p at *
    have HB0 := Lib.hid (Below.refl w.heap.size w)
    go_enter Try.func14, Try.ntmps14
    go_wp2_with fail
    refine (HF.out w).mono ?_
    rintro e w1 ⟨rfl, hb1⟩
    have HB1 := Lib.hid (HB0.out.trans (hb1.mono HB0.out.size))
    clear hb1
    go_wp2_with fail
    refine (HG.out w1).mono ?_
    rintro e w2 ⟨rfl, hb2⟩
    have HB2 := Lib.hid (HB1.out.trans (hb2.mono HB1.out.size))
    clear hb2
    go_wp2_with fail
    refine (HL.out w2 HB2.out).mono ?_
    rintro e w3 ⟨v3, rfl, hv3, hb3⟩
    have HB3 := Lib.hid (HB2.out.trans (hb3.mono HB2.out.size))
    have A_3 := Lib.hid (hv3)
    clear hb3 hv3
    go_wp2_with fail
    refine (HSt.out v3 w3 A_3.out).mono ?_
    rintro e w4 ⟨rfl, hb4⟩
    have HB4 := Lib.hid (HB3.out.trans (hb4.mono HB3.out.size))
    have A_4 := Lib.hid (A_3.out.below hb4 (Nat.le_refl _))
    clear hb4
    clear A_4
    go_wp2_with fail
    go_loopw [11, 12] (fun s i wr => ∃ k : Nat, k ≤ l.length ∧ i = .int .i64 ((l.length : Int) - 1 - k) ∧ wr.ownsRow w.heap.size 3 1 s ((mirL 1 l).take k).length (ints (nats ((mirL 1 l).take k))) ∧ Below w.heap.size w wr) (fun _ i _ => (intOf i + 1).toNat)
    case atStart => exact ⟨0, Nat.zero_le _, vint (by omega), World.ownsRow_nil _ _ _ _, HB4.out⟩
    case round =>
      clear HB4
      obtain ⟨k, hk, rfl, hO, hb⟩ := hrel
      have HO := Lib.hid hO
      have HB := Lib.hid hb
      obtain ⟨ao', c', rfl⟩ := owns_form hO
      clear hO hb
      by_cases hlt : k < l.length
      · obtain ⟨b, o, rfl, hck⟩ := HX.out (l.length - 1 - k) (by omega)
        have hck' := ck hck HB.out
        have hz := HBd.out _ (natD_mem (show l.length - 1 - k < l.length by omega))
        have HS := Lib.hid (HSn.out k hlt)
        have hll : ((mirL 1 l).take k).length ≤ 100 := by rw [List.length_take]; omega
        clear hck
        generalize l.getD (l.length - 1 - k) 0 = z at *
        generalize (mirL 1 l).take k = tp at *
        go_wp2_with (at_builtin; refine wpList_append_own _ rfl _ _ 22 rfl w.heap.size 3 i0 (.int .i64 0) 1 8 Try.underlying22 hi hz0 hz1 hz2 rfl (by decide) _ _ _ rfl (HO.out.alloc _) ⟨wr.heap.size, 0, none⟩ 1 1 [.int .i64 ((2:Int) - (z:Int))] rfl rfl (newOne _ _ _) (oneInt _) (by unfold maxLen; omega) (by omega) (by have := HB.out.size; simp; omega) ?_)
        intro v' w2 hown' hgrow _
        rw [show (2:Int) - (z:Int) = ((1 + 1 - z : Nat) : Int) by omega] at hown'
        have HR := Lib.hid (nat_step HO.out HB.out HB.out.size hown' hgrow)
        clear hown' hgrow
        go_wp2
        go_roundw
        case rel => exact ⟨k + 1, by omega, vint (by omega), by rw [HS.out]; exact HR.out.1, HR.out.2⟩
        case measure => simp [intOf]; omega
      · obtain rfl : k = l.length := by omega
        have HV : Hid (Nats wr (.slice ao' ((mirL 1 l).take l.length).length c') (mirL 1 l)) := Lib.hid (by
          have h := HO.out
          have e : (mirL 1 l).take l.length = mirL 1 l := List.take_of_length_le (by rw [mirL_length]; exact Nat.le_refl _)
          simp only [e] at h ⊢
          exact Nats.of_owns h (by rw [mirL_length]; omega) fun x hx => by have := HMb.out x hx; omega)
        have HS2 := Lib.hid (HSt2.out _ wr HV.out)
        generalize (mirL 1 l).take l.length = tp at *
        clear HO
        go_wp2_with fail
        refine HS2.out.mono ?_
        rintro e w8 ⟨rfl, hb8⟩
        have HB8 := Lib.hid (HB.out.trans (hb8.mono HB.out.size))
        clear hb8 HV HS2
        go_wp2_with fail
        refine (HAw.out w8).mono ?_
        rintro e w9 ⟨rfl, hb9⟩
        have HB9 := Lib.hid (HB8.out.trans (hb9.mono HB8.out.size))
        clear hb9
        go_wp2
        go_ret
        exact ⟨rfl, HB9.out⟩
  | false =>
    rw [hq] at HSt HSt2
    clear hq HMo
    generalize longN 1 = p at *
    have HB0 := Lib.hid (Below.refl w.heap.size w)
    go_enter Try.func14, Try.ntmps14
    go_wp2_with fail
    refine (HF.out w).mono ?_
    rintro e w1 ⟨rfl, hb1⟩
    have HB1 := Lib.hid (HB0.out.trans (hb1.mono HB0.out.size))
    clear hb1
    go_wp2_with fail
    refine (HG.out w1).mono ?_
    rintro e w2 ⟨rfl, hb2⟩
    have HB2 := Lib.hid (HB1.out.trans (hb2.mono HB1.out.size))
    clear hb2
    go_wp2_with fail
    refine (HL.out w2 HB2.out).mono ?_
    rintro e w3 ⟨v3, rfl, hv3, hb3⟩
    have HB3 := Lib.hid (HB2.out.trans (hb3.mono HB2.out.size))
    have A_3 := Lib.hid (hv3)
    clear hb3 hv3
    go_wp2_with fail
    refine (HSt.out v3 w3 A_3.out).mono ?_
    rintro e w4 ⟨rfl, hb4⟩
    have HB4 := Lib.hid (HB3.out.trans (hb4.mono HB3.out.size))
    have A_4 := Lib.hid (A_3.out.below hb4 (Nat.le_refl _))
    clear hb4
    clear A_4
    go_wp2_with fail
    go_loopw [11, 12] (fun s i wr => ∃ k : Nat, k ≤ l.length ∧ i = .int .i64 ((l.length : Int) - 1 - k) ∧ wr.ownsRow w.heap.size 3 1 s ((mirL 1 l).take k).length (ints (nats ((mirL 1 l).take k))) ∧ Below w.heap.size w wr) (fun _ i _ => (intOf i + 1).toNat)
    case atStart => exact ⟨0, Nat.zero_le _, vint (by omega), World.ownsRow_nil _ _ _ _, HB4.out⟩
    case round =>
      clear HB4
      obtain ⟨k, hk, rfl, hO, hb⟩ := hrel
      have HO := Lib.hid hO
      have HB := Lib.hid hb
      obtain ⟨ao', c', rfl⟩ := owns_form hO
      clear hO hb
      by_cases hlt : k < l.length
      · obtain ⟨b, o, rfl, hck⟩ := HX.out (l.length - 1 - k) (by omega)
        have hck' := ck hck HB.out
        have hz := HBd.out _ (natD_mem (show l.length - 1 - k < l.length by omega))
        have HS := Lib.hid (HSn.out k hlt)
        have hll : ((mirL 1 l).take k).length ≤ 100 := by rw [List.length_take]; omega
        clear hck
        generalize l.getD (l.length - 1 - k) 0 = z at *
        generalize (mirL 1 l).take k = tp at *
        go_wp2_with (at_builtin; refine wpList_append_own _ rfl _ _ 22 rfl w.heap.size 3 i0 (.int .i64 0) 1 8 Try.underlying22 hi hz0 hz1 hz2 rfl (by decide) _ _ _ rfl (HO.out.alloc _) ⟨wr.heap.size, 0, none⟩ 1 1 [.int .i64 ((2:Int) - (z:Int))] rfl rfl (newOne _ _ _) (oneInt _) (by unfold maxLen; omega) (by omega) (by have := HB.out.size; simp; omega) ?_)
        intro v' w2 hown' hgrow _
        rw [show (2:Int) - (z:Int) = ((1 + 1 - z : Nat) : Int) by omega] at hown'
        have HR := Lib.hid (nat_step HO.out HB.out HB.out.size hown' hgrow)
        clear hown' hgrow
        go_wp2
        go_roundw
        case rel => exact ⟨k + 1, by omega, vint (by omega), by rw [HS.out]; exact HR.out.1, HR.out.2⟩
        case measure => simp [intOf]; omega
      · obtain rfl : k = l.length := by omega
        have HV : Hid (Nats wr (.slice ao' ((mirL 1 l).take l.length).length c') (mirL 1 l)) := Lib.hid (by
          have h := HO.out
          have e : (mirL 1 l).take l.length = mirL 1 l := List.take_of_length_le (by rw [mirL_length]; exact Nat.le_refl _)
          simp only [e] at h ⊢
          exact Nats.of_owns h (by rw [mirL_length]; omega) fun x hx => by have := HMb.out x hx; omega)
        have HS2 := Lib.hid (HSt2.out _ wr HV.out)
        generalize (mirL 1 l).take l.length = tp at *
        clear HO
        go_wp2_with fail
        refine HS2.out.mono ?_
        rintro e w8 ⟨rfl, hb8⟩
        have HB8 := Lib.hid (HB.out.trans (hb8.mono HB.out.size))
        clear hb8 HV HS2
        go_wp2_with fail
        refine (HAw.out w8).mono ?_
        rintro e w9 ⟨rfl, hb9⟩
        have HB9 := Lib.hid (HB8.out.trans (hb9.mono HB8.out.size))
        clear hb9
        go_wp2
        go_ret
        exact ⟨rfl, HB9.out⟩

set_option maxHeartbeats 1600000 in
set_option maxRecDepth 100000 in
theorem mirrored_mid (n : Nat) (v : Value) (l : List Nat) (w : World) (h : Nats w v l) (hs : Sts n l) (hn : 2 ≤ n) (hn3 : n ≤ 24) :
    Calls Try.prog 14 #[.int .i64 n, v] w fun e w' => e = .returned (.bool true) ∧ Below w.heap.size w w' := by
  have HL := Lib.hid (fun w' (hb : Below w.heap.size w w') => list_any v _ w' (h.below hb (Nat.le_refl _)))
  rw [nats_take90 (by have := hs.len; omega)] at HL
  have HAw := Lib.hid (fun w => awake_any w)
  have HSt := Lib.hid (fun v' w' (h' : Nats w' v' l) => Steps_any n v' l w' hs h')
  have hm : Sts n (mirL n l) := ⟨hs.lo, hs.hi, mirL_up hs.up hs.bd, mirL_bd hs.bd⟩
  have HSt2 := Lib.hid (fun v' w' (h' : Nats w' v' (mirL n l)) => Steps_any n v' _ w' hm h')
  rw [mirL_steps hs.up hs.bd] at HSt2
  have HMb : Hid (∀ x ∈ mirL n l, x < 65536) := Lib.hid fun x hx => by have := hm.b41 x hx; omega
  have HSn := Lib.hid (fun k (hk : k < l.length) => mirL_snoc (n := n) hk)
  have HBd := Lib.hid hs.bd
  have hlen := hs.len
  have hn1 := hs.lo
  have hn2 := hs.hi
  have HMo := Lib.hid (fun (hq : stepsR l = true) => longN_most hs.up hs.bd hq)
  obtain ⟨ao, cap, rfl, h1, h2, hxx⟩ := h.open
  have HX := Lib.hid hxx
  obtain ⟨i0, hi, hz0, hz1, hz2⟩ := info_parts Try.info3
  clear h hs hm hxx
  have HF := Lib.hid (fun w => Long_any n w (by omega) (by omega))
  have hg := fun w => Long_any (n - 1) w (by omega) (by omega)
  rw [show ((n - 1 : Nat) : Int) = (n:Int) - 1 by omega] at hg
  have HG := Lib.hid hg
  have hst := longN_step (n - 1)
  rw [show n - 1 + 1 = n by omega] at hst
  have hq := longN_le (n - 1)
  have hq2 : longN (n - 1) ≤ 24 := by omega
  clear hg hq
  generalize longN n = p at *
  generalize longN (n - 1) = q at *
  rcases hst with rfl | rfl
  · cases hq : stepsR l with
    | true =>
      have hle := HMo.out hq
      rw [hq] at HSt HSt2
      clear hq HMo
      skip
      have HB0 := Lib.hid (Below.refl w.heap.size w)
      go_enter Try.func14, Try.ntmps14
      go_wp2_with fail
      refine (HF.out w).mono ?_
      rintro e w1 ⟨rfl, hb1⟩
      have HB1 := Lib.hid (HB0.out.trans (hb1.mono HB0.out.size))
      clear hb1
      go_wp2_with fail
      refine (HG.out w1).mono ?_
      rintro e w2 ⟨rfl, hb2⟩
      have HB2 := Lib.hid (HB1.out.trans (hb2.mono HB1.out.size))
      clear hb2
      go_wp2_with fail
      refine (HL.out w2 HB2.out).mono ?_
      rintro e w3 ⟨v3, rfl, hv3, hb3⟩
      have HB3 := Lib.hid (HB2.out.trans (hb3.mono HB2.out.size))
      have A_3 := Lib.hid (hv3)
      clear hb3 hv3
      go_wp2_with fail
      refine (HSt.out v3 w3 A_3.out).mono ?_
      rintro e w4 ⟨rfl, hb4⟩
      have HB4 := Lib.hid (HB3.out.trans (hb4.mono HB3.out.size))
      have A_4 := Lib.hid (A_3.out.below hb4 (Nat.le_refl _))
      clear hb4
      clear A_4
      go_wp2_with fail
      go_loopw [11, 12] (fun s i wr => ∃ k : Nat, k ≤ l.length ∧ i = .int .i64 ((l.length : Int) - 1 - k) ∧ wr.ownsRow w.heap.size 3 1 s ((mirL n l).take k).length (ints (nats ((mirL n l).take k))) ∧ Below w.heap.size w wr) (fun _ i _ => (intOf i + 1).toNat)
      case atStart => exact ⟨0, Nat.zero_le _, vint (by omega), World.ownsRow_nil _ _ _ _, HB4.out⟩
      case round =>
        clear HB4
        obtain ⟨k, hk, rfl, hO, hb⟩ := hrel
        have HO := Lib.hid hO
        have HB := Lib.hid hb
        obtain ⟨ao', c', rfl⟩ := owns_form hO
        clear hO hb
        by_cases hlt : k < l.length
        · obtain ⟨b, o, rfl, hck⟩ := HX.out (l.length - 1 - k) (by omega)
          have hck' := ck hck HB.out
          have hz := HBd.out _ (natD_mem (show l.length - 1 - k < l.length by omega))
          have HS := Lib.hid (HSn.out k hlt)
          have hll : ((mirL n l).take k).length ≤ 100 := by rw [List.length_take]; omega
          clear hck
          generalize l.getD (l.length - 1 - k) 0 = z at *
          generalize (mirL n l).take k = tp at *
          go_wp2_with (at_builtin; refine wpList_append_own _ rfl _ _ 22 rfl w.heap.size 3 i0 (.int .i64 0) 1 8 Try.underlying22 hi hz0 hz1 hz2 rfl (by decide) _ _ _ rfl (HO.out.alloc _) ⟨wr.heap.size, 0, none⟩ 1 1 [.int .i64 ((n:Int) + 1 - (z:Int))] rfl rfl (newOne _ _ _) (oneInt _) (by unfold maxLen; omega) (by omega) (by have := HB.out.size; simp; omega) ?_)
          intro v' w2 hown' hgrow _
          rw [show (n:Int) + 1 - (z:Int) = ((n + 1 - z : Nat) : Int) by omega] at hown'
          have HR := Lib.hid (nat_step HO.out HB.out HB.out.size hown' hgrow)
          clear hown' hgrow
          go_wp2
          go_roundw
          case rel => exact ⟨k + 1, by omega, vint (by omega), by rw [HS.out]; exact HR.out.1, HR.out.2⟩
          case measure => simp [intOf]; omega
        · obtain rfl : k = l.length := by omega
          have HV : Hid (Nats wr (.slice ao' ((mirL n l).take l.length).length c') (mirL n l)) := Lib.hid (by
            have h := HO.out
            have e : (mirL n l).take l.length = mirL n l := List.take_of_length_le (by rw [mirL_length]; exact Nat.le_refl _)
            simp only [e] at h ⊢
            exact Nats.of_owns h (by rw [mirL_length]; omega) fun x hx => by have := HMb.out x hx; omega)
          have HS2 := Lib.hid (HSt2.out _ wr HV.out)
          generalize (mirL n l).take l.length = tp at *
          clear HO
          go_wp2_with fail
          refine HS2.out.mono ?_
          rintro e w8 ⟨rfl, hb8⟩
          have HB8 := Lib.hid (HB.out.trans (hb8.mono HB.out.size))
          clear hb8 HV HS2
          go_wp2_with fail
          refine (HAw.out w8).mono ?_
          rintro e w9 ⟨rfl, hb9⟩
          have HB9 := Lib.hid (HB8.out.trans (hb9.mono HB8.out.size))
          clear hb9
          go_wp2
          go_ret
          exact ⟨rfl, HB9.out⟩
    | false =>
      rw [hq] at HSt HSt2
      clear hq HMo
      skip
      have HB0 := Lib.hid (Below.refl w.heap.size w)
      go_enter Try.func14, Try.ntmps14
      go_wp2_with fail
      refine (HF.out w).mono ?_
      rintro e w1 ⟨rfl, hb1⟩
      have HB1 := Lib.hid (HB0.out.trans (hb1.mono HB0.out.size))
      clear hb1
      go_wp2_with fail
      refine (HG.out w1).mono ?_
      rintro e w2 ⟨rfl, hb2⟩
      have HB2 := Lib.hid (HB1.out.trans (hb2.mono HB1.out.size))
      clear hb2
      go_wp2_with fail
      refine (HL.out w2 HB2.out).mono ?_
      rintro e w3 ⟨v3, rfl, hv3, hb3⟩
      have HB3 := Lib.hid (HB2.out.trans (hb3.mono HB2.out.size))
      have A_3 := Lib.hid (hv3)
      clear hb3 hv3
      go_wp2_with fail
      refine (HSt.out v3 w3 A_3.out).mono ?_
      rintro e w4 ⟨rfl, hb4⟩
      have HB4 := Lib.hid (HB3.out.trans (hb4.mono HB3.out.size))
      have A_4 := Lib.hid (A_3.out.below hb4 (Nat.le_refl _))
      clear hb4
      clear A_4
      go_wp2_with fail
      go_loopw [11, 12] (fun s i wr => ∃ k : Nat, k ≤ l.length ∧ i = .int .i64 ((l.length : Int) - 1 - k) ∧ wr.ownsRow w.heap.size 3 1 s ((mirL n l).take k).length (ints (nats ((mirL n l).take k))) ∧ Below w.heap.size w wr) (fun _ i _ => (intOf i + 1).toNat)
      case atStart => exact ⟨0, Nat.zero_le _, vint (by omega), World.ownsRow_nil _ _ _ _, HB4.out⟩
      case round =>
        clear HB4
        obtain ⟨k, hk, rfl, hO, hb⟩ := hrel
        have HO := Lib.hid hO
        have HB := Lib.hid hb
        obtain ⟨ao', c', rfl⟩ := owns_form hO
        clear hO hb
        by_cases hlt : k < l.length
        · obtain ⟨b, o, rfl, hck⟩ := HX.out (l.length - 1 - k) (by omega)
          have hck' := ck hck HB.out
          have hz := HBd.out _ (natD_mem (show l.length - 1 - k < l.length by omega))
          have HS := Lib.hid (HSn.out k hlt)
          have hll : ((mirL n l).take k).length ≤ 100 := by rw [List.length_take]; omega
          clear hck
          generalize l.getD (l.length - 1 - k) 0 = z at *
          generalize (mirL n l).take k = tp at *
          go_wp2_with (at_builtin; refine wpList_append_own _ rfl _ _ 22 rfl w.heap.size 3 i0 (.int .i64 0) 1 8 Try.underlying22 hi hz0 hz1 hz2 rfl (by decide) _ _ _ rfl (HO.out.alloc _) ⟨wr.heap.size, 0, none⟩ 1 1 [.int .i64 ((n:Int) + 1 - (z:Int))] rfl rfl (newOne _ _ _) (oneInt _) (by unfold maxLen; omega) (by omega) (by have := HB.out.size; simp; omega) ?_)
          intro v' w2 hown' hgrow _
          rw [show (n:Int) + 1 - (z:Int) = ((n + 1 - z : Nat) : Int) by omega] at hown'
          have HR := Lib.hid (nat_step HO.out HB.out HB.out.size hown' hgrow)
          clear hown' hgrow
          go_wp2
          go_roundw
          case rel => exact ⟨k + 1, by omega, vint (by omega), by rw [HS.out]; exact HR.out.1, HR.out.2⟩
          case measure => simp [intOf]; omega
        · obtain rfl : k = l.length := by omega
          have HV : Hid (Nats wr (.slice ao' ((mirL n l).take l.length).length c') (mirL n l)) := Lib.hid (by
            have h := HO.out
            have e : (mirL n l).take l.length = mirL n l := List.take_of_length_le (by rw [mirL_length]; exact Nat.le_refl _)
            simp only [e] at h ⊢
            exact Nats.of_owns h (by rw [mirL_length]; omega) fun x hx => by have := HMb.out x hx; omega)
          have HS2 := Lib.hid (HSt2.out _ wr HV.out)
          generalize (mirL n l).take l.length = tp at *
          clear HO
          go_wp2_with fail
          refine HS2.out.mono ?_
          rintro e w8 ⟨rfl, hb8⟩
          have HB8 := Lib.hid (HB.out.trans (hb8.mono HB.out.size))
          clear hb8 HV HS2
          go_wp2_with fail
          refine (HAw.out w8).mono ?_
          rintro e w9 ⟨rfl, hb9⟩
          have HB9 := Lib.hid (HB8.out.trans (hb9.mono HB8.out.size))
          clear hb9
          go_wp2
          go_ret
          exact ⟨rfl, HB9.out⟩
  · cases hq : stepsR l with
    | true =>
      have hle := HMo.out hq
      rw [hq] at HSt HSt2
      clear hq HMo
      skip
      have HB0 := Lib.hid (Below.refl w.heap.size w)
      go_enter Try.func14, Try.ntmps14
      go_wp2_with fail
      refine (HF.out w).mono ?_
      rintro e w1 ⟨rfl, hb1⟩
      have HB1 := Lib.hid (HB0.out.trans (hb1.mono HB0.out.size))
      clear hb1
      go_wp2_with fail
      refine (HG.out w1).mono ?_
      rintro e w2 ⟨rfl, hb2⟩
      have HB2 := Lib.hid (HB1.out.trans (hb2.mono HB1.out.size))
      clear hb2
      go_wp2_with fail
      refine (HL.out w2 HB2.out).mono ?_
      rintro e w3 ⟨v3, rfl, hv3, hb3⟩
      have HB3 := Lib.hid (HB2.out.trans (hb3.mono HB2.out.size))
      have A_3 := Lib.hid (hv3)
      clear hb3 hv3
      go_wp2_with fail
      refine (HSt.out v3 w3 A_3.out).mono ?_
      rintro e w4 ⟨rfl, hb4⟩
      have HB4 := Lib.hid (HB3.out.trans (hb4.mono HB3.out.size))
      have A_4 := Lib.hid (A_3.out.below hb4 (Nat.le_refl _))
      clear hb4
      clear A_4
      go_wp2_with fail
      go_loopw [11, 12] (fun s i wr => ∃ k : Nat, k ≤ l.length ∧ i = .int .i64 ((l.length : Int) - 1 - k) ∧ wr.ownsRow w.heap.size 3 1 s ((mirL n l).take k).length (ints (nats ((mirL n l).take k))) ∧ Below w.heap.size w wr) (fun _ i _ => (intOf i + 1).toNat)
      case atStart => exact ⟨0, Nat.zero_le _, vint (by omega), World.ownsRow_nil _ _ _ _, HB4.out⟩
      case round =>
        clear HB4
        obtain ⟨k, hk, rfl, hO, hb⟩ := hrel
        have HO := Lib.hid hO
        have HB := Lib.hid hb
        obtain ⟨ao', c', rfl⟩ := owns_form hO
        clear hO hb
        by_cases hlt : k < l.length
        · obtain ⟨b, o, rfl, hck⟩ := HX.out (l.length - 1 - k) (by omega)
          have hck' := ck hck HB.out
          have hz := HBd.out _ (natD_mem (show l.length - 1 - k < l.length by omega))
          have HS := Lib.hid (HSn.out k hlt)
          have hll : ((mirL n l).take k).length ≤ 100 := by rw [List.length_take]; omega
          clear hck
          generalize l.getD (l.length - 1 - k) 0 = z at *
          generalize (mirL n l).take k = tp at *
          go_wp2_with (at_builtin; refine wpList_append_own _ rfl _ _ 22 rfl w.heap.size 3 i0 (.int .i64 0) 1 8 Try.underlying22 hi hz0 hz1 hz2 rfl (by decide) _ _ _ rfl (HO.out.alloc _) ⟨wr.heap.size, 0, none⟩ 1 1 [.int .i64 ((n:Int) + 1 - (z:Int))] rfl rfl (newOne _ _ _) (oneInt _) (by unfold maxLen; omega) (by omega) (by have := HB.out.size; simp; omega) ?_)
          intro v' w2 hown' hgrow _
          rw [show (n:Int) + 1 - (z:Int) = ((n + 1 - z : Nat) : Int) by omega] at hown'
          have HR := Lib.hid (nat_step HO.out HB.out HB.out.size hown' hgrow)
          clear hown' hgrow
          go_wp2
          go_roundw
          case rel => exact ⟨k + 1, by omega, vint (by omega), by rw [HS.out]; exact HR.out.1, HR.out.2⟩
          case measure => simp [intOf]; omega
        · obtain rfl : k = l.length := by omega
          have HV : Hid (Nats wr (.slice ao' ((mirL n l).take l.length).length c') (mirL n l)) := Lib.hid (by
            have h := HO.out
            have e : (mirL n l).take l.length = mirL n l := List.take_of_length_le (by rw [mirL_length]; exact Nat.le_refl _)
            simp only [e] at h ⊢
            exact Nats.of_owns h (by rw [mirL_length]; omega) fun x hx => by have := HMb.out x hx; omega)
          have HS2 := Lib.hid (HSt2.out _ wr HV.out)
          generalize (mirL n l).take l.length = tp at *
          clear HO
          go_wp2_with fail
          refine HS2.out.mono ?_
          rintro e w8 ⟨rfl, hb8⟩
          have HB8 := Lib.hid (HB.out.trans (hb8.mono HB.out.size))
          clear hb8 HV HS2
          go_wp2_with fail
          refine (HAw.out w8).mono ?_
          rintro e w9 ⟨rfl, hb9⟩
          have HB9 := Lib.hid (HB8.out.trans (hb9.mono HB8.out.size))
          clear hb9
          go_wp2
          go_ret
          exact ⟨rfl, HB9.out⟩
    | false =>
      rw [hq] at HSt HSt2
      clear hq HMo
      skip
      have HB0 := Lib.hid (Below.refl w.heap.size w)
      go_enter Try.func14, Try.ntmps14
      go_wp2_with fail
      refine (HF.out w).mono ?_
      rintro e w1 ⟨rfl, hb1⟩
      have HB1 := Lib.hid (HB0.out.trans (hb1.mono HB0.out.size))
      clear hb1
      go_wp2_with fail
      refine (HG.out w1).mono ?_
      rintro e w2 ⟨rfl, hb2⟩
      have HB2 := Lib.hid (HB1.out.trans (hb2.mono HB1.out.size))
      clear hb2
      go_wp2_with fail
      refine (HL.out w2 HB2.out).mono ?_
      rintro e w3 ⟨v3, rfl, hv3, hb3⟩
      have HB3 := Lib.hid (HB2.out.trans (hb3.mono HB2.out.size))
      have A_3 := Lib.hid (hv3)
      clear hb3 hv3
      go_wp2_with fail
      refine (HSt.out v3 w3 A_3.out).mono ?_
      rintro e w4 ⟨rfl, hb4⟩
      have HB4 := Lib.hid (HB3.out.trans (hb4.mono HB3.out.size))
      have A_4 := Lib.hid (A_3.out.below hb4 (Nat.le_refl _))
      clear hb4
      clear A_4
      go_wp2_with fail
      go_loopw [11, 12] (fun s i wr => ∃ k : Nat, k ≤ l.length ∧ i = .int .i64 ((l.length : Int) - 1 - k) ∧ wr.ownsRow w.heap.size 3 1 s ((mirL n l).take k).length (ints (nats ((mirL n l).take k))) ∧ Below w.heap.size w wr) (fun _ i _ => (intOf i + 1).toNat)
      case atStart => exact ⟨0, Nat.zero_le _, vint (by omega), World.ownsRow_nil _ _ _ _, HB4.out⟩
      case round =>
        clear HB4
        obtain ⟨k, hk, rfl, hO, hb⟩ := hrel
        have HO := Lib.hid hO
        have HB := Lib.hid hb
        obtain ⟨ao', c', rfl⟩ := owns_form hO
        clear hO hb
        by_cases hlt : k < l.length
        · obtain ⟨b, o, rfl, hck⟩ := HX.out (l.length - 1 - k) (by omega)
          have hck' := ck hck HB.out
          have hz := HBd.out _ (natD_mem (show l.length - 1 - k < l.length by omega))
          have HS := Lib.hid (HSn.out k hlt)
          have hll : ((mirL n l).take k).length ≤ 100 := by rw [List.length_take]; omega
          clear hck
          generalize l.getD (l.length - 1 - k) 0 = z at *
          generalize (mirL n l).take k = tp at *
          go_wp2_with (at_builtin; refine wpList_append_own _ rfl _ _ 22 rfl w.heap.size 3 i0 (.int .i64 0) 1 8 Try.underlying22 hi hz0 hz1 hz2 rfl (by decide) _ _ _ rfl (HO.out.alloc _) ⟨wr.heap.size, 0, none⟩ 1 1 [.int .i64 ((n:Int) + 1 - (z:Int))] rfl rfl (newOne _ _ _) (oneInt _) (by unfold maxLen; omega) (by omega) (by have := HB.out.size; simp; omega) ?_)
          intro v' w2 hown' hgrow _
          rw [show (n:Int) + 1 - (z:Int) = ((n + 1 - z : Nat) : Int) by omega] at hown'
          have HR := Lib.hid (nat_step HO.out HB.out HB.out.size hown' hgrow)
          clear hown' hgrow
          go_wp2
          go_roundw
          case rel => exact ⟨k + 1, by omega, vint (by omega), by rw [HS.out]; exact HR.out.1, HR.out.2⟩
          case measure => simp [intOf]; omega
        · obtain rfl : k = l.length := by omega
          have HV : Hid (Nats wr (.slice ao' ((mirL n l).take l.length).length c') (mirL n l)) := Lib.hid (by
            have h := HO.out
            have e : (mirL n l).take l.length = mirL n l := List.take_of_length_le (by rw [mirL_length]; exact Nat.le_refl _)
            simp only [e] at h ⊢
            exact Nats.of_owns h (by rw [mirL_length]; omega) fun x hx => by have := HMb.out x hx; omega)
          have HS2 := Lib.hid (HSt2.out _ wr HV.out)
          generalize (mirL n l).take l.length = tp at *
          clear HO
          go_wp2_with fail
          refine HS2.out.mono ?_
          rintro e w8 ⟨rfl, hb8⟩
          have HB8 := Lib.hid (HB.out.trans (hb8.mono HB.out.size))
          clear hb8 HV HS2
          go_wp2_with fail
          refine (HAw.out w8).mono ?_
          rintro e w9 ⟨rfl, hb9⟩
          have HB9 := Lib.hid (HB8.out.trans (hb9.mono HB8.out.size))
          clear hb9
          go_wp2
          go_ret
          exact ⟨rfl, HB9.out⟩

set_option maxHeartbeats 1600000 in
set_option maxRecDepth 100000 in
theorem mirrored_edge (n : Nat) (v : Value) (l : List Nat) (w : World) (h : Nats w v l) (hs : Sts n l) (hn : n = 25) :
    Calls Try.prog 14 #[.int .i64 n, v] w fun e w' => e = .returned (.bool true) ∧ Below w.heap.size w w' := by
  subst hn
  have HL := Lib.hid (fun w' (hb : Below w.heap.size w w') => list_any v _ w' (h.below hb (Nat.le_refl _)))
  rw [nats_take90 (by have := hs.len; omega)] at HL
  have HAw := Lib.hid (fun w => awake_any w)
  have HSt := Lib.hid (fun v' w' (h' : Nats w' v' l) => Steps_any 25 v' l w' hs h')
  have hm : Sts 25 (mirL 25 l) := ⟨hs.lo, hs.hi, mirL_up hs.up hs.bd, mirL_bd hs.bd⟩
  have HSt2 := Lib.hid (fun v' w' (h' : Nats w' v' (mirL 25 l)) => Steps_any 25 v' _ w' hm h')
  rw [mirL_steps hs.up hs.bd] at HSt2
  have HMb : Hid (∀ x ∈ mirL 25 l, x < 65536) := Lib.hid fun x hx => by have := hm.b41 x hx; omega
  have HSn := Lib.hid (fun k (hk : k < l.length) => mirL_snoc (n := 25) hk)
  have HBd := Lib.hid hs.bd
  have hlen := hs.len
  have hn1 := hs.lo
  have hn2 := hs.hi
  have HMo := Lib.hid (fun (hq : stepsR l = true) => longN_most hs.up hs.bd hq)
  obtain ⟨ao, cap, rfl, h1, h2, hxx⟩ := h.open
  have HX := Lib.hid hxx
  obtain ⟨i0, hi, hz0, hz1, hz2⟩ := info_parts Try.info3
  clear h hs hm hxx
  have HF := Lib.hid (fun w => Long_bad 25 w (.inr (by decide)))
  have HG := Lib.hid (fun w => Long_any 24 w (by decide) (by decide))
  cases hq : stepsR l with
  | true =>
    skip
    rw [hq] at HSt HSt2
    clear hq HMo
    generalize longN 24 = p at *
    have HB0 := Lib.hid (Below.refl w.heap.size w)
    go_enter Try.func14, Try.ntmps14
    go_wp2_with fail
    refine (HF.out w).mono ?_
    rintro e w1 ⟨rfl, hb1⟩
    have HB1 := Lib.hid (HB0.out.trans (hb1.mono HB0.out.size))
    clear hb1
    go_wp2_with fail
    refine (HG.out w1).mono ?_
    rintro e w2 ⟨rfl, hb2⟩
    have HB2 := Lib.hid (HB1.out.trans (hb2.mono HB1.out.size))
    clear hb2
    go_wp2_with fail
    refine (HL.out w2 HB2.out).mono ?_
    rintro e w3 ⟨v3, rfl, hv3, hb3⟩
    have HB3 := Lib.hid (HB2.out.trans (hb3.mono HB2.out.size))
    have A_3 := Lib.hid (hv3)
    clear hb3 hv3
    go_wp2_with fail
    refine (HSt.out v3 w3 A_3.out).mono ?_
    rintro e w4 ⟨rfl, hb4⟩
    have HB4 := Lib.hid (HB3.out.trans (hb4.mono HB3.out.size))
    have A_4 := Lib.hid (A_3.out.below hb4 (Nat.le_refl _))
    clear hb4
    clear A_4
    go_wp2_with fail
    go_loopw [11, 12] (fun s i wr => ∃ k : Nat, k ≤ l.length ∧ i = .int .i64 ((l.length : Int) - 1 - k) ∧ wr.ownsRow w.heap.size 3 1 s ((mirL 25 l).take k).length (ints (nats ((mirL 25 l).take k))) ∧ Below w.heap.size w wr) (fun _ i _ => (intOf i + 1).toNat)
    case atStart => exact ⟨0, Nat.zero_le _, vint (by omega), World.ownsRow_nil _ _ _ _, HB4.out⟩
    case round =>
      clear HB4
      obtain ⟨k, hk, rfl, hO, hb⟩ := hrel
      have HO := Lib.hid hO
      have HB := Lib.hid hb
      obtain ⟨ao', c', rfl⟩ := owns_form hO
      clear hO hb
      by_cases hlt : k < l.length
      · obtain ⟨b, o, rfl, hck⟩ := HX.out (l.length - 1 - k) (by omega)
        have hck' := ck hck HB.out
        have hz := HBd.out _ (natD_mem (show l.length - 1 - k < l.length by omega))
        have HS := Lib.hid (HSn.out k hlt)
        have hll : ((mirL 25 l).take k).length ≤ 100 := by rw [List.length_take]; omega
        clear hck
        generalize l.getD (l.length - 1 - k) 0 = z at *
        generalize (mirL 25 l).take k = tp at *
        go_wp2_with (at_builtin; refine wpList_append_own _ rfl _ _ 22 rfl w.heap.size 3 i0 (.int .i64 0) 1 8 Try.underlying22 hi hz0 hz1 hz2 rfl (by decide) _ _ _ rfl (HO.out.alloc _) ⟨wr.heap.size, 0, none⟩ 1 1 [.int .i64 ((26:Int) - (z:Int))] rfl rfl (newOne _ _ _) (oneInt _) (by unfold maxLen; omega) (by omega) (by have := HB.out.size; simp; omega) ?_)
        intro v' w2 hown' hgrow _
        rw [show (26:Int) - (z:Int) = ((25 + 1 - z : Nat) : Int) by omega] at hown'
        have HR := Lib.hid (nat_step HO.out HB.out HB.out.size hown' hgrow)
        clear hown' hgrow
        go_wp2
        go_roundw
        case rel => exact ⟨k + 1, by omega, vint (by omega), by rw [HS.out]; exact HR.out.1, HR.out.2⟩
        case measure => simp [intOf]; omega
      · obtain rfl : k = l.length := by omega
        have HV : Hid (Nats wr (.slice ao' ((mirL 25 l).take l.length).length c') (mirL 25 l)) := Lib.hid (by
          have h := HO.out
          have e : (mirL 25 l).take l.length = mirL 25 l := List.take_of_length_le (by rw [mirL_length]; exact Nat.le_refl _)
          simp only [e] at h ⊢
          exact Nats.of_owns h (by rw [mirL_length]; omega) fun x hx => by have := HMb.out x hx; omega)
        have HS2 := Lib.hid (HSt2.out _ wr HV.out)
        generalize (mirL 25 l).take l.length = tp at *
        clear HO
        go_wp2_with fail
        refine HS2.out.mono ?_
        rintro e w8 ⟨rfl, hb8⟩
        have HB8 := Lib.hid (HB.out.trans (hb8.mono HB.out.size))
        clear hb8 HV HS2
        go_wp2_with fail
        refine (HAw.out w8).mono ?_
        rintro e w9 ⟨rfl, hb9⟩
        have HB9 := Lib.hid (HB8.out.trans (hb9.mono HB8.out.size))
        clear hb9
        go_wp2
        go_ret
        exact ⟨rfl, HB9.out⟩
  | false =>
    rw [hq] at HSt HSt2
    clear hq HMo
    generalize longN 24 = p at *
    have HB0 := Lib.hid (Below.refl w.heap.size w)
    go_enter Try.func14, Try.ntmps14
    go_wp2_with fail
    refine (HF.out w).mono ?_
    rintro e w1 ⟨rfl, hb1⟩
    have HB1 := Lib.hid (HB0.out.trans (hb1.mono HB0.out.size))
    clear hb1
    go_wp2_with fail
    refine (HG.out w1).mono ?_
    rintro e w2 ⟨rfl, hb2⟩
    have HB2 := Lib.hid (HB1.out.trans (hb2.mono HB1.out.size))
    clear hb2
    go_wp2_with fail
    refine (HL.out w2 HB2.out).mono ?_
    rintro e w3 ⟨v3, rfl, hv3, hb3⟩
    have HB3 := Lib.hid (HB2.out.trans (hb3.mono HB2.out.size))
    have A_3 := Lib.hid (hv3)
    clear hb3 hv3
    go_wp2_with fail
    refine (HSt.out v3 w3 A_3.out).mono ?_
    rintro e w4 ⟨rfl, hb4⟩
    have HB4 := Lib.hid (HB3.out.trans (hb4.mono HB3.out.size))
    have A_4 := Lib.hid (A_3.out.below hb4 (Nat.le_refl _))
    clear hb4
    clear A_4
    go_wp2_with fail
    go_loopw [11, 12] (fun s i wr => ∃ k : Nat, k ≤ l.length ∧ i = .int .i64 ((l.length : Int) - 1 - k) ∧ wr.ownsRow w.heap.size 3 1 s ((mirL 25 l).take k).length (ints (nats ((mirL 25 l).take k))) ∧ Below w.heap.size w wr) (fun _ i _ => (intOf i + 1).toNat)
    case atStart => exact ⟨0, Nat.zero_le _, vint (by omega), World.ownsRow_nil _ _ _ _, HB4.out⟩
    case round =>
      clear HB4
      obtain ⟨k, hk, rfl, hO, hb⟩ := hrel
      have HO := Lib.hid hO
      have HB := Lib.hid hb
      obtain ⟨ao', c', rfl⟩ := owns_form hO
      clear hO hb
      by_cases hlt : k < l.length
      · obtain ⟨b, o, rfl, hck⟩ := HX.out (l.length - 1 - k) (by omega)
        have hck' := ck hck HB.out
        have hz := HBd.out _ (natD_mem (show l.length - 1 - k < l.length by omega))
        have HS := Lib.hid (HSn.out k hlt)
        have hll : ((mirL 25 l).take k).length ≤ 100 := by rw [List.length_take]; omega
        clear hck
        generalize l.getD (l.length - 1 - k) 0 = z at *
        generalize (mirL 25 l).take k = tp at *
        go_wp2_with (at_builtin; refine wpList_append_own _ rfl _ _ 22 rfl w.heap.size 3 i0 (.int .i64 0) 1 8 Try.underlying22 hi hz0 hz1 hz2 rfl (by decide) _ _ _ rfl (HO.out.alloc _) ⟨wr.heap.size, 0, none⟩ 1 1 [.int .i64 ((26:Int) - (z:Int))] rfl rfl (newOne _ _ _) (oneInt _) (by unfold maxLen; omega) (by omega) (by have := HB.out.size; simp; omega) ?_)
        intro v' w2 hown' hgrow _
        rw [show (26:Int) - (z:Int) = ((25 + 1 - z : Nat) : Int) by omega] at hown'
        have HR := Lib.hid (nat_step HO.out HB.out HB.out.size hown' hgrow)
        clear hown' hgrow
        go_wp2
        go_roundw
        case rel => exact ⟨k + 1, by omega, vint (by omega), by rw [HS.out]; exact HR.out.1, HR.out.2⟩
        case measure => simp [intOf]; omega
      · obtain rfl : k = l.length := by omega
        have HV : Hid (Nats wr (.slice ao' ((mirL 25 l).take l.length).length c') (mirL 25 l)) := Lib.hid (by
          have h := HO.out
          have e : (mirL 25 l).take l.length = mirL 25 l := List.take_of_length_le (by rw [mirL_length]; exact Nat.le_refl _)
          simp only [e] at h ⊢
          exact Nats.of_owns h (by rw [mirL_length]; omega) fun x hx => by have := HMb.out x hx; omega)
        have HS2 := Lib.hid (HSt2.out _ wr HV.out)
        generalize (mirL 25 l).take l.length = tp at *
        clear HO
        go_wp2_with fail
        refine HS2.out.mono ?_
        rintro e w8 ⟨rfl, hb8⟩
        have HB8 := Lib.hid (HB.out.trans (hb8.mono HB.out.size))
        clear hb8 HV HS2
        go_wp2_with fail
        refine (HAw.out w8).mono ?_
        rintro e w9 ⟨rfl, hb9⟩
        have HB9 := Lib.hid (HB8.out.trans (hb9.mono HB8.out.size))
        clear hb9
        go_wp2
        go_ret
        exact ⟨rfl, HB9.out⟩

set_option maxHeartbeats 1600000 in
set_option maxRecDepth 100000 in
theorem mirrored_far (n : Nat) (v : Value) (l : List Nat) (w : World) (h : Nats w v l) (hs : Sts n l) (hn : 26 ≤ n) :
    Calls Try.prog 14 #[.int .i64 n, v] w fun e w' => e = .returned (.bool true) ∧ Below w.heap.size w w' := by
  have HL := Lib.hid (fun w' (hb : Below w.heap.size w w') => list_any v _ w' (h.below hb (Nat.le_refl _)))
  rw [nats_take90 (by have := hs.len; omega)] at HL
  have HAw := Lib.hid (fun w => awake_any w)
  have HSt := Lib.hid (fun v' w' (h' : Nats w' v' l) => Steps_any n v' l w' hs h')
  have hm : Sts n (mirL n l) := ⟨hs.lo, hs.hi, mirL_up hs.up hs.bd, mirL_bd hs.bd⟩
  have HSt2 := Lib.hid (fun v' w' (h' : Nats w' v' (mirL n l)) => Steps_any n v' _ w' hm h')
  rw [mirL_steps hs.up hs.bd] at HSt2
  have HMb : Hid (∀ x ∈ mirL n l, x < 65536) := Lib.hid fun x hx => by have := hm.b41 x hx; omega
  have HSn := Lib.hid (fun k (hk : k < l.length) => mirL_snoc (n := n) hk)
  have HBd := Lib.hid hs.bd
  have hlen := hs.len
  have hn1 := hs.lo
  have hn2 := hs.hi
  have HMo := Lib.hid (fun (hq : stepsR l = true) => longN_most hs.up hs.bd hq)
  obtain ⟨ao, cap, rfl, h1, h2, hxx⟩ := h.open
  have HX := Lib.hid hxx
  obtain ⟨i0, hi, hz0, hz1, hz2⟩ := info_parts Try.info3
  clear h hs hm hxx
  have HF := Lib.hid (fun w => Long_bad n w (.inr (by omega)))
  have HG := Lib.hid (fun w => Long_bad ((n:Int) - 1) w (.inr (by omega)))
  cases hq : stepsR l with
  | true =>
    skip
    rw [hq] at HSt HSt2
    clear hq HMo
    skip
    have HB0 := Lib.hid (Below.refl w.heap.size w)
    go_enter Try.func14, Try.ntmps14
    go_wp2_with fail
    refine (HF.out w).mono ?_
    rintro e w1 ⟨rfl, hb1⟩
    have HB1 := Lib.hid (HB0.out.trans (hb1.mono HB0.out.size))
    clear hb1
    go_wp2_with fail
    refine (HG.out w1).mono ?_
    rintro e w2 ⟨rfl, hb2⟩
    have HB2 := Lib.hid (HB1.out.trans (hb2.mono HB1.out.size))
    clear hb2
    go_wp2_with fail
    refine (HL.out w2 HB2.out).mono ?_
    rintro e w3 ⟨v3, rfl, hv3, hb3⟩
    have HB3 := Lib.hid (HB2.out.trans (hb3.mono HB2.out.size))
    have A_3 := Lib.hid (hv3)
    clear hb3 hv3
    go_wp2_with fail
    refine (HSt.out v3 w3 A_3.out).mono ?_
    rintro e w4 ⟨rfl, hb4⟩
    have HB4 := Lib.hid (HB3.out.trans (hb4.mono HB3.out.size))
    have A_4 := Lib.hid (A_3.out.below hb4 (Nat.le_refl _))
    clear hb4
    clear A_4
    go_wp2_with fail
    go_loopw [11, 12] (fun s i wr => ∃ k : Nat, k ≤ l.length ∧ i = .int .i64 ((l.length : Int) - 1 - k) ∧ wr.ownsRow w.heap.size 3 1 s ((mirL n l).take k).length (ints (nats ((mirL n l).take k))) ∧ Below w.heap.size w wr) (fun _ i _ => (intOf i + 1).toNat)
    case atStart => exact ⟨0, Nat.zero_le _, vint (by omega), World.ownsRow_nil _ _ _ _, HB4.out⟩
    case round =>
      clear HB4
      obtain ⟨k, hk, rfl, hO, hb⟩ := hrel
      have HO := Lib.hid hO
      have HB := Lib.hid hb
      obtain ⟨ao', c', rfl⟩ := owns_form hO
      clear hO hb
      by_cases hlt : k < l.length
      · obtain ⟨b, o, rfl, hck⟩ := HX.out (l.length - 1 - k) (by omega)
        have hck' := ck hck HB.out
        have hz := HBd.out _ (natD_mem (show l.length - 1 - k < l.length by omega))
        have HS := Lib.hid (HSn.out k hlt)
        have hll : ((mirL n l).take k).length ≤ 100 := by rw [List.length_take]; omega
        clear hck
        generalize l.getD (l.length - 1 - k) 0 = z at *
        generalize (mirL n l).take k = tp at *
        go_wp2_with (at_builtin; refine wpList_append_own _ rfl _ _ 22 rfl w.heap.size 3 i0 (.int .i64 0) 1 8 Try.underlying22 hi hz0 hz1 hz2 rfl (by decide) _ _ _ rfl (HO.out.alloc _) ⟨wr.heap.size, 0, none⟩ 1 1 [.int .i64 ((n:Int) + 1 - (z:Int))] rfl rfl (newOne _ _ _) (oneInt _) (by unfold maxLen; omega) (by omega) (by have := HB.out.size; simp; omega) ?_)
        intro v' w2 hown' hgrow _
        rw [show (n:Int) + 1 - (z:Int) = ((n + 1 - z : Nat) : Int) by omega] at hown'
        have HR := Lib.hid (nat_step HO.out HB.out HB.out.size hown' hgrow)
        clear hown' hgrow
        go_wp2
        go_roundw
        case rel => exact ⟨k + 1, by omega, vint (by omega), by rw [HS.out]; exact HR.out.1, HR.out.2⟩
        case measure => simp [intOf]; omega
      · obtain rfl : k = l.length := by omega
        have HV : Hid (Nats wr (.slice ao' ((mirL n l).take l.length).length c') (mirL n l)) := Lib.hid (by
          have h := HO.out
          have e : (mirL n l).take l.length = mirL n l := List.take_of_length_le (by rw [mirL_length]; exact Nat.le_refl _)
          simp only [e] at h ⊢
          exact Nats.of_owns h (by rw [mirL_length]; omega) fun x hx => by have := HMb.out x hx; omega)
        have HS2 := Lib.hid (HSt2.out _ wr HV.out)
        generalize (mirL n l).take l.length = tp at *
        clear HO
        go_wp2_with fail
        refine HS2.out.mono ?_
        rintro e w8 ⟨rfl, hb8⟩
        have HB8 := Lib.hid (HB.out.trans (hb8.mono HB.out.size))
        clear hb8 HV HS2
        go_wp2_with fail
        refine (HAw.out w8).mono ?_
        rintro e w9 ⟨rfl, hb9⟩
        have HB9 := Lib.hid (HB8.out.trans (hb9.mono HB8.out.size))
        clear hb9
        go_wp2
        go_ret
        exact ⟨rfl, HB9.out⟩
  | false =>
    rw [hq] at HSt HSt2
    clear hq HMo
    skip
    have HB0 := Lib.hid (Below.refl w.heap.size w)
    go_enter Try.func14, Try.ntmps14
    go_wp2_with fail
    refine (HF.out w).mono ?_
    rintro e w1 ⟨rfl, hb1⟩
    have HB1 := Lib.hid (HB0.out.trans (hb1.mono HB0.out.size))
    clear hb1
    go_wp2_with fail
    refine (HG.out w1).mono ?_
    rintro e w2 ⟨rfl, hb2⟩
    have HB2 := Lib.hid (HB1.out.trans (hb2.mono HB1.out.size))
    clear hb2
    go_wp2_with fail
    refine (HL.out w2 HB2.out).mono ?_
    rintro e w3 ⟨v3, rfl, hv3, hb3⟩
    have HB3 := Lib.hid (HB2.out.trans (hb3.mono HB2.out.size))
    have A_3 := Lib.hid (hv3)
    clear hb3 hv3
    go_wp2_with fail
    refine (HSt.out v3 w3 A_3.out).mono ?_
    rintro e w4 ⟨rfl, hb4⟩
    have HB4 := Lib.hid (HB3.out.trans (hb4.mono HB3.out.size))
    have A_4 := Lib.hid (A_3.out.below hb4 (Nat.le_refl _))
    clear hb4
    clear A_4
    go_wp2_with fail
    go_loopw [11, 12] (fun s i wr => ∃ k : Nat, k ≤ l.length ∧ i = .int .i64 ((l.length : Int) - 1 - k) ∧ wr.ownsRow w.heap.size 3 1 s ((mirL n l).take k).length (ints (nats ((mirL n l).take k))) ∧ Below w.heap.size w wr) (fun _ i _ => (intOf i + 1).toNat)
    case atStart => exact ⟨0, Nat.zero_le _, vint (by omega), World.ownsRow_nil _ _ _ _, HB4.out⟩
    case round =>
      clear HB4
      obtain ⟨k, hk, rfl, hO, hb⟩ := hrel
      have HO := Lib.hid hO
      have HB := Lib.hid hb
      obtain ⟨ao', c', rfl⟩ := owns_form hO
      clear hO hb
      by_cases hlt : k < l.length
      · obtain ⟨b, o, rfl, hck⟩ := HX.out (l.length - 1 - k) (by omega)
        have hck' := ck hck HB.out
        have hz := HBd.out _ (natD_mem (show l.length - 1 - k < l.length by omega))
        have HS := Lib.hid (HSn.out k hlt)
        have hll : ((mirL n l).take k).length ≤ 100 := by rw [List.length_take]; omega
        clear hck
        generalize l.getD (l.length - 1 - k) 0 = z at *
        generalize (mirL n l).take k = tp at *
        go_wp2_with (at_builtin; refine wpList_append_own _ rfl _ _ 22 rfl w.heap.size 3 i0 (.int .i64 0) 1 8 Try.underlying22 hi hz0 hz1 hz2 rfl (by decide) _ _ _ rfl (HO.out.alloc _) ⟨wr.heap.size, 0, none⟩ 1 1 [.int .i64 ((n:Int) + 1 - (z:Int))] rfl rfl (newOne _ _ _) (oneInt _) (by unfold maxLen; omega) (by omega) (by have := HB.out.size; simp; omega) ?_)
        intro v' w2 hown' hgrow _
        rw [show (n:Int) + 1 - (z:Int) = ((n + 1 - z : Nat) : Int) by omega] at hown'
        have HR := Lib.hid (nat_step HO.out HB.out HB.out.size hown' hgrow)
        clear hown' hgrow
        go_wp2
        go_roundw
        case rel => exact ⟨k + 1, by omega, vint (by omega), by rw [HS.out]; exact HR.out.1, HR.out.2⟩
        case measure => simp [intOf]; omega
      · obtain rfl : k = l.length := by omega
        have HV : Hid (Nats wr (.slice ao' ((mirL n l).take l.length).length c') (mirL n l)) := Lib.hid (by
          have h := HO.out
          have e : (mirL n l).take l.length = mirL n l := List.take_of_length_le (by rw [mirL_length]; exact Nat.le_refl _)
          simp only [e] at h ⊢
          exact Nats.of_owns h (by rw [mirL_length]; omega) fun x hx => by have := HMb.out x hx; omega)
        have HS2 := Lib.hid (HSt2.out _ wr HV.out)
        generalize (mirL n l).take l.length = tp at *
        clear HO
        go_wp2_with fail
        refine HS2.out.mono ?_
        rintro e w8 ⟨rfl, hb8⟩
        have HB8 := Lib.hid (HB.out.trans (hb8.mono HB.out.size))
        clear hb8 HV HS2
        go_wp2_with fail
        refine (HAw.out w8).mono ?_
        rintro e w9 ⟨rfl, hb9⟩
        have HB9 := Lib.hid (HB8.out.trans (hb9.mono HB8.out.size))
        clear hb9
        go_wp2
        go_ret
        exact ⟨rfl, HB9.out⟩

theorem capsMirrored_law (n : Int) (v : Value) (xs : List Int) (w : World) (hn : I64 n) (h : Ints w v xs) :
    Calls Try.prog 14 #[.int .i64 n, v] w fun e w' => e = .returned (.bool true) ∧ Below w.heap.size w w' := by
  cases hst : stB n xs with
  | false => exact mirrored_bad n v xs w hn h hst
  | true =>
    obtain ⟨m, l, rfl, rfl, hs⟩ := st_nats hst
    by_cases c1 : m = 1
    · exact mirrored_one m v l w h hs c1
    by_cases c2 : m ≤ 24
    · exact mirrored_mid m v l w h hs (by have := hs.lo; omega) c2
    by_cases c3 : m = 25
    · exact mirrored_edge m v l w h hs c3
    · exact mirrored_far m v l w h hs (by omega)
end Go.Proofs.Ytlalfjkenkmojaa
