/- CapsSets: the walk in dimension 1 -/
import Derived.Test.YtlalfjkenkmojaaAd
namespace Go.Proofs.Ytlalfjkenkmojaa
open Go.RowKit
theorem caps_no_of1 (d : Nat) (l : List Nat) (hk : Deck d l) (h : setsN d l = 1) : capB d l = false := by
  cases e : capB d l with
  | false => rfl
  | true => have := (caps_sets d l hk).1 e; omega

theorem all_sets1 : setsN 1 (List.range' 0 3) = 1 := setsN_all 1 (by omega) (by omega)
theorem deck_all1 : Deck 1 (List.range' 0 3) := ⟨List.pairwise_lt_range' (s := 0) (n := 3) (step := 1) Nat.one_pos, fun x hx => by rw [List.mem_range'_1] at hx; show x < 3; omega⟩
set_option maxHeartbeats 4000000 in
set_option maxRecDepth 100000 in
theorem sets1_law (a b : Nat) (by_ : Int) (w : World) (ha : a < 3) (hb : b < 3) (hab : a ≠ b) :
    Calls Try.prog 10 #[.int .i64 1, .int .i64 a, .int .i64 b, .int .i64 by_] w fun e w' => e = .returned (.bool true) ∧ Below w.heap.size w w' := by
  obtain ⟨t, ht⟩ : ∃ t, t = thirdN 1 a b := ⟨_, rfl⟩
  have ht_lt : t < 3 := by rw [ht]; exact thirdN_lt 1 a b
  have hta : t ≠ a := fun e => hab (thirdN_eq 1 a b ha hb (by rw [← ht, e]))
  have htb : t ≠ b := fun e => hab (thirdN_eq 1 b a hb ha (by rw [thirdN_comm, ← ht, e])).symm
  have hT := fun w => Third_any 1 a b w (by omega) (by omega) ha hb hab
  have hTx := fun w => Third_any 1 b a w (by omega) (by omega) hb ha (Ne.symm hab)
  have hTy := fun w => Third_any 1 a t w (by omega) (by omega) ha ht_lt (Ne.symm hta)
  have hTz := fun w => Third_any 1 t b w (by omega) (by omega) ht_lt hb htb
  have e1 : thirdN 1 b a = t := by rw [thirdN_comm, ht]
  have e2 : thirdN 1 a t = b := by rw [ht]; exact thirdN_back 1 a b hb
  have e3 : thirdN 1 t b = a := by rw [thirdN_comm, ht, thirdN_comm 1 a b]; exact thirdN_back 1 b a ha
  rw [e1] at hTx
  rw [e2] at hTy
  rw [e3] at hTz
  rw [← ht] at hT
  have HT := Lib.hid hT
  have HTx := Lib.hid hTx
  have HTy := Lib.hid hTy
  have HTz := Lib.hid hTz
  have HSz := Lib.hid (fun w => rSize_any 1 w)
  rw [show sizeI 1 = 3 from rfl] at HSz
  have HAw := Lib.hid (fun w => awake_any w)
  clear hT hTx hTy hTz e1 e2 e3
  obtain ⟨U, hU, hU2⟩ : ∃ U : Nat, IntKind.u64.wrap by_ = (U : Int) ∧ U < 18446744073709551616 := ⟨(IntKind.u64.wrap by_).toNat, by rw [IntKind.wrap_u64]; omega, by rw [IntKind.wrap_u64]; omega⟩
  obtain ⟨q, hq⟩ : ∃ q, q = U % 3 := ⟨_, rfl⟩
  have hq_lt : q < 3 := by omega
  have d3 : (U:Int).tmod 3 = (q:Int) := by rw [hq]; rfl
  have d4 : (U:Int) % 3 = (q:Int) := by rw [hq]; rfl
  have hA := addN_lt 1 a q
  have hB := addN_lt 1 b q
  have hC := addN_lt 1 t q
  have hTu := fun w => Third_any 1 (addN 1 a q) (addN 1 b q) w (by omega) (by omega) hA hB (fun e => hab (addN_inj 1 a b q ha hb e))
  rw [third_add, ← ht] at hTu
  have hAa := fun w => add_any 1 a q w (by omega) (by omega) (by omega)
  have hAb := fun w => add_any 1 b q w (by omega) (by omega) (by omega)
  have hAt := fun w => add_any 1 t q w (by omega) (by omega) (by omega)
  generalize addN 1 a q = A at *
  generalize addN 1 b q = B at *
  generalize addN 1 t q = C at *
  have HTu := Lib.hid hTu
  have HAa := Lib.hid hAa
  have HAb := Lib.hid hAb
  have HAt := Lib.hid hAt
  have f1 : ((t:Int) == (a:Int)) = false := beq_eq_false_iff_ne.2 (by omega)
  have f2 : ((t:Int) == (b:Int)) = false := beq_eq_false_iff_ne.2 (by omega)
  have f3 : decide ((t:Int) < 0) = false := decide_eq_false (by omega)
  have f4 : decide (3 ≤ t) = false := decide_eq_false (by omega)
  clear hAa hAb hAt
  have HSo := Lib.hid (fun w => sort3_any 1 a b t w ha hb (by omega) hab ht)
  have HSe := Lib.hid (fun v l w (hk : Deck 1 l) (h : Nats w v l) => Sets_any 1 v l w (by omega) (by omega) hk h)
  have HCp := Lib.hid (fun v l w (hk : Deck 1 l) (h : Nats w v l) => Cap_any 1 v l w (by omega) (by omega) hk h)
  clear ht hTu hq hab
  have HB0 := Lib.hid (Below.refl w.heap.size w)
  go_enter Try.func10, Try.ntmps10
  go_wp2_with fail
  refine (HT.out w).mono ?_
  rintro e w1 ⟨rfl, hb1⟩
  have HB1 := Lib.hid (HB0.out.trans (hb1.mono HB0.out.size))
  clear hb1
  go_wp2_with fail
  refine (HSz.out w1).mono ?_
  rintro e w' ⟨rfl, rfl⟩
  go_wp2_with fail
  refine (HTx.out w1).mono ?_
  rintro e w2 ⟨rfl, hb2⟩
  have HB2 := Lib.hid (HB1.out.trans (hb2.mono HB1.out.size))
  clear hb2
  go_wp2_with fail
  refine (HTy.out w2).mono ?_
  rintro e w3 ⟨rfl, hb3⟩
  have HB3 := Lib.hid (HB2.out.trans (hb3.mono HB2.out.size))
  clear hb3
  go_wp2_with fail
  refine (HTz.out w3).mono ?_
  rintro e w4 ⟨rfl, hb4⟩
  have HB4 := Lib.hid (HB3.out.trans (hb4.mono HB3.out.size))
  clear hb4
  go_wp2_with fail
  refine (HAa.out w4).mono ?_
  rintro e w5 ⟨rfl, hb5⟩
  have HB5 := Lib.hid (HB4.out.trans (hb5.mono HB4.out.size))
  clear hb5
  go_wp2_with fail
  refine (HAb.out w5).mono ?_
  rintro e w6 ⟨rfl, hb6⟩
  have HB6 := Lib.hid (HB5.out.trans (hb6.mono HB5.out.size))
  clear hb6
  go_wp2_with fail
  refine (HTu.out w6).mono ?_
  rintro e w7 ⟨rfl, hb7⟩
  have HB7 := Lib.hid (HB6.out.trans (hb7.mono HB6.out.size))
  clear hb7
  clear HT HTx HTy HTz HTu HAa HAb
  go_wp2_with fail
  refine (HSo.out w7).mono ?_
  rintro e w8 ⟨rfl, l, hl, hk, hs1, hb8⟩
  have hc := (caps_no_of1 1 l hk hs1)
  have HB8 := Lib.hid (HB7.out.trans (hb8.mono HB7.out.size))
  have HN8 := Lib.hid hl
  have HSe1 := Lib.hid (fun w' (hn : Nats w' (.slice (some ⟨w7.heap.size, 0, none⟩) 3 3) l) => hs1 ▸ HSe.out _ l w' hk hn)
  have HCp1 := Lib.hid (fun w' (hn : Nats w' (.slice (some ⟨w7.heap.size, 0, none⟩) 3 3) l) => hc ▸ HCp.out _ l w' hk hn)
  clear hl hb8 hs1 hc hk HSo HCp
  go_wp2_with fail
  refine (HSe1.out _ HN8.out).mono ?_
  rintro e w9 ⟨rfl, hb9⟩
  have HB9 := Lib.hid (HB8.out.trans (hb9.mono HB8.out.size))
  have HN9 := Lib.hid (HN8.out.below hb9 (Nat.le_refl _))
  clear hb9 HN8 HSe1 HB8
  obtain ⟨i0, hi, hz0, hz1, hz2⟩ := info_parts Try.info3
  go_wp2_with fail
  go_loopw [23, 115] (fun u i wr => ∃ k : Nat, k ≤ 3 ∧ i = .int .i64 k ∧ wr.ownsRow w9.heap.size 3 1 u (List.range' 0 k).length (ints (nats (List.range' 0 k))) ∧ Below w9.heap.size w9 wr) (fun _ i _ => 3 - (intOf i).toNat)
  case atStart => exact ⟨0, by omega, rfl, World.ownsRow_nil _ _ _ _, Below.refl _ _⟩
  case round =>
    obtain ⟨k, hk, rfl, hO, hb⟩ := hrel
    have HO := Lib.hid hO
    have HB := Lib.hid hb
    obtain ⟨ao', c', rfl⟩ := owns_form hO
    clear hO hb
    have HS : Hid (List.range' 0 (k + 1) = List.range' 0 k ++ [k]) := Lib.hid (by rw [List.range'_1_concat]; simp)
    have hlen : (List.range' 0 k).length ≤ 81 := by rw [List.length_range']; omega
    by_cases hlt : k < 3
    · generalize List.range' 0 k = tp at *
      go_wp2_with (at_builtin; refine wpList_append_own _ rfl _ _ 22 rfl w9.heap.size 3 i0 (.int .i64 0) 1 8 Try.underlying22 hi hz0 hz1 hz2 rfl (by decide) _ _ _ rfl (HO.out.alloc _) ⟨wr.heap.size, 0, none⟩ 1 1 [.int .i64 k] rfl rfl (newOne _ _ _) (oneInt _) (by unfold maxLen; omega) (by omega) (by have := HB.out.size; simp; omega) ?_)
      intro v' w2 hown' hgrow _
      have HR := Lib.hid (nat_step HO.out HB.out HB.out.size hown' hgrow)
      clear hown' hgrow
      go_wp2
      go_roundw
      case rel => exact ⟨k + 1, by omega, by go_num, by rw [HS.out]; exact HR.out.1, HR.out.2⟩
      case measure => simp [intOf]; omega
    · obtain rfl : k = 3 := by omega
      have HV : Hid (Nats wr (.slice ao' (List.range' 0 3).length c') (List.range' 0 3)) := Lib.hid (Nats.of_owns HO.out (by omega) fun x hx => by rw [List.mem_range'_1] at hx; omega)
      have HSeA := Lib.hid (show Calls Try.prog 19 #[.int .i64 1, .slice ao' (List.range' 0 3).length c'] wr fun e w' => e = .returned (.tuple #[.int .i64 1, .int .i64 0]) ∧ Below wr.heap.size wr w' from (by have h := HSe.out _ _ wr (deck_all1) HV.out; rw [all_sets1] at h; exact h))
      clear HSe HV HO HS
      generalize (List.range' 0 3).length = len at *
      have HB10 := Lib.hid (HB9.out.trans (HB.out.mono HB9.out.size))
      have HN10 := Lib.hid (HN9.out.below HB.out (Nat.le_refl _))
      clear HN9 HB
      go_wp2_with fail
      refine HSeA.out.mono ?_
      rintro e w11 ⟨rfl, hb11⟩
      have HB11 := Lib.hid (HB10.out.trans (hb11.mono HB10.out.size))
      have HN11 := Lib.hid (HN10.out.below hb11 (Nat.le_refl _))
      clear hb11 HSeA
      go_wp2_with fail
      refine (HCp1.out _ HN11.out).mono ?_
      rintro e w12 ⟨rfl, hb12⟩
      have HB12 := Lib.hid (HB11.out.trans (hb12.mono HB11.out.size))
      clear hb12 HCp1
      go_wp2_with fail
      refine (HAt.out _).mono ?_
      rintro e w13 ⟨rfl, hb13⟩
      have HB13 := Lib.hid (HB12.out.trans (hb13.mono HB12.out.size))
      clear hb13
      go_wp2_with fail
      refine (HAw.out _).mono ?_
      rintro e w14 ⟨rfl, hb14⟩
      have HB14 := Lib.hid (HB13.out.trans (hb14.mono HB13.out.size))
      clear hb14
      go_wp2
      go_ret
      exact ⟨rfl, HB14.out⟩
end Go.Proofs.Ytlalfjkenkmojaa
