/- TopAffine: the walk -/
import Derived.Test.YtlalfjkenkmojaaRe
import Derived.Test.YtlalfjkenkmojaaSn
import Derived.Test.YtlalfjkenkmojaaCf
namespace Go.Proofs.Ytlalfjkenkmojaa.Ar
open Go.RowKit

set_option maxHeartbeats 1000000 in
theorem picks_any (w : World) : Calls Try.prog 57 #[] w fun e w' => e = .returned (.bool true) ∧ Below w.heap.size w w' := by
  have HT := Lib.hid (Third_any 1 0 1 w (by decide) (by decide) (by decide) (by decide) (by decide))
  rw [show thirdN 1 0 1 = 2 from rfl] at HT
  go_enter Try.func57, Try.ntmps57
  go_wp2_with fail
  refine HT.out.mono ?_
  rintro e w1 ⟨rfl, hb1⟩
  have HB1 := Lib.hid hb1
  clear hb1
  go_wp2
  go_ret
  exact ⟨rfl, HB1.out⟩
theorem deck_take12 {xs : List Int} : deckB 2 (xs.take 12) = deckB 2 xs := by
  by_cases hl : xs.length ≤ 12
  · rw [List.take_of_length_le hl]
  · have h1 : deckB 2 xs = false := by
      cases h : deckB 2 xs with
      | false => rfl
      | true =>
        obtain ⟨n, l, e, _, _, _, rfl, hk⟩ := deck_nats h
        obtain rfl : n = 2 := by omega
        have := up_len hk.1 (n := 9) fun x hx => hk.2 x hx
        rw [nats_length] at hl
        omega
    have h2 : deckB 2 (xs.take 12) = false := by
      cases h : deckB 2 (xs.take 12) with
      | false => rfl
      | true =>
        obtain ⟨n, l, e, _, _, _, he, hk⟩ := deck_nats h
        obtain rfl : n = 2 := by omega
        have h3 := up_len hk.1 (n := 9) fun x hx => hk.2 x hx
        have h5 : (xs.take 12).length = (nats l).length := by rw [he]
        rw [nats_length, List.length_take] at h5
        omega
    rw [h1, h2]

set_option maxHeartbeats 1000000 in
set_option maxRecDepth 100000 in
theorem affine_bad (v : Value) (xs : List Int) (w : World) (h : Ints w v xs) (hr : deckB 2 xs = false) :
    Calls Try.prog 17 #[v] w fun e w' => e = .returned (.bool true) ∧ Below w.heap.size w w' := by
  obtain ⟨ao, cap, rfl, h1, h2, hc⟩ := h.open
  have HAw := Lib.hid (fun w => picks_any w)
  have HI := Lib.hid h.2
  have HT := Lib.hid (fun k (hk : k ≤ xs.length) => clone1_any _ _ w (h.take hk))
  have HCp := Lib.hid (fun v' ys w' (h' : Ints w' v' ys) (hy : deckB 2 ys = false) => Cap_bad 2 v' ys w' h' hy)
  have HD : Hid (deckB 2 (xs.take 12) = false) := Lib.hid (by rw [deck_take12, hr])
  clear h hc hr
  by_cases hl : xs.length ≤ 12
  · have HT' := Lib.hid (HT.out xs.length (Nat.le_refl _))
    have hm : min (xs.length : Int) 12 = xs.length := by omega
    have hm2 : min xs.length 12 = xs.length := by omega
    have HE : Hid (xs.take 12 = xs) := List.take_of_length_le hl
    rw [HE.out] at HD
    rw [List.take_length] at HT'
    go_enter Try.func17, Try.ntmps17
    go_wp2_with fail
    refine HT'.out.mono ?_
    rintro e w1 ⟨ao1, c1, rfl, hown, hb1⟩
    have HC := Lib.hid (HCp.out _ _ w1 (Ints.of_owns hown h2 HI.out) HD.out)
    have HB1 := Lib.hid hb1
    clear hown hb1
    go_wp2_with fail
    refine HC.out.mono ?_
    rintro e w' ⟨rfl, rfl⟩
    go_wp2_with fail
    refine (HAw.out _).mono ?_
    rintro e w2 ⟨rfl, hb2⟩
    have HB2 := Lib.hid (HB1.out.trans (hb2.mono HB1.out.size))
    clear hb2
    go_wp2
    go_ret
    exact ⟨rfl, HB2.out⟩
  · have HT' := Lib.hid (HT.out 12 (by omega))
    have hm : min (xs.length : Int) 12 = 12 := by omega
    have hln : (xs.take 12).length = 12 := by rw [List.length_take]; omega
    rw [hln] at HT'
    clear hln
    go_enter Try.func17, Try.ntmps17
    go_wp2_with fail
    refine HT'.out.mono ?_
    rintro e w1 ⟨ao1, c1, rfl, hown, hb1⟩
    have HC := Lib.hid (HCp.out _ _ w1 (Ints.of_owns hown (by omega) (fun x hx => HI.out x (List.mem_of_mem_take hx))) HD.out)
    have HB1 := Lib.hid hb1
    clear hown hb1
    go_wp2_with fail
    refine HC.out.mono ?_
    rintro e w' ⟨rfl, rfl⟩
    go_wp2_with fail
    refine (HAw.out _).mono ?_
    rintro e w2 ⟨rfl, hb2⟩
    have HB2 := Lib.hid (HB1.out.trans (hb2.mono HB1.out.size))
    clear hb2
    go_wp2
    go_ret
    exact ⟨rfl, HB2.out⟩
theorem mdx_snoc {l : List Nat} {k : Nat} (h : k < l.length) : (shiftL l).take (k + 1) = (shiftL l).take k ++ [4 + l.getD k 0] := by
  rw [List.take_succ_eq_append_getElem (by simpa [shiftL] using h)]
  simp [h, shiftL]

set_option maxHeartbeats 4000000 in
set_option maxRecDepth 100000 in
theorem affine_false (v : Value) (l : List Nat) (w : World) (h : Nats w v l) (hk : Deck 2 l) (hq : capB 2 l = false) :
    Calls Try.prog 17 #[v] w fun e w' => e = .returned (.bool true) ∧ Below w.heap.size w w' := by
  have hl9 : l.length ≤ 9 := up_len hk.1 fun x hx => hk.2 x hx
  have ha : arcB 3 (nats (shiftL l)) = false := (arc_cap hk).trans hq
  have HAw := Lib.hid (fun w => picks_any w)
  have HCl := Lib.hid (fun w' (hb : Below w.heap.size w w') => clone1_any v (nats l) w' (h.below hb (Nat.le_refl _)))
  rw [nats_length] at HCl
  have HCp := Lib.hid (fun v' w' (h' : Nats w' v' l) => Cap_any 2 v' l w' (by decide) (by decide) hk h')
  rw [hq] at HCp
  have HRc := Lib.hid (fun w' (hb : Below w.heap.size w w') => rCards_any 2 v _ w' (h.below hb (Nat.le_refl _)))
  rw [show deckB 2 (nats l) = true from deck_mk (d := 2) (by decide) (by decide) hk] at HRc
  have HCs := Lib.hid (fun v' w' (h' : Nats w' v' (shiftL l)) => clone1_any v' (nats (shiftL l)) w' h')
  have HAr := Lib.hid (fun v' w' (h' : Nats w' v' (shiftL l)) => show Calls Try.prog 58 #[.int .i64 3, v'] w' fun e w'' => e = .returned (.tuple #[.bool false, .int .i64 0]) ∧ Below w'.heap.size w' w'' from (arc_any 3 v' _ w' h').mono fun e w'' hp => by
    obtain ⟨h1, h2⟩ := hp
    rw [if_pos (set_ok hk), show (3:Int).toNat = 3 from rfl, ha] at h1
    exact ⟨h1, h2⟩)
  have HFr := Lib.hid (fun v' w' (h' : Nats w' v' l) => Free_no 2 v' l w' (by decide) (by decide) hk h' hq)
  have HAf := Lib.hid (fun v' w' (h' : Nats w' v' (shiftL l)) => aFree_no v' _ w' h' (set_ok hk) ha)
  have HSb : Hid ((shiftL l).length = l.length ∧ ∀ x ∈ shiftL l, x < 13) := Lib.hid ⟨by simp [shiftL], shift_bd hk⟩
  have HSn := Lib.hid (fun k (hk : k < l.length) => mdx_snoc (l := l) hk)
  have HBd : Hid (∀ x ∈ l, x < 9) := Lib.hid fun x hx => hk.2 x hx
  have HLn : Hid (∀ w' (v' : Value), w'.ownsRow w.heap.size 3 1 v' (shiftL l).length (ints (nats (shiftL l))) → Nats w' v' (shiftL l)) := Lib.hid fun w' v' ho => Nats.of_owns ho (by have := HSb.out.1; omega) fun x hx => by have := HSb.out.2 x hx; omega
  have hm : min (l.length : Int) 12 = l.length := by omega
  have hm2 : min l.length 12 = l.length := by omega
  obtain ⟨i0, hi, hz0, hz1, hz2⟩ := info_parts Try.info3
  obtain ⟨ao, cap, rfl, h1, h2, hxx⟩ := Nats.open h
  have HX := Lib.hid hxx
  have HB0 := Lib.hid (Below.refl w.heap.size w)
  clear h hk hxx hq ha
  generalize shiftL l = S at *
  go_enter Try.func17, Try.ntmps17
  go_wp2_with fail
  refine (HCl.out w HB0.out).mono ?_
  rintro e w1 ⟨a1, c1, rfl, ho1, hb1⟩
  have HN1 : Hid (Nats w1 (.slice a1 l.length c1) l) := Lib.hid (Nats.of_owns ho1 (by omega) fun x hx => by have := HBd.out x hx; omega)
  have HB1 := Lib.hid hb1
  clear ho1 hb1
  go_wp2_with fail
  refine (HCp.out _ w1 HN1.out).mono ?_
  rintro e w2 ⟨rfl, hb2⟩
  have HB2 := Lib.hid (HB1.out.trans (hb2.mono HB1.out.size))
  clear hb2 HN1
  go_wp2_with fail
  refine (HRc.out w2 HB2.out).mono ?_
  rintro e w' ⟨rfl, rfl⟩
  go_wp2_with fail
  go_loopw [5, 39] (fun s i wr => ∃ k : Nat, k ≤ l.length ∧ i = .int .i64 k ∧ wr.ownsRow w.heap.size 3 1 s (S.take k).length (ints (nats (S.take k))) ∧ Below w.heap.size w wr) (fun _ i _ => l.length - (intOf i).toNat)
  case atStart => exact ⟨0, Nat.zero_le _, rfl, World.ownsRow_nil _ _ _ _, HB2.out⟩
  case round =>
    clear HB2
    obtain ⟨k, hk, rfl, hO, hb⟩ := hrel
    have HO := Lib.hid hO
    have HB := Lib.hid hb
    obtain ⟨ao', c', rfl⟩ := owns_form hO
    clear hO hb
    by_cases hlt : k < l.length
    · obtain ⟨b, o, rfl, hck⟩ := HX.out k hlt
      have hck' := ck hck HB.out
      have hz := HBd.out _ (natD_mem hlt)
      have HS := Lib.hid (HSn.out k hlt)
      have hll : (S.take k).length ≤ 100 := by rw [List.length_take]; omega
      clear hck
      generalize l.getD k 0 = z at *
      have hzc : (4:Int) + (z:Int) = ((4 + z : Nat) : Int) := by omega
      have hz13 : 4 + z < 13 := by omega
      generalize 4 + z = r at *
      generalize S.take k = tp at *
      go_wp2_with (at_builtin; refine wpList_append_own _ rfl _ _ 22 rfl w.heap.size 3 i0 (.int .i64 0) 1 8 Try.underlying22 hi hz0 hz1 hz2 rfl (by decide) _ _ _ rfl (HO.out.alloc _) ⟨wr.heap.size, 0, none⟩ 1 1 [.int .i64 (r:Int)] rfl rfl (newOne _ _ _) (oneInt _) (by unfold maxLen; omega) (by omega) (by have := HB.out.size; simp; omega) ?_)
      intro v' w2 hown' hgrow _
      have HR := Lib.hid (nat_step HO.out HB.out HB.out.size hown' hgrow)
      clear hown' hgrow
      go_wp2
      go_roundw
      case rel => exact ⟨k + 1, by omega, vint (by omega), by rw [HS.out]; exact HR.out.1, HR.out.2⟩
      case measure => simp [intOf]; omega
    · obtain rfl : k = l.length := by omega
      have HTk : Hid (S.take l.length = S) := Lib.hid (List.take_of_length_le (by have := HSb.out.1; omega))
      have HSe : Hid (Nats wr (.slice ao' (S.take l.length).length c') S) := Lib.hid (HLn.out wr _ (by have h := HO.out; rw [HTk.out] at h ⊢; exact h))
      generalize (S.take l.length).length = len at *
      clear HO HTk
      go_wp2_with fail
      refine (HCs.out _ wr HSe.out).mono ?_
      rintro e w3 ⟨a3, c3, rfl, ho3, hb3⟩
      have HN3 : Hid (Nats w3 (.slice a3 (nats S).length c3) S) := Lib.hid (Ints.of_owns ho3 (by rw [nats_length]; have := HSb.out.1; omega) (nats_I64 fun x hx => by have := HSb.out.2 x hx; omega))
      have HB3 := Lib.hid (HB.out.trans (hb3.mono HB.out.size))
      have HS3 := Lib.hid (HSe.out.below hb3 (Nat.le_refl _))
      generalize (nats S).length = len2 at *
      clear ho3 hb3 HSe HB
      go_wp2_with fail
      refine (HAr.out _ w3 HN3.out).mono ?_
      rintro e w4 ⟨rfl, hb4⟩
      have HB4 := Lib.hid (HB3.out.trans (hb4.mono HB3.out.size))
      have HS4 := Lib.hid (HS3.out.below hb4 (Nat.le_refl _))
      clear hb4 HS3 HB3 HN3
      go_wp2_with fail
      refine (HCl.out w4 HB4.out).mono ?_
      rintro e w5 ⟨a5, c5, rfl, ho5, hb5⟩
      have HN5 : Hid (Nats w5 (.slice a5 l.length c5) l) := Lib.hid (Nats.of_owns ho5 (by omega) fun x hx => by have := HBd.out x hx; omega)
      have HB5 := Lib.hid (HB4.out.trans (hb5.mono HB4.out.size))
      have HS5 := Lib.hid (HS4.out.below hb5 (Nat.le_refl _))
      clear ho5 hb5 HS4 HB4
      go_wp2_with fail
      refine (HFr.out _ w5 HN5.out).mono ?_
      rintro e w6 ⟨rfl, hb6⟩
      have HB6 := Lib.hid (HB5.out.trans (hb6.mono HB5.out.size))
      have HS6 := Lib.hid (HS5.out.below hb6 (Nat.le_refl _))
      clear hb6 HS5 HB5 HN5
      go_wp2_with fail
      refine (HAf.out _ w6 HS6.out).mono ?_
      rintro e w7 ⟨rfl, hb7⟩
      have HB7 := Lib.hid (HB6.out.trans (hb7.mono HB6.out.size))
      clear hb7 HS6 HB6
      go_wp2_with fail
      refine (HAw.out _).mono ?_
      rintro e w8 ⟨rfl, hb8⟩
      have HB8 := Lib.hid (HB7.out.trans (hb8.mono HB7.out.size))
      clear hb8
      go_wp2
      go_ret
      exact ⟨rfl, HB8.out⟩

set_option maxHeartbeats 4000000 in
set_option maxRecDepth 100000 in
theorem affine_true (v : Value) (l : List Nat) (w : World) (h : Nats w v l) (hk : Deck 2 l) (hq : capB 2 l = true) :
    Calls Try.prog 17 #[v] w fun e w' => e = .returned (.bool true) ∧ Below w.heap.size w w' := by
  have hl9 : l.length ≤ 9 := up_len hk.1 fun x hx => hk.2 x hx
  have ha : arcB 3 (nats (shiftL l)) = true := (arc_cap hk).trans hq
  have HAw := Lib.hid (fun w => picks_any w)
  have HCl := Lib.hid (fun w' (hb : Below w.heap.size w w') => clone1_any v (nats l) w' (h.below hb (Nat.le_refl _)))
  rw [nats_length] at HCl
  have HCp := Lib.hid (fun v' w' (h' : Nats w' v' l) => Cap_any 2 v' l w' (by decide) (by decide) hk h')
  rw [hq] at HCp
  have HRc := Lib.hid (fun w' (hb : Below w.heap.size w w') => rCards_any 2 v _ w' (h.below hb (Nat.le_refl _)))
  rw [show deckB 2 (nats l) = true from deck_mk (d := 2) (by decide) (by decide) hk] at HRc
  have HCs := Lib.hid (fun v' w' (h' : Nats w' v' (shiftL l)) => clone1_any v' (nats (shiftL l)) w' h')
  have HAr := Lib.hid (fun v' w' (h' : Nats w' v' (shiftL l)) => show Calls Try.prog 58 #[.int .i64 3, v'] w' fun e w'' => e = .returned (.tuple #[.bool true, .int .i64 0]) ∧ Below w'.heap.size w' w'' from (arc_any 3 v' _ w' h').mono fun e w'' hp => by
    obtain ⟨h1, h2⟩ := hp
    rw [if_pos (set_ok hk), show (3:Int).toNat = 3 from rfl, ha] at h1
    exact ⟨h1, h2⟩)
  have HFr := Lib.hid (fun v' w' (h' : Nats w' v' l) => Free_any 2 v' l w' (by decide) (by decide) hk h' hq)
  have HAf := Lib.hid (fun v' w' (h' : Nats w' v' (shiftL l)) => aFree_any v' _ w' h' (set_ok hk) (shift_bd hk) ha)
  have HNe := Lib.hid (near_free hk)
  have HEq := Lib.hid (fun v v' w h h' => equal_self v v' (freeL 2 l) w h h')
  have HFb : Hid ((freeL 2 l).length ≤ 100 ∧ ∀ x ∈ freeL 2 l, x < 65536) := Lib.hid ⟨by have := freeL_len 2 l (by decide); omega, fun x hx => by have := freeL_bd 2 l x hx; omega⟩
  have HPb : Hid ((freeP 3 (shiftL l) 13).length ≤ 13 ∧ ∀ x ∈ freeP 3 (shiftL l) 13, x < 13) := Lib.hid ⟨freeP_len _ _ _, freeP_bd _ _ _⟩
  have HSb : Hid ((shiftL l).length = l.length ∧ ∀ x ∈ shiftL l, x < 13) := Lib.hid ⟨by simp [shiftL], shift_bd hk⟩
  have HSn := Lib.hid (fun k (hk : k < l.length) => mdx_snoc (l := l) hk)
  have HBd : Hid (∀ x ∈ l, x < 9) := Lib.hid fun x hx => hk.2 x hx
  have HLn : Hid (∀ w' (v' : Value), w'.ownsRow w.heap.size 3 1 v' (shiftL l).length (ints (nats (shiftL l))) → Nats w' v' (shiftL l)) := Lib.hid fun w' v' ho => Nats.of_owns ho (by have := HSb.out.1; omega) fun x hx => by have := HSb.out.2 x hx; omega
  have hm : min (l.length : Int) 12 = l.length := by omega
  have hm2 : min l.length 12 = l.length := by omega
  obtain ⟨i0, hi, hz0, hz1, hz2⟩ := info_parts Try.info3
  obtain ⟨ao, cap, rfl, h1, h2, hxx⟩ := Nats.open h
  have HX := Lib.hid hxx
  have HB0 := Lib.hid (Below.refl w.heap.size w)
  clear h hk hxx hq ha
  generalize shiftL l = S at *
  generalize freeL 2 l = fs at *
  generalize freeP 3 S 13 = ps at *
  go_enter Try.func17, Try.ntmps17
  go_wp2_with fail
  refine (HCl.out w HB0.out).mono ?_
  rintro e w1 ⟨a1, c1, rfl, ho1, hb1⟩
  have HN1 : Hid (Nats w1 (.slice a1 l.length c1) l) := Lib.hid (Nats.of_owns ho1 (by omega) fun x hx => by have := HBd.out x hx; omega)
  have HB1 := Lib.hid hb1
  clear ho1 hb1
  go_wp2_with fail
  refine (HCp.out _ w1 HN1.out).mono ?_
  rintro e w2 ⟨rfl, hb2⟩
  have HB2 := Lib.hid (HB1.out.trans (hb2.mono HB1.out.size))
  clear hb2 HN1
  go_wp2_with fail
  refine (HRc.out w2 HB2.out).mono ?_
  rintro e w' ⟨rfl, rfl⟩
  go_wp2_with fail
  go_loopw [5, 39] (fun s i wr => ∃ k : Nat, k ≤ l.length ∧ i = .int .i64 k ∧ wr.ownsRow w.heap.size 3 1 s (S.take k).length (ints (nats (S.take k))) ∧ Below w.heap.size w wr) (fun _ i _ => l.length - (intOf i).toNat)
  case atStart => exact ⟨0, Nat.zero_le _, rfl, World.ownsRow_nil _ _ _ _, HB2.out⟩
  case round =>
    clear HB2
    obtain ⟨k, hk, rfl, hO, hb⟩ := hrel
    have HO := Lib.hid hO
    have HB := Lib.hid hb
    obtain ⟨ao', c', rfl⟩ := owns_form hO
    clear hO hb
    by_cases hlt : k < l.length
    · obtain ⟨b, o, rfl, hck⟩ := HX.out k hlt
      have hck' := ck hck HB.out
      have hz := HBd.out _ (natD_mem hlt)
      have HS := Lib.hid (HSn.out k hlt)
      have hll : (S.take k).length ≤ 100 := by rw [List.length_take]; omega
      clear hck
      generalize l.getD k 0 = z at *
      have hzc : (4:Int) + (z:Int) = ((4 + z : Nat) : Int) := by omega
      have hz13 : 4 + z < 13 := by omega
      generalize 4 + z = r at *
      generalize S.take k = tp at *
      go_wp2_with (at_builtin; refine wpList_append_own _ rfl _ _ 22 rfl w.heap.size 3 i0 (.int .i64 0) 1 8 Try.underlying22 hi hz0 hz1 hz2 rfl (by decide) _ _ _ rfl (HO.out.alloc _) ⟨wr.heap.size, 0, none⟩ 1 1 [.int .i64 (r:Int)] rfl rfl (newOne _ _ _) (oneInt _) (by unfold maxLen; omega) (by omega) (by have := HB.out.size; simp; omega) ?_)
      intro v' w2 hown' hgrow _
      have HR := Lib.hid (nat_step HO.out HB.out HB.out.size hown' hgrow)
      clear hown' hgrow
      go_wp2
      go_roundw
      case rel => exact ⟨k + 1, by omega, vint (by omega), by rw [HS.out]; exact HR.out.1, HR.out.2⟩
      case measure => simp [intOf]; omega
    · obtain rfl : k = l.length := by omega
      have HTk : Hid (S.take l.length = S) := Lib.hid (List.take_of_length_le (by have := HSb.out.1; omega))
      have HSe : Hid (Nats wr (.slice ao' (S.take l.length).length c') S) := Lib.hid (HLn.out wr _ (by have h := HO.out; rw [HTk.out] at h ⊢; exact h))
      generalize (S.take l.length).length = len at *
      clear HO HTk
      go_wp2_with fail
      refine (HCs.out _ wr HSe.out).mono ?_
      rintro e w3 ⟨a3, c3, rfl, ho3, hb3⟩
      have HN3 : Hid (Nats w3 (.slice a3 (nats S).length c3) S) := Lib.hid (Ints.of_owns ho3 (by rw [nats_length]; have := HSb.out.1; omega) (nats_I64 fun x hx => by have := HSb.out.2 x hx; omega))
      have HB3 := Lib.hid (HB.out.trans (hb3.mono HB.out.size))
      have HS3 := Lib.hid (HSe.out.below hb3 (Nat.le_refl _))
      generalize (nats S).length = len2 at *
      clear ho3 hb3 HSe HB
      go_wp2_with fail
      refine (HAr.out _ w3 HN3.out).mono ?_
      rintro e w4 ⟨rfl, hb4⟩
      have HB4 := Lib.hid (HB3.out.trans (hb4.mono HB3.out.size))
      have HS4 := Lib.hid (HS3.out.below hb4 (Nat.le_refl _))
      clear hb4 HS3 HB3 HN3
      go_wp2_with fail
      refine (HCl.out w4 HB4.out).mono ?_
      rintro e w5 ⟨a5, c5, rfl, ho5, hb5⟩
      have HN5 : Hid (Nats w5 (.slice a5 l.length c5) l) := Lib.hid (Nats.of_owns ho5 (by omega) fun x hx => by have := HBd.out x hx; omega)
      have HB5 := Lib.hid (HB4.out.trans (hb5.mono HB4.out.size))
      have HS5 := Lib.hid (HS4.out.below hb5 (Nat.le_refl _))
      clear ho5 hb5 HS4 HB4
      go_wp2_with fail
      refine (HFr.out _ w5 HN5.out).mono ?_
      rintro e w6 ⟨v6, rfl, hn6, hb6⟩
      have HB6 := Lib.hid (HB5.out.trans (hb6.mono HB5.out.size))
      have HS6 := Lib.hid (HS5.out.below hb6 (Nat.le_refl _))
      have HN6 := Lib.hid hn6
      clear hb6 hn6 HS5 HB5 HN5
      go_wp2_with fail
      refine (HAf.out _ w6 HS6.out).mono ?_
      rintro e w7 ⟨v7, rfl, hn7, hb7⟩
      have HB7 := Lib.hid (HB6.out.trans (hb7.mono HB6.out.size))
      have HN7 := Lib.hid (HN6.out.below hb7 (Nat.le_refl _))
      obtain ⟨pa, pc, rfl, hp1, hp2, hpx⟩ := Nats.open hn7
      have HPx := Lib.hid hpx
      have hp13 := HPb.out.1
      clear hb7 hn7 hpx HS6 HB6 HN6
      go_wp2_with fail
      go_loopw [12, 86] (fun s i wr => ∃ k : Nat, k ≤ ps.length ∧ i = .int .i64 k ∧ wr.ownsRow w7.heap.size 3 1 s (nearL (ps.take k)).length (ints (nats (nearL (ps.take k)))) ∧ (nearL (ps.take k)).length ≤ k ∧ Below w7.heap.size w7 wr) (fun _ i _ => ps.length - (intOf i).toNat)
      case atStart => exact ⟨0, Nat.zero_le _, rfl, World.ownsRow_nil _ _ _ _, Nat.zero_le _, Below.refl _ _⟩
      case round =>
        obtain ⟨k, hk, rfl, hO, hle, hb⟩ := hrel
        have HO := Lib.hid hO
        have HB := Lib.hid hb
        obtain ⟨ao2, c2, rfl⟩ := owns_form hO
        clear hO hb
        by_cases hlt2 : k < ps.length
        · obtain ⟨b2, o2, rfl, hck⟩ := HPx.out k hlt2
          have hck' := ck hck HB.out
          have hz := HPb.out.2 _ (natD_mem hlt2)
          have HS := Lib.hid (near_snoc ps k hlt2)
          clear hck
          generalize ps.getD k 0 = z at *
          by_cases hz4 : 4 ≤ z
          · rw [if_pos hz4] at HS
            have hzc : (z:Int) - 4 = ((z - 4 : Nat) : Int) := by omega
            generalize z - 4 = r at *
            generalize nearL (ps.take k) = tp at *
            go_wp2_with (at_builtin; refine wpList_append_own _ rfl _ _ 22 rfl w7.heap.size 3 i0 (.int .i64 0) 1 8 Try.underlying22 hi hz0 hz1 hz2 rfl (by decide) _ _ _ rfl (HO.out.alloc _) ⟨wr.heap.size, 0, none⟩ 1 1 [.int .i64 (r:Int)] rfl rfl (newOne _ _ _) (oneInt _) (by unfold maxLen; omega) (by omega) (by have := HB.out.size; simp; omega) ?_)
            intro v' w8 hown' hgrow _
            have HR := Lib.hid (nat_step HO.out HB.out HB.out.size hown' hgrow)
            clear hown' hgrow
            go_wp2
            go_roundw
            case rel => exact ⟨k + 1, by omega, vint (by omega), by rw [HS.out]; exact HR.out.1, by rw [HS.out, List.length_append, List.length_singleton]; omega, HR.out.2⟩
            case measure => simp [intOf]; omega
          · rw [if_neg hz4] at HS
            generalize nearL (ps.take k) = tp at *
            go_wp2
            go_roundw
            case rel => exact ⟨k + 1, by omega, vint (by omega), by rw [HS.out]; exact HO.out, by rw [HS.out]; omega, HB.out⟩
            case measure => simp [intOf]; omega
        · obtain rfl : k = ps.length := by omega
          have HNw : Hid (Nats wr (.slice ao2 (nearL (ps.take ps.length)).length c2) fs) := Lib.hid (by
            have h := HO.out
            rw [List.take_length, HNe.out] at h ⊢
            exact Nats.of_owns h (by have := HFb.out.1; omega) HFb.out.2)
          have HN8 := Lib.hid (HN7.out.below HB.out (Nat.le_refl _))
          have HB8 := Lib.hid (HB7.out.trans (HB.out.mono HB7.out.size))
          generalize (nearL (ps.take ps.length)).length = len3 at *
          clear HO HN7 HB7 HB
          go_wp2_with fail
          refine (HEq.out _ _ wr HN8.out HNw.out).mono ?_
          rintro e w9 ⟨rfl, hb9⟩
          have HB9 := Lib.hid (HB8.out.trans (hb9.mono HB8.out.size))
          clear hb9
          go_wp2_with fail
          refine (HAw.out _).mono ?_
          rintro e w10 ⟨rfl, hb10⟩
          have HB10 := Lib.hid (HB9.out.trans (hb10.mono HB9.out.size))
          clear hb10
          go_wp2
          go_ret
          exact ⟨rfl, HB10.out⟩

theorem topAffine_law (v : Value) (xs : List Int) (w : World) (h : Ints w v xs) :
    Calls Try.prog 17 #[v] w fun e w' => e = .returned (.bool true) ∧ Below w.heap.size w w' := by
  cases hst : deckB 2 xs with
  | false => exact affine_bad v xs w h hst
  | true =>
    obtain ⟨n, l, e, _, _, _, rfl, hk⟩ := deck_nats hst
    obtain rfl : n = 2 := by omega
    cases hq : capB 2 l with
    | false => exact affine_false v l w h hk hq
    | true => exact affine_true v l w h hk hq
end Go.Proofs.Ytlalfjkenkmojaa.Ar
namespace Go.Proofs.Ytlalfjkenkmojaa
theorem topAffine_law (v : Value) (xs : List Int) (w : World) (h : Ints w v xs) :
    Calls Try.prog 17 #[v] w fun e w' => e = .returned (.bool true) ∧ Go.RowKit.Below w.heap.size w w' := Ar.topAffine_law v xs w h
end Go.Proofs.Ytlalfjkenkmojaa
