/- RooksHits: the walk -/
import Derived.Test.YtellnklbkjajbaaDoorHq
import Derived.Test.YtellnklbkjajbaaDoorHc
import Derived.Test.YtellnklbkjajbaaDoorHn
import Derived.Test.YtellnklbkjajbaaDoorCt
namespace Go.Proofs.YtellnklbkjajbaaDoor
open Go.RowKit

def HBlk (w : World) (A : Nat) (vs : List Int) : Prop := IBlk w A vs
theorem HBlk.below {w w' : World} {A : Nat} {vs : List Int} (h : HBlk w A vs) (hb : Below w.heap.size w w') (_ : w.heap.size ≤ w.heap.size) : HBlk w' A vs := IBlk.below h hb
theorem Hits_blk (v : Value) (bs : List Nat) (n : Nat) (w : World) (hb : Brd n bs) (h : Nats w v bs) (hT : Tab w) :
    Calls Tryd.prog 17 #[v] w fun e w' => ∃ A, e = .returned (.tuple #[.slice (some ⟨A, 0, none⟩) (n + 1) (n + 1), .int .i64 0]) ∧ (w.heap.size ≤ A ∧ HBlk w' A (hitsL bs)) ∧ Below w.heap.size w w' :=
  (Hits_new v bs n w hb h hT).mono fun _ _ ⟨A, he, h1, h2, h3⟩ => ⟨A, he, ⟨h1, h2⟩, h3⟩
theorem wrap_i64 (x : Int) : IntKind.i64.wrap x = wrap64 x := IntWalk.i64_left x

set_option maxHeartbeats 4000000 in
set_option maxRecDepth 100000 in
theorem rooksHits_bad (v : Value) (xs : List Int) (w : World) (h : Ints w v xs) (hs : boardB xs = false) (hT : Tab w) :
    Calls Tryd.prog 10 #[v] w fun e w' => e = .returned (.bool true) ∧ Below w.heap.size w w' := by
  have HL := Lib.hid (fun w' (hb : Below w.heap.size w w') => list_any v xs w' (h.below hb (Nat.le_refl _)))
  have HAw := Lib.hid (fun w' (hb : Below w.heap.size w w') => awake_any w' (tab_block hT (hb.block 1 (tab_lt hT))))
  have HRk := Lib.hid (fun v' w' (h' : Ints w' v' (xs.take 9)) => Rooks_bad v' (xs.take 9) w' (by rw [boardB_take, hs]) h')
  have HHt := Lib.hid (fun v' w' (h' : Ints w' v' (xs.take 9)) => Hits_bad v' (xs.take 9) w' (by rw [boardB_take, hs]) h')
  have HOt := Lib.hid (fun v' w' (h' : Ints w' v' (xs.take 9)) => Other_bad v' (xs.take 9) w' (by rw [boardB_take, hs]) h')
  clear hs h hT
  have HB0 := Lib.hid (Below.refl w.heap.size w)
  go_enter Tryd.func10, Tryd.ntmps10
  go_wp2_with fail
  refine (HL.out w HB0.out).mono ?_
  rintro e w1 ⟨v1, rfl, hv1, hb1⟩
  have HB1 := Lib.hid (HB0.out.trans (hb1.mono HB0.out.size))
  have A_1 := Lib.hid (hv1)
  clear hb1 hv1
  go_wp2_with fail
  refine (HRk.out v1 w1 A_1.out).mono ?_
  rintro e w' ⟨rfl, rfl⟩
  clear A_1
  go_wp2_with fail
  refine (HL.out w1 HB1.out).mono ?_
  rintro e w2 ⟨v2, rfl, hv2, hb2⟩
  have HB2 := Lib.hid (HB1.out.trans (hb2.mono HB1.out.size))
  have A_2 := Lib.hid (hv2)
  clear hb2 hv2
  go_wp2_with fail
  refine (HHt.out v2 w2 A_2.out).mono ?_
  rintro e w3 ⟨rfl, hb3⟩
  have HB3 := Lib.hid (HB2.out.trans (hb3.mono HB2.out.size))
  have A_3 := Lib.hid (A_2.out.below hb3 (Nat.le_refl _))
  clear hb3
  clear A_3
  go_wp2_with fail
  refine (HL.out w3 HB3.out).mono ?_
  rintro e w4 ⟨v4, rfl, hv4, hb4⟩
  have HB4 := Lib.hid (HB3.out.trans (hb4.mono HB3.out.size))
  have A_4 := Lib.hid (hv4)
  clear hb4 hv4
  go_wp2_with fail
  refine (HOt.out v4 w4 A_4.out).mono ?_
  rintro e w' ⟨rfl, rfl⟩
  clear A_4
  go_wp2_with fail
  refine (HAw.out w4 HB4.out).mono ?_
  rintro e w5 ⟨rfl, hb5⟩
  have HB5 := Lib.hid (HB4.out.trans (hb5.mono HB4.out.size))
  clear hb5
  go_wp2
  go_ret
  exact ⟨rfl, HB5.out⟩

set_option maxHeartbeats 8000000 in
set_option maxRecDepth 100000 in
theorem rooksHits_good (v : Value) (bs : List Nat) (n : Nat) (w : World) (h : Nats w v bs) (hb : Brd n bs) (hT : Tab w) :
    Calls Tryd.prog 10 #[v] w fun e w' => e = .returned (.bool true) ∧ Below w.heap.size w w' := by
  have HL := Lib.hid (fun w' (hb : Below w.heap.size w w') => list_any v (nats bs) w' (h.below hb (Nat.le_refl _)))
  have HTab := Lib.hid (fun w' (hb : Below w.heap.size w w') => tab_block hT (hb.block 1 (tab_lt hT)))
  have HAw := Lib.hid (fun w' (hb : Below w.heap.size w w') => awake_any w' (HTab.out w' hb))
  have hlen := hb.len
  have hn6 := hb.le
  have hn1 := hb.pos
  have ht : (nats bs).take 9 = nats bs := List.take_of_length_le (by rw [nats_length]; omega)
  rw [ht] at HL
  have HRk := Lib.hid (fun v' w' (h' : Nats w' v' bs) (hT' : Tab w') => Rooks_val v' bs n w' hb h' hT')
  have HHt := Lib.hid (fun v' w' (h' : Nats w' v' bs) (hT' : Tab w') => Hits_blk v' bs n w' hb h' hT')
  have HOt := Lib.hid (fun v' w' (h' : Nats w' v' bs) => Other_val v' bs n w' hb h')
  have HHo := Lib.hid (fun v' w' (h' : Nats w' v' (otherL n bs)) (hT' : Tab w') => Hits_blk v' (otherL n bs) n w' (other_brd hb) h' hT')
  have HWant := Lib.hid (fun (k : Nat) (hk : k ≤ n) => hits_want hb hk)
  have HRev := Lib.hid (hits_other hb)
  have hLx : (rookL bs).length = n + 1 := by rw [rookL_length, hlen]
  have hLy : (hitsL bs).length = n + 1 := by rw [hitsL_length, hlen]
  have hLz : (hitsL (otherL n bs)).length = n + 1 := by rw [hitsL_length, otherL_length, hlen]
  obtain ⟨ao, cap, rfl, _, _, _⟩ := Nats.open h
  rw [hlen] at *
  have q1 : ((n:Int) + 1 != (n:Int) + 1) = false := bne_self_eq_false _
  have q2 : ¬ (6 < (n:Int)) := by omega
  clear ht hb hT h
  have HB0 := Lib.hid (Below.refl w.heap.size w)
  go_enter Tryd.func10, Tryd.ntmps10
  go_wp2_with fail
  refine (HL.out w HB0.out).mono ?_
  rintro e w1 ⟨v1, rfl, hv1, hb1⟩
  have HB1 := Lib.hid (HB0.out.trans (hb1.mono HB0.out.size))
  have A_1 := Lib.hid (hv1)
  clear hb1 hv1
  go_wp2_with fail
  refine (HRk.out v1 w1 A_1.out (HTab.out w1 HB1.out)).mono ?_
  rintro e w2 ⟨v2, rfl, hv2, hb2⟩
  have HB2 := Lib.hid (HB1.out.trans (hb2.mono HB1.out.size))
  have A_2 := Lib.hid (A_1.out.below hb2 (Nat.le_refl _))
  have X_2 := Lib.hid (hv2)
  clear hb2 hv2
  clear A_2
  go_wp2_with fail
  refine (HL.out w2 HB2.out).mono ?_
  rintro e w3 ⟨v3, rfl, hv3, hb3⟩
  have HB3 := Lib.hid (HB2.out.trans (hb3.mono HB2.out.size))
  have X_3 := Lib.hid (X_2.out.below hb3 (Nat.le_refl _))
  have A_3 := Lib.hid (hv3)
  clear hb3 hv3
  go_wp2_with fail
  refine (HHt.out v3 w3 A_3.out (HTab.out w3 HB3.out)).mono ?_
  rintro e w4 ⟨v4, rfl, hv4, hb4⟩
  have HB4 := Lib.hid (HB3.out.trans (hb4.mono HB3.out.size))
  have X_4 := Lib.hid (X_3.out.below hb4 (Nat.le_refl _))
  have A_4 := Lib.hid (A_3.out.below hb4 (Nat.le_refl _))
  have Y_4 := Lib.hid (hv4.2)
  clear hb4 hv4
  clear A_4
  go_wp2_with fail
  refine (HL.out w4 HB4.out).mono ?_
  rintro e w5 ⟨v5, rfl, hv5, hb5⟩
  have HB5 := Lib.hid (HB4.out.trans (hb5.mono HB4.out.size))
  have X_5 := Lib.hid (X_4.out.below hb5 (Nat.le_refl _))
  have Y_5 := Lib.hid (Y_4.out.below hb5 (Nat.le_refl _))
  have A_5 := Lib.hid (hv5)
  clear hb5 hv5
  go_wp2_with fail
  refine (HOt.out v5 w5 A_5.out).mono ?_
  rintro e w6 ⟨v6, rfl, hv6, hb6⟩
  have HB6 := Lib.hid (HB5.out.trans (hb6.mono HB5.out.size))
  have X_6 := Lib.hid (X_5.out.below hb6 (Nat.le_refl _))
  have Y_6 := Lib.hid (Y_5.out.below hb6 (Nat.le_refl _))
  have A_6 := Lib.hid (A_5.out.below hb6 (Nat.le_refl _))
  have O_6 := Lib.hid (hv6)
  clear hb6 hv6
  clear A_6
  go_wp2_with fail
  refine (HHo.out v6 w6 O_6.out (HTab.out w6 HB6.out)).mono ?_
  rintro e w7 ⟨v7, rfl, ⟨hs, hv7⟩, hb7⟩
  have HB7 := Lib.hid (HB6.out.trans (hb7.mono HB6.out.size))
  have X_7 := Lib.hid (X_6.out.below hb7 (Nat.le_refl _))
  have Y_7 := Lib.hid (Y_6.out.below hb7 (Nat.le_refl _))
  have O_7 := Lib.hid (O_6.out.below hb7 (Nat.le_refl _))
  have Z_7 := Lib.hid (hv7)
  clear hb7 hv7
  clear O_7
  have HX : Hid (∀ k, k < n + 1 → w7.cell? ⟨v2, k, none⟩ = some (.int .i64 ((rookL bs).getD k 0))) := Lib.hid fun k hk => ints_at X_7.out (by rw [hLx]; exact hk)
  have HY : Hid (∀ k, k < n + 1 → w7.cell? ⟨v4, k, none⟩ = some (.int .i64 ((hitsL bs).getD k 0))) := Lib.hid fun k hk => (IBlk.cell Y_7.out (by rw [hLy]; exact hk)).1
  clear HL HRk HHt HOt HHo X_7 hlen
  have HYI := Lib.hid (hitsL_I64 bs)
  generalize hitsL bs = ys at *
  generalize rookL bs = xs at *
  generalize hitsL (otherL n bs) = zs at *
  go_wp2_with fail
  go_loopw [86] (fun ii wr => ∃ k : Nat, k ≤ n + 1 ∧ ii = .int .i64 k ∧ Below w7.heap.size w7 wr) (fun ii _ => n + 1 - (intOf ii).toNat)
  case atStart => exact ⟨0, Nat.zero_le _, rfl, Below.refl _ _⟩
  case round =>
    obtain ⟨k, hk, rfl, hb⟩ := hrel
    have HBr := Lib.hid hb
    clear hb
    rename World => wo
    by_cases hlt : k < n + 1
    · have hlt' : (k:Int) < (n:Int) + 1 := by omega
      go_wp2_with fail
      go_loopw [13, 91] (fun s mm wq => ∃ m : Nat, m ≤ n + 1 ∧ mm = .int .i64 m ∧ s = .int .i64 (accH ys k m) ∧ Below w7.heap.size w7 wq) (fun _ mm _ => n + 1 - (intOf mm).toNat)
      case atStart => exact ⟨0, Nat.zero_le _, rfl, rfl, HBr.out⟩
      case round =>
        obtain ⟨m, hm, rfl, rfl, hb⟩ := hrel
        have HBq := Lib.hid hb
        clear hb
        rename World => wq
        by_cases hltm : m < n + 1
        · have hltm' : (m:Int) < (n:Int) + 1 := by omega
          have hcy := ck (HY.out m hltm) HBq.out
          have HC := Lib.hid (choose_any m k wq (by omega) (by omega))
          have HS : Hid (accH ys k (m + 1) = wrap64 (accH ys k m + wrap64 (ys.getD m 0 * (chooseN m k : Nat)))) := rfl
          generalize accH ys k m = s at *
          generalize ys.getD m 0 = y at *
          generalize chooseN m k = c at *
          go_wp2_with fail
          refine HC.out.mono ?_
          rintro e w8 ⟨rfl, hb8⟩
          have HB8 := Lib.hid (HBq.out.trans (hb8.mono HBq.out.size))
          clear hb8 HC
          go_wp2_with fail
          go_roundw
          case rel => exact ⟨m + 1, by omega, by go_num, by rw [HS.out], HB8.out⟩
          case measure => simp [intOf]; omega
        · obtain rfl : m = n + 1 := by omega
          have hcx := ck (HX.out k hlt) HBq.out
          have HF := Lib.hid (fun w' => factorial_any (n - k) w' (by omega))
          have hnk : IntKind.i64.wrap ((n:Int) - (k:Int)) = ((n - k : Nat) : Int) := by
            have : (n:Int) - (k:Int) = ((n - k : Nat) : Int) := by omega
            rw [this]; exact i64_of (by omega) (by omega)
          have hwant : (accH ys k (n + 1) != IntKind.i64.wrap (xs.getD k 0 * (fac (n - k) : Nat))) = false := by rw [wrap_i64, HWant.out k (by omega)]; exact bne_self_eq_false _
          have hk0 : (0:Int) ≤ (k:Int) := by omega
          generalize accH ys k (n + 1) = s at *
          generalize xs.getD k 0 = x at *
          generalize hd : n - k = d at *
          generalize fac d = f at *
          go_wp2_with fail
          go_region_with (first
            | (go_at_call 43; refine (HF.out _).mono ?_; rintro e w' ⟨rfl, rfl⟩))
          all_goals go_wp2_with fail
          all_goals go_roundw
          all_goals first | exact ⟨k + 1, by omega, by go_num, HBq.out.drew⟩ | (simp [intOf]; omega)
    · obtain rfl : k = n + 1 := by omega
      have HZ : Hid (IBlk wo v7 zs) := Lib.hid (IBlk.below Z_7.out HBr.out)
      have hYb : IBlk wo v4 ys := IBlk.below Y_7.out HBr.out
      have HYb := Lib.hid hYb
      have HRv := Lib.hid (reverse_any v7 (n + 1) zs wo HZ.out hLz (by omega) (by omega))
      have hv7 : v7 < w7.heap.size := IBlk.lt Z_7.out
      clear hYb HZ HX HY HWant
      go_wp2_with fail
      refine HRv.out.mono ?_
      rintro e w8 ⟨⟨rv, rfl⟩, hZ8, hM8⟩
      rw [HRev.out] at hZ8
      have hY8 : IBlk w8 v4 ys := by
        by_cases e : v4 = v7
        · rw [e]; exact hZ8
        · exact HYb.out.mod (hM8.block v4 HYb.out.lt e)
      have hB0 := HB7.out.trans (HBr.out.mono HB7.out.size)
      have hs0 : w.heap.size ≤ v7 := Nat.le_trans HB6.out.size hs
      have hB8 : Below w.heap.size w w8 := ⟨hM8.os.trans hB0.os, hM8.tape.trans hB0.tape, hM8.output.trans hB0.output, Nat.le_trans hB0.size hM8.size, fun j hj => (hM8.block j (Nat.lt_of_lt_of_le hj hB0.size) (by omega)).trans (hB0.block j hj)⟩
      have hYi := hY8.ints (by omega) HYI.out
      have hZi := hZ8.ints (by omega) HYI.out
      rw [hLy] at hYi hZi
      have HE := Lib.hid (equal_any _ _ ys ys w8 hYi hZi)
      rw [eqB_refl] at HE
      have HB8 := Lib.hid hB8
      clear hB0 hB8 hYi hZi hY8 hZ8 hM8 hs0 HRv HYb
      go_wp2_with fail
      refine HE.out.mono ?_
      rintro e w9 ⟨rfl, hb9⟩
      have HB9 := Lib.hid (HB8.out.trans (hb9.mono HB8.out.size))
      clear hb9
      go_wp2_with fail
      refine (HAw.out w9 HB9.out).mono ?_
      rintro e w10 ⟨rfl, hb10⟩
      have HB10 := Lib.hid (HB9.out.trans (hb10.mono HB9.out.size))
      clear hb10
      go_wp2
      go_ret
      exact ⟨rfl, HB10.out⟩

theorem rooksHits_law (v : Value) (xs : List Int) (w : World) (h : Ints w v xs) (hT : Tab w) :
    Calls Tryd.prog 10 #[v] w fun e w' => e = .returned (.bool true) ∧ Below w.heap.size w w' := by
  cases hs : boardB xs with
  | false => exact rooksHits_bad v xs w h hs hT
  | true =>
    obtain ⟨bs, rfl, hb⟩ := boardB_of hs
    exact rooksHits_good v bs _ w h hb hT
end Go.Proofs.YtellnklbkjajbaaDoor
