/- SchemesTold: the walk -/
import Derived.Test.YtdnhfnegnjdeoaaDoorUc
import Derived.Test.YtdnhfnegnjdeoaaDoorDp
import Derived.Test.YtdnhfnegnjdeoaaDoorMc
namespace Go.Proofs.YtdnhfnegnjdeoaaDoor
open Go.RowKit

theorem Reason_told (N K L M : Int) (w : World) (ha : askB N K L M = true) (h0 : reaF N K L M = 0) :
    Calls Tryd.prog 28 #[.agg #[.int .i64 N, .int .i64 K, .int .i64 L, .int .i64 M]] w fun e w' => e = .returned (.tuple #[.int .i64 0, .int .i64 4]) ∧ Below w.heap.size w w' := by
  refine (Reason_exact N K L M w).mono fun e w' h => ?_
  rw [if_pos ha] at h
  obtain ⟨⟨z, hz, he⟩, hb⟩ := h
  rw [reaF_one (ask_of ha) hz, h0] at he
  exact ⟨he, hb⟩
set_option maxRecDepth 100000 in
set_option maxHeartbeats 4000000 in
theorem told_bad (u : Value) (xs : List Int) (w : World) (h : Ints w u xs) (hT : Tab w) (hs : graphB xs = false) :
    Calls Tryd.prog 10 #[u] w fun e w' => e = .returned (.bool true) ∧ Below w.heap.size w w' := by
  have HL := Lib.hid (fun w' (hb : Below w.heap.size w w') => list_any u xs w' (h.below hb (Nat.le_refl _)))
  have HTab := Lib.hid (fun w' (hb : Below w.heap.size w w') => tab_below hT hb)
  have HAw := Lib.hid (fun w' (hb : Below w.heap.size w w') => awake_any w' (HTab.out w' hb))
  have ht : graphB (xs.take 20) = false := by rw [graphB_take, hs]
  have HR := Lib.hid (fun v' w' (h' : Ints w' v' (xs.take 20)) (hT' : Tab w') => Read_bad v' (xs.take 20) w' h' ht hT')
  have HA := Lib.hid (fun v' w' (h' : Ints w' v' (xs.take 20)) (hT' : Tab w') => Other_bad v' (xs.take 20) w' h' ht hT')
  unfold num4 at HR
  clear h hT hs ht
  have HB0 := Lib.hid (Below.refl w.heap.size w)
  go_enter Tryd.func10, Tryd.ntmps10
  go_wp2_with fail
  refine (HL.out w HB0.out).mono ?_
  rintro e w1 ⟨v1, rfl, hv1, hb1⟩
  have HB1 := Lib.hid (HB0.out.trans (hb1.mono HB0.out.size))
  have A_1 := Lib.hid (hv1)
  clear hb1 hv1
  go_wp2_with fail
  refine (HR.out v1 w1 A_1.out (HTab.out w1 HB1.out)).mono ?_
  rintro e w2 ⟨rfl, hb2⟩
  have HB2 := Lib.hid (HB1.out.trans (hb2.mono HB1.out.size))
  have A_2 := Lib.hid (A_1.out.below hb2 (Nat.le_refl _))
  clear hb2
  clear A_2
  have HB3 := Lib.hid (HB2.out.alloc HB2.out.size (.cells #[.int .i64 0, .int .i64 0, .int .i64 0, .int .i64 0] 24))
  go_wp2_with fail
  refine (HL.out _ HB3.out).mono ?_
  rintro e w4 ⟨v4, rfl, hv4, hb4⟩
  have HB4 := Lib.hid (HB3.out.trans (hb4.mono HB3.out.size))
  have A_4 := Lib.hid hv4
  clear hb4 hv4
  go_wp2_with fail
  refine (HA.out v4 w4 A_4.out (HTab.out w4 HB4.out)).mono ?_
  rintro e w5 ⟨rfl, hb5⟩
  have HB5 := Lib.hid (HB4.out.trans (hb5.mono HB4.out.size))
  have A_5 := Lib.hid (A_4.out.below hb5 (Nat.le_refl _))
  clear hb5
  clear A_5
  go_wp2_with fail
  refine (HAw.out w5 HB5.out).mono ?_
  rintro e w6 ⟨rfl, hb6⟩
  have HB6 := Lib.hid (HB5.out.trans (hb6.mono HB5.out.size))
  clear hb6
  go_wp2
  go_ret
  exact ⟨rfl, HB6.out⟩

set_option maxRecDepth 100000 in
set_option maxHeartbeats 8000000 in
theorem told_none (u : Value) (bs : List Nat) (n : Nat) (w : World) (hg : Gr n bs) (h : Nats w u bs) (hT : Tab w) (hr : readP n bs = none) :
    Calls Tryd.prog 10 #[u] w fun e w' => e = .returned (.bool true) ∧ Below w.heap.size w w' := by
  have HL := Lib.hid (fun w' (hb : Below w.heap.size w w') => list_any u (nats bs) w' (h.below hb (Nat.le_refl _)))
  rw [hg.take] at HL
  have HTab := Lib.hid (fun w' (hb : Below w.heap.size w w') => tab_below hT hb)
  have HAw := Lib.hid (fun w' (hb : Below w.heap.size w w') => awake_any w' (HTab.out w' hb))
  have HR := Lib.hid (fun v' w' (h' : Nats w' v' bs) (hT' : Tab w') => Read_any v' bs n w' hg h' hT')
  have HO := Lib.hid (fun v' w' (h' : Nats w' v' bs) (hT' : Tab w') => Other_any v' bs n w' hg h' hT')
  have HG := Lib.hid (fun w' (hb : Below w.heap.size w w') => Graph_any u (nats bs) w' (h.below hb (Nat.le_refl _)))
  rw [graphB_mk hg] at HG
  have HCl := Lib.hid (fun v' w' (h' : Nats w' v' (oth n bs)) => clone_gr v' (oth n bs) n w' (oth_gr hg) h')
  have HRo := Lib.hid (fun v' w' (h' : Nats w' v' (oth n bs)) (hT' : Tab w') => Read_any v' (oth n bs) n w' (oth_gr hg) h' hT')
  have HOo := Lib.hid (fun v' w' (h' : Nats w' v' (oth n bs)) (hT' : Tab w') => Other_any v' (oth n bs) n w' (oth_gr hg) h' hT')
  rw [oth_oth hg] at HOo
  have HEq := Lib.hid (fun v' w' (h' : Nats w' v' bs) (hb : Below w.heap.size w w') => equal_any v' u (nats bs) (nats bs) w' h' (h.below hb (Nat.le_refl _)))
  rw [eqB_refl] at HEq
  rw [hr] at HR
  rw [oth_none hg hr] at HRo
  unfold readV num4 at HR HRo
  obtain ⟨ao, cap, rfl, hcap, hx⟩ := hg.open h
  clear h hg hT hr hx
  have HB0 := Lib.hid (Below.refl w.heap.size w)
  go_enter Tryd.func10, Tryd.ntmps10
  go_wp2_with fail
  refine (HL.out w HB0.out).mono ?_
  rintro e w1 ⟨v1, rfl, hv1, hb1⟩
  have HB1 := Lib.hid (HB0.out.trans (hb1.mono HB0.out.size))
  have A_1 := Lib.hid (hv1)
  clear hb1 hv1
  go_wp2_with fail
  refine (HR.out v1 w1 A_1.out (HTab.out w1 HB1.out)).mono ?_
  rintro e w2 ⟨rfl, hb2⟩
  have HB2 := Lib.hid (HB1.out.trans (hb2.mono HB1.out.size))
  have A_2 := Lib.hid (A_1.out.below hb2 (Nat.le_refl _))
  clear hb2
  clear A_2
  have HB3 := Lib.hid (HB2.out.alloc HB2.out.size (.cells #[.int .i64 0, .int .i64 0, .int .i64 0, .int .i64 0] 24))
  have Q_3 : Hid (QX (w2.alloc (.cells #[.int .i64 0, .int .i64 0, .int .i64 0, .int .i64 0] 24)) w2.heap.size 0 0 0 0) := Lib.hid ⟨Q4.new w2 24 0 0 0 0⟩
  go_wp2_with fail
  refine (HL.out _ HB3.out).mono ?_
  rintro e w4 ⟨v4, rfl, hv4, hb4⟩
  have HB4 := Lib.hid (HB3.out.trans (hb4.mono HB3.out.size))
  have Q_4 := Lib.hid (Q_3.out.below hb4 (Nat.le_refl _))
  have A_4 := Lib.hid hv4
  clear hb4 hv4
  go_wp2_with fail
  refine (HO.out v4 w4 A_4.out (HTab.out w4 HB4.out)).mono ?_
  rintro e w5 ⟨v5, rfl, hv5, hb5⟩
  have HB5 := Lib.hid (HB4.out.trans (hb5.mono HB4.out.size))
  have Q_5 := Lib.hid (Q_4.out.below hb5 (Nat.le_refl _))
  have A_5 := Lib.hid (A_4.out.below hb5 (Nat.le_refl _))
  have S_5 := Lib.hid (hv5)
  clear hb5 hv5
  clear A_5
  go_wp2_with fail
  refine (HG.out w5 HB5.out).mono ?_
  rintro e w6 ⟨rfl, hb6⟩
  have HB6 := Lib.hid (HB5.out.trans (hb6.mono HB5.out.size))
  have Q_6 := Lib.hid (Q_5.out.below hb6 (Nat.le_refl _))
  have S_6 := Lib.hid (S_5.out.below hb6 (Nat.le_refl _))
  clear hb6
  go_wp2_with fail
  refine (HCl.out _ w6 S_6.out).mono ?_
  rintro e w7 ⟨v7, rfl, hv7, hb7⟩
  have HB7 := Lib.hid (HB6.out.trans (hb7.mono HB6.out.size))
  have Q_7 := Lib.hid (Q_6.out.below hb7 (Nat.le_refl _))
  have S_7 := Lib.hid (S_6.out.below hb7 (Nat.le_refl _))
  have C_7 := Lib.hid (hv7)
  clear hb7 hv7
  go_wp2_with fail
  refine (HRo.out _ w7 C_7.out (HTab.out w7 HB7.out)).mono ?_
  rintro e w8 ⟨rfl, hb8⟩
  have HB8 := Lib.hid (HB7.out.trans (hb8.mono HB7.out.size))
  have Q_8 := Lib.hid (Q_7.out.below hb8 (Nat.le_refl _))
  have S_8 := Lib.hid (S_7.out.below hb8 (Nat.le_refl _))
  have C_8 := Lib.hid (C_7.out.below hb8 (Nat.le_refl _))
  clear hb8
  clear C_8
  have ba9 := (Below.refl w8.heap.size w8).alloc (Nat.le_refl _) (.cells #[.int .i64 0, .int .i64 0, .int .i64 0, .int .i64 0] 24)
  have HB9 := Lib.hid (HB8.out.trans (ba9.mono HB8.out.size))
  have Q_9 := Lib.hid (Q_8.out.below ba9 (Nat.le_refl _))
  have S_9 := Lib.hid (S_8.out.below ba9 (Nat.le_refl _))
  have Y_9 : Hid (QX (w8.alloc (.cells #[.int .i64 0, .int .i64 0, .int .i64 0, .int .i64 0] 24)) w8.heap.size 0 0 0 0) := Lib.hid ⟨Q4.new w8 24 0 0 0 0⟩
  clear ba9
  go_wp2_with fail
  refine (HOo.out _ _ S_9.out (HTab.out _ HB9.out)).mono ?_
  rintro e w10 ⟨v10, rfl, hv10, hb10⟩
  have HB10 := Lib.hid (HB9.out.trans (hb10.mono HB9.out.size))
  have Q_10 := Lib.hid (Q_9.out.below hb10 (Nat.le_refl _))
  have Y_10 := Lib.hid (Y_9.out.below hb10 (Nat.le_refl _))
  have A_10 := Lib.hid hv10
  clear hb10 hv10
  go_wp2_with fail
  refine (HEq.out _ w10 A_10.out HB10.out).mono ?_
  rintro e w11 ⟨rfl, hb11⟩
  have HB11 := Lib.hid (HB10.out.trans (hb11.mono HB10.out.size))
  have Q_11 := Lib.hid (Q_10.out.below hb11 (Nat.le_refl _))
  have Y_11 := Lib.hid (Y_10.out.below hb11 (Nat.le_refl _))
  have A_11 := Lib.hid (A_10.out.below hb11 (Nat.le_refl _))
  clear hb11
  clear A_11
  go_wp2_with fail
  refine (HAw.out w11 HB11.out).mono ?_
  rintro e w12 ⟨rfl, hb12⟩
  have HB12 := Lib.hid (HB11.out.trans (hb12.mono HB11.out.size))
  have Q_12 := Lib.hid (Q_11.out.below hb12 (Nat.le_refl _))
  have Y_12 := Lib.hid (Y_11.out.below hb12 (Nat.le_refl _))
  clear hb12
  go_wp2
  go_ret
  exact ⟨rfl, HB12.out⟩

set_option maxRecDepth 100000 in
set_option maxHeartbeats 8000000 in
theorem told_good (u : Value) (bs : List Nat) (n : Nat) (w : World) (hg : Gr n bs) (h : Nats w u bs) (hT : Tab w) (K L M : Nat) (hr : readP n bs = some (K, L, M)) :
    Calls Tryd.prog 10 #[u] w fun e w' => e = .returned (.bool true) ∧ Below w.heap.size w w' := by
  have HL := Lib.hid (fun w' (hb : Below w.heap.size w w') => list_any u (nats bs) w' (h.below hb (Nat.le_refl _)))
  rw [hg.take] at HL
  have HTab := Lib.hid (fun w' (hb : Below w.heap.size w w') => tab_below hT hb)
  have HAw := Lib.hid (fun w' (hb : Below w.heap.size w w') => awake_any w' (HTab.out w' hb))
  have HR := Lib.hid (fun v' w' (h' : Nats w' v' bs) (hT' : Tab w') => Read_any v' bs n w' hg h' hT')
  have HO := Lib.hid (fun v' w' (h' : Nats w' v' bs) (hT' : Tab w') => Other_any v' bs n w' hg h' hT')
  have HG := Lib.hid (fun w' (hb : Below w.heap.size w w') => Graph_any u (nats bs) w' (h.below hb (Nat.le_refl _)))
  rw [graphB_mk hg] at HG
  have HCl := Lib.hid (fun v' w' (h' : Nats w' v' (oth n bs)) => clone_gr v' (oth n bs) n w' (oth_gr hg) h')
  have HRo := Lib.hid (fun v' w' (h' : Nats w' v' (oth n bs)) (hT' : Tab w') => Read_any v' (oth n bs) n w' (oth_gr hg) h' hT')
  have HOo := Lib.hid (fun v' w' (h' : Nats w' v' (oth n bs)) (hT' : Tab w') => Other_any v' (oth n bs) n w' (oth_gr hg) h' hT')
  rw [oth_oth hg] at HOo
  have HEq := Lib.hid (fun v' w' (h' : Nats w' v' bs) (hb : Below w.heap.size w w') => equal_any v' u (nats bs) (nats bs) w' h' (h.below hb (Nat.le_refl _)))
  rw [eqB_refl] at HEq
  obtain ⟨K', L', M', ek, el, em, hro⟩ := oth_read hg hr
  rw [hr] at HR
  rw [hro] at HRo
  unfold readV num4 at HR HRo
  obtain ⟨a1, a2⟩ := read_told hg hr
  obtain ⟨a3, a4⟩ := read_told (oth_gr hg) hro
  obtain ⟨bK, bL, bM⟩ := readP_le hr
  obtain ⟨bK', bL', bM'⟩ := readP_le hro
  have hn16 := hg.le
  have HS1 := Lib.hid (fun w => Reason_told n K L M w a1 a2)
  have HS2 := Lib.hid (fun w => Reason_told n K' L' M' w a3 a4)
  have HO51 : Hid (∀ w, Calls Tryd.prog 51 #[.agg #[.int .i64 n, .int .i64 K, .int .i64 L, .int .i64 M]] w fun e w' => e = .returned (.agg #[.int .i64 n, .int .i64 K', .int .i64 L', .int .i64 M']) ∧ Below w.heap.size w w') :=
    Lib.hid fun w => by
      have := other51_any n K L M w (by omega) (by omega) (by omega) (by omega)
      unfold num4 at this
      rwa [← ek, ← el, ← em] at this
  have hsr := readP_srg hg hr
  have HDeg := Lib.hid hsr.deg
  have HCom := Lib.hid hsr.com
  have HG16 := Lib.hid (fun k => hg.get16 k)
  obtain ⟨ao, cap, rfl, hcap, hx⟩ := hg.open h
  have HX := Lib.hid hx
  clear h hg hT hr hx hro a1 a2 a3 a4 hsr ek el em
  have HB0 := Lib.hid (Below.refl w.heap.size w)
  go_enter Tryd.func10, Tryd.ntmps10
  go_wp2_with fail
  refine (HL.out w HB0.out).mono ?_
  rintro e w1 ⟨v1, rfl, hv1, hb1⟩
  have HB1 := Lib.hid (HB0.out.trans (hb1.mono HB0.out.size))
  have A_1 := Lib.hid (hv1)
  clear hb1 hv1
  go_wp2_with fail
  refine (HR.out v1 w1 A_1.out (HTab.out w1 HB1.out)).mono ?_
  rintro e w2 ⟨rfl, hb2⟩
  have HB2 := Lib.hid (HB1.out.trans (hb2.mono HB1.out.size))
  have A_2 := Lib.hid (A_1.out.below hb2 (Nat.le_refl _))
  clear hb2
  clear A_2
  have HB3 := Lib.hid (HB2.out.alloc HB2.out.size (.cells #[.int .i64 n, .int .i64 K, .int .i64 L, .int .i64 M] 24))
  have Q_3 : Hid (QX (w2.alloc (.cells #[.int .i64 n, .int .i64 K, .int .i64 L, .int .i64 M] 24)) w2.heap.size n K L M) := Lib.hid ⟨Q4.new w2 24 n K L M⟩
  go_wp2_with fail
  refine (HL.out _ HB3.out).mono ?_
  rintro e w4 ⟨v4, rfl, hv4, hb4⟩
  have HB4 := Lib.hid (HB3.out.trans (hb4.mono HB3.out.size))
  have Q_4 := Lib.hid (Q_3.out.below hb4 (Nat.le_refl _))
  have A_4 := Lib.hid hv4
  clear hb4 hv4
  go_wp2_with fail
  refine (HO.out v4 w4 A_4.out (HTab.out w4 HB4.out)).mono ?_
  rintro e w5 ⟨v5, rfl, hv5, hb5⟩
  have HB5 := Lib.hid (HB4.out.trans (hb5.mono HB4.out.size))
  have Q_5 := Lib.hid (Q_4.out.below hb5 (Nat.le_refl _))
  have A_5 := Lib.hid (A_4.out.below hb5 (Nat.le_refl _))
  have S_5 := Lib.hid (hv5)
  clear hb5 hv5
  clear A_5
  go_wp2_with fail
  refine (HG.out w5 HB5.out).mono ?_
  rintro e w6 ⟨rfl, hb6⟩
  have HB6 := Lib.hid (HB5.out.trans (hb6.mono HB5.out.size))
  have Q_6 := Lib.hid (Q_5.out.below hb6 (Nat.le_refl _))
  have S_6 := Lib.hid (S_5.out.below hb6 (Nat.le_refl _))
  clear hb6
  go_wp2_with fail
  refine (HCl.out _ w6 S_6.out).mono ?_
  rintro e w7 ⟨v7, rfl, hv7, hb7⟩
  have HB7 := Lib.hid (HB6.out.trans (hb7.mono HB6.out.size))
  have Q_7 := Lib.hid (Q_6.out.below hb7 (Nat.le_refl _))
  have S_7 := Lib.hid (S_6.out.below hb7 (Nat.le_refl _))
  have C_7 := Lib.hid (hv7)
  clear hb7 hv7
  go_wp2_with fail
  refine (HRo.out _ w7 C_7.out (HTab.out w7 HB7.out)).mono ?_
  rintro e w8 ⟨rfl, hb8⟩
  have HB8 := Lib.hid (HB7.out.trans (hb8.mono HB7.out.size))
  have Q_8 := Lib.hid (Q_7.out.below hb8 (Nat.le_refl _))
  have S_8 := Lib.hid (S_7.out.below hb8 (Nat.le_refl _))
  have C_8 := Lib.hid (C_7.out.below hb8 (Nat.le_refl _))
  clear hb8
  clear C_8
  have ba9 := (Below.refl w8.heap.size w8).alloc (Nat.le_refl _) (.cells #[.int .i64 n, .int .i64 K', .int .i64 L', .int .i64 M'] 24)
  have HB9 := Lib.hid (HB8.out.trans (ba9.mono HB8.out.size))
  have Q_9 := Lib.hid (Q_8.out.below ba9 (Nat.le_refl _))
  have S_9 := Lib.hid (S_8.out.below ba9 (Nat.le_refl _))
  have Y_9 : Hid (QX (w8.alloc (.cells #[.int .i64 n, .int .i64 K', .int .i64 L', .int .i64 M'] 24)) w8.heap.size n K' L' M') := Lib.hid ⟨Q4.new w8 24 n K' L' M'⟩
  clear ba9
  go_wp2_with fail
  refine (HOo.out _ _ S_9.out (HTab.out _ HB9.out)).mono ?_
  rintro e w10 ⟨v10, rfl, hv10, hb10⟩
  have HB10 := Lib.hid (HB9.out.trans (hb10.mono HB9.out.size))
  have Q_10 := Lib.hid (Q_9.out.below hb10 (Nat.le_refl _))
  have Y_10 := Lib.hid (Y_9.out.below hb10 (Nat.le_refl _))
  have A_10 := Lib.hid hv10
  clear hb10 hv10
  go_wp2_with fail
  refine (HEq.out _ w10 A_10.out HB10.out).mono ?_
  rintro e w11 ⟨rfl, hb11⟩
  have HB11 := Lib.hid (HB10.out.trans (hb11.mono HB10.out.size))
  have Q_11 := Lib.hid (Q_10.out.below hb11 (Nat.le_refl _))
  have Y_11 := Lib.hid (Y_10.out.below hb11 (Nat.le_refl _))
  have A_11 := Lib.hid (A_10.out.below hb11 (Nat.le_refl _))
  clear hb11
  clear A_11
  obtain ⟨wz, hwz⟩ : ∃ wz, wz = w11 := ⟨_, rfl⟩
  subst hwz
  have HBz := HB11
  have Qz := Q_11
  have Yz := Y_11
  clear HB0 HL HR HO HG HCl HRo HOo HEq
  go_wp2
  go_loopw [79] (fun i wr => ∃ k : Nat, k ≤ n ∧ i = .int .i64 k ∧ Below wz.heap.size wz wr) (fun i _ => n - (intOf i).toNat)
  case atStart => exact ⟨0, Nat.zero_le _, rfl, Below.refl _ _⟩
  case round =>
    obtain ⟨k, hk, rfl, hb⟩ := hrel
    have HB := Lib.hid hb
    by_cases hkn : k < n
    · have hkn2 : (k:Int) < (n:Int) := by omega
      clear hb
      go_wp2
      go_loopw [84] (fun i wr => ∃ j : Nat, j ≤ n ∧ i = .int .i64 j ∧ Below wz.heap.size wz wr) (fun i _ => n - (intOf i).toNat)
      case atStart => exact ⟨0, Nat.zero_le _, rfl, HB.out⟩
      case round =>
        obtain ⟨j, hj, rfl, hb⟩ := hrel
        have HBj := Lib.hid hb
        by_cases hjn : j < n
        · have hjn2 : (j:Int) < (n:Int) := by omega
          have hQ := Qz.out.below hb (Nat.le_refl _)
          have q1 := hQ.q.c1
          have q2 := hQ.q.c2
          have q3 := hQ.q.c3
          have HBd := Lib.hid (fun nq : Nat => below_drewN hb nq)
          have hbw := HBz.out.trans (hb.mono HBz.out.size)
          obtain ⟨b1, o1, e1, hckk⟩ := HX.out k hkn
          cases e1
          have hckk1 := ck hckk hbw
          have hrk := HG16.out k
          by_cases e : k = j
          · subst e
            have hc : pop 16 (bs.getD k 0 &&& bs.getD k 0) = K := by rw [Nat.and_self]; exact HDeg.out k hkn
            have hAND := i64_and (bs.getD k 0) (bs.getD k 0) (by omega) (by omega)
            have HC := Lib.hid (fun w => rsize53_any (bs.getD k 0 &&& bs.getD k 0) w (Nat.lt_of_le_of_lt Nat.and_le_left hrk))
            rw [hc] at HC
            clear hb hbw hckk hc hQ
            generalize bs.getD k 0 = r at *
            generalize r &&& r = rr at *
            go_wp2_with fail
            go_quiet ((go_at_call 53; exact quiet_eq (HC.out _)))
            go_wp2_with fail
            go_roundw
            case rel => exact ⟨k + 1, by omega, by go_num, HBd.out nq⟩
            case measure => simp [intOf]; omega
          · have hkj : ((k:Int) == (j:Int)) = false := by simp; omega
            obtain ⟨b1, o1, e1, hckj⟩ := HX.out j hjn
            cases e1
            have hckj1 := ck hckj hbw
            have hrj := HG16.out j
            have hc := HCom.out k j hkn hjn e
            unfold com at hc
            have hAND := i64_and (bs.getD k 0) (bs.getD j 0) (by omega) (by omega)
            have HC := Lib.hid (fun w => rsize53_any (bs.getD k 0 &&& bs.getD j 0) w (Nat.lt_of_le_of_lt Nat.and_le_left hrk))
            rw [hc] at HC
            have hbj := bit_and1 (bs.getD k 0) j hrk
            have hadj : (bs.getD k 0).testBit j = adj bs k j := rfl
            rw [hadj] at hbj
            clear hb hbw hckk hckj hc hQ hadj
            generalize adj bs k j = t at *
            generalize bs.getD k 0 = r at *
            generalize bs.getD j 0 = rj at *
            generalize r &&& rj = rr at *
            cases t with
            | true =>
              have hbj1 : bits .and .i64 ((r:Int) / 2 ^ j) 1 = 1 := hbj
              rw [if_pos rfl] at HC
              clear hbj
              go_wp2_with fail
              go_quiet ((go_at_call 53; exact quiet_eq (HC.out _)))
              go_wp2_with fail
              go_roundw
              case rel => exact ⟨j + 1, by omega, by go_num, HBd.out nq⟩
              case measure => simp [intOf]; omega
            | false =>
              have hbj1 : bits .and .i64 ((r:Int) / 2 ^ j) 1 = 0 := hbj
              rw [if_neg (by decide)] at HC
              clear hbj
              go_wp2_with fail
              go_quiet ((go_at_call 53; exact quiet_eq (HC.out _)))
              go_wp2_with fail
              go_roundw
              case rel => exact ⟨j + 1, by omega, by go_num, HBd.out nq⟩
              case measure => simp [intOf]; omega
        · obtain rfl : j = n := by omega
          clear hb
          go_wp2
          go_roundw
          case rel => exact ⟨k + 1, by omega, by go_num, HBj.out⟩
          case measure => simp [intOf]; omega
    · obtain rfl : k = n := by omega
      have HBw := Lib.hid (HBz.out.trans (hb.mono HBz.out.size))
      have Qr := Lib.hid (Qz.out.below hb (Nat.le_refl _))
      have Yr := Lib.hid (Yz.out.below hb (Nat.le_refl _))
      clear hb HB
      have q0 := Qr.out.q.c0
      have q1 := Qr.out.q.c1
      have q2 := Qr.out.q.c2
      have q3 := Qr.out.q.c3
      go_wp2_with fail
      refine (HS1.out _).mono ?_
      rintro e wa ⟨rfl, hba⟩
      have HBa := Lib.hid (HBw.out.trans (hba.mono HBw.out.size))
      have Qa := Lib.hid (Qr.out.below hba (Nat.le_refl _))
      have Ya := Lib.hid (Yr.out.below hba (Nat.le_refl _))
      clear hba q0 q1 q2 q3
      have y0 := Ya.out.q.c0
      have y1 := Ya.out.q.c1
      have y2 := Ya.out.q.c2
      have y3 := Ya.out.q.c3
      go_wp2_with fail
      refine (HS2.out _).mono ?_
      rintro e W ⟨rfl, hbb⟩
      have HBb := Lib.hid (HBa.out.trans (hbb.mono HBa.out.size))
      have Qb := Qa.out.below hbb (Nat.le_refl _)
      have Yb := Ya.out.below hbb (Nat.le_refl _)
      clear hbb y0 y1 y2 y3
      have x0 := Qb.q.c0
      have x1 := Qb.q.c1
      have x2 := Qb.q.c2
      have x3 := Qb.q.c3
      have y0 := Yb.q.c0
      have y1 := Yb.q.c1
      have y2 := Yb.q.c2
      have y3 := Yb.q.c3
      have HBW := Lib.hid (fun w' (hb : Below W.heap.size W w') => HBb.out.trans (hb.mono HBb.out.size))
      have hw0 : IntKind.i64.wrap (k:Int) = (k:Int) := IntWalk.i64_in _ (by omega)
      have hw1 : IntKind.i64.wrap (K':Int) = (K':Int) := IntWalk.i64_in _ (by omega)
      have hw2 : IntKind.i64.wrap (L':Int) = (L':Int) := IntWalk.i64_in _ (by omega)
      have hw3 : IntKind.i64.wrap (M':Int) = (M':Int) := IntWalk.i64_in _ (by omega)
      clear Qb Yb HS1 HS2 HX HDeg HCom HG16
      go_wp2_with fail
      go_region_held3 (fun w' => w'.cell? ⟨w2.heap.size, 0, none⟩ = some (.int .i64 k) ∧ w'.cell? ⟨w2.heap.size, 1, none⟩ = some (.int .i64 K) ∧ w'.cell? ⟨w2.heap.size, 2, none⟩ = some (.int .i64 L) ∧ w'.cell? ⟨w2.heap.size, 3, none⟩ = some (.int .i64 M) ∧
          w'.cell? ⟨w8.heap.size, 0, none⟩ = some (.int .i64 k) ∧ w'.cell? ⟨w8.heap.size, 1, none⟩ = some (.int .i64 K') ∧ w'.cell? ⟨w8.heap.size, 2, none⟩ = some (.int .i64 L') ∧ w'.cell? ⟨w8.heap.size, 3, none⟩ = some (.int .i64 M') ∧ Below W.heap.size W w')
        (first | exact ⟨x0, x1, x2, x3, y0, y1, y2, y3, (Below.refl _ _).drew⟩ | (obtain ⟨k0, k1, k2, k3, k4, k5, k6, k7, kb⟩ := ‹_ ∧ _›; exact ⟨ck k0 hbx, ck k1 hbx, ck k2 hbx, ck k3 hbx, ck k4 hbx, ck k5 hbx, ck k6 hbx, ck k7 hbx, kb.trans (hbx.mono kb.size)⟩))
        (first | (go_at_call 51; refine (HO51.out _).mono ?_; rintro e w' ⟨rfl, hbx⟩) | (go_at_call 22; refine (HAw.out _ (HBW.out _ (by obtain ⟨_, _, _, _, _, _, _, _, kb⟩ := ‹_ ∧ _›; exact kb))).mono ?_; rintro e w' ⟨rfl, hbx⟩))
      go_wp2
      go_ret
      obtain ⟨_, _, _, _, _, _, _, _, kb⟩ := ‹_ ∧ _›
      exact ⟨rfl, HBW.out _ kb⟩

theorem schemesTold_law (u : Value) (xs : List Int) (w : World) (h : Ints w u xs) (hT : Tab w) :
    Calls Tryd.prog 10 #[u] w fun e w' => e = .returned (.bool true) ∧ Below w.heap.size w w' := by
  cases hs : graphB xs with
  | false => exact told_bad u xs w h hT hs
  | true =>
    obtain ⟨bs, rfl, hg⟩ := graphB_of hs
    cases hr : readP (nats bs).length bs with
    | none => exact told_none u bs _ w hg h hT hr
    | some p => obtain ⟨K, L, M⟩ := p; exact told_good u bs _ w hg h hT K L M hr
end Go.Proofs.YtdnhfnegnjdeoaaDoor
