/- SignsColumns: walks -/
import Derived.Test.YtopmdmafameknaaCb
namespace Go.Proofs.Ytopmdmafameknaa
open Go.RowKit

set_option maxHeartbeats 2000000 in
set_option maxRecDepth 100000 in
theorem cols_F1_true (w : World) (va vb : Value) (r c : Int) (m : Nat) (a : List Nat) (ys : List Int) (hma : Mat m a) (hm : matB 16 ys = false) (ha : Nats w va a) (hb : Ints w vb ys) (hok : balB m a = true) :
    Calls Try.prog 10 #[va, vb, .int .i64 r, .int .i64 c, .int .i64 11] w fun e w' => e = .returned (.bool true) ∧ Below w.heap.size w w' := by
  have HA := Lib.hid (fun w' (hb : Below w.heap.size w w') => list_any va (nats a) w' (ha.below hb (Nat.le_refl _)))
  have HBl := Lib.hid (fun w' (hb' : Below w.heap.size w w') => list_any vb ys w' (hb.below hb' (Nat.le_refl _)))
  have HTi := Lib.hid (fun v v' w' (h : Ints w' v ((nats a).take 20)) (h' : Ints w' v' (ys.take 20)) => times_any v v' ((nats a).take 20) (ys.take 20) w' h h')
  have HMa := Lib.hid (fun w' (hb : Below w.heap.size w w') => matrix_any va (nats a) 16 w' (Nat.le_refl _) (ha.below hb (Nat.le_refl _)))
  rw [matB_mk hma hma.le] at HMa
  have HBal := Lib.hid (fun v w' xs (h : Ints w' v xs) => Balanced_any v xs w' h)
  have HNor := Lib.hid (fun v w' xs (h : Ints w' v xs) => Normal_any v xs w' h)
  rw [nats_take hma] at HA
  have HOv := Lib.hid (fun w' (hb : Below w.heap.size w w') => overN va m a w' (ha.below hb (Nat.le_refl _)) hma)
  have HTu := Lib.hid (fun w' (hb : Below w.heap.size w w') => turned_any va m a r c w' (ha.below hb (Nat.le_refl _)) hma)
  have HCl := Lib.hid (fun v w' (h : Nats w' v (normL m a)) => cloneN v (normL m a) w' (by rw [(norm_mat hma).len]; exact hma.le) (fun x hx => Nat.lt_of_lt_of_le ((norm_mat hma).lt x hx) (pw_nat m hma.le).2) h)
  have HCe := Lib.hid (fun v w' (h : Nats w' v (normL m a)) => norm_cells hma h)
  have hcl := lowN_lt m c
  have PB1 := Lib.hid (fun w w' e (h : BalPost w (nats a) e w') => bal_fine hma hok h)
  have PN := Lib.hid (fun w w' e (h : NormPost w (nats a) e w') => norm_fine hma h)
  have PB2 := Lib.hid (fun w w' e (h : BalPost w (nats (normL m a)) e w') => bal_fine (norm_mat hma) ((bal_norm hma).trans hok) h)
  have PB3 := Lib.hid (fun w w' e (h : BalPost w (nats (overL m a)) e w') => bal_fine (over_mat hma) ((bal_over hma).trans hok) h)
  have PB4 := Lib.hid (fun w w' e (h : BalPost w (nats (turnL m a r (lowN m c))) e w') => bal_fine (turnL_mat hma r _ hcl) ((bal_turn r _).trans hok) h)
  have HD := Lib.hid (fun w' => double_any ((11 : Nat) : Int) w')
  have HQ := Lib.hid (fun w' => squares_any ((11 : Nat) : Int) w')
  have hfin : 3 ≤ m → m % 4 = 0 := fun h => bal_four (of_decide_eq_true hok) h
  have PD := Lib.hid (fun w w' e (h : DoublePost w ((11 : Nat) : Int) e w') => double_bad (by decide) h)
  have PQ := Lib.hid (fun w w' e (h : SquaresPost w ((11 : Nat) : Int) e w') => squares_fine (by decide) h)
  have PBq := Lib.hid (fun w w' e (h : BalPost w (nats (squaresS 11)) e w') => bal_fine (squares_mat (p := 11) (by decide)) bsq11 h)
  have PT := Lib.hid (fun w w' e (h : TimesPost w ((nats a).take 20) (ys.take 20) e w') => times_bad (by rw [matB_take 16 ys (Nat.le_refl _), hm]; exact Bool.and_false _) h)
  have PBb := Lib.hid (fun w w' e (h : BalPost w (ys.take 20) e w') => bal_bad (by rw [matB_take 16 ys (Nat.le_refl _), hm]) h)
  rw [nats_take hma] at HTi PT
  obtain ⟨ao, cap, rfl, _, _⟩ := hma.open ha
  obtain ⟨bo, capb, rfl, _⟩ := hb.open
  have hm16 := hma.le
  have hm1 := hma.pos
  clear ha hb hok hcl hm hma
  have HB0 := Lib.hid (Below.refl w.heap.size w)
  go_enter Try.func10, Try.ntmps10
  go_wp2_with fail
  refine (HA.out w HB0.out).mono ?_
  rintro e w1 ⟨v1, rfl, hv1, hb1⟩
  have HB1 := Lib.hid (HB0.out.trans (hb1.mono HB0.out.size))
  have A_1 := Lib.hid (hv1)
  clear hb1 hv1
  go_wp2_with fail
  refine (HBal.out v1 w1 _ A_1.out).mono ?_
  intro e w2 hq
  obtain ⟨rfl, rfl⟩ := PB1.out _ _ _ hq
  clear hq
  clear A_1
  go_wp2_with fail
  refine (HMa.out w1 HB1.out).mono ?_
  rintro e w' ⟨rfl, rfl⟩
  go_wp2_with fail
  refine (HA.out w1 HB1.out).mono ?_
  rintro e w2 ⟨v2, rfl, hv2, hb2⟩
  have HB2 := Lib.hid (HB1.out.trans (hb2.mono HB1.out.size))
  have A_2 := Lib.hid (hv2)
  clear hb2 hv2
  go_wp2_with fail
  refine (HNor.out v2 w2 _ A_2.out).mono ?_
  intro e w3 hq
  obtain ⟨v3, rfl, hv3, hb3⟩ := PN.out _ _ _ hq
  have HB3 := Lib.hid (HB2.out.trans (hb3.mono HB2.out.size))
  have A_3 := Lib.hid (A_2.out.below hb3 (Nat.le_refl _))
  have N_3 := Lib.hid (hv3)
  clear hv3
  clear hb3
  clear hq
  clear A_3
  go_wp2_with fail
  refine (HCl.out v3 w3 N_3.out).mono ?_
  rintro e w4 ⟨v4, rfl, hv4, hb4⟩
  have HB4 := Lib.hid (HB3.out.trans (hb4.mono HB3.out.size))
  have N_4 := Lib.hid (N_3.out.below hb4 (Nat.le_refl _))
  have C_4 := Lib.hid (hv4)
  clear hb4 hv4
  go_wp2_with fail
  refine (HBal.out v4 w4 _ C_4.out).mono ?_
  intro e w5 hq
  obtain ⟨rfl, rfl⟩ := PB2.out _ _ _ hq
  clear hq
  clear C_4
  go_wp2_with fail
  refine (HOv.out w4 HB4.out).mono ?_
  rintro e w5 ⟨v5, rfl, hv5, hb5⟩
  have HB5 := Lib.hid (HB4.out.trans (hb5.mono HB4.out.size))
  have N_5 := Lib.hid (N_4.out.below hb5 (Nat.le_refl _))
  have O_5 := Lib.hid (hv5)
  clear hb5 hv5
  go_wp2_with fail
  refine (HBal.out v5 w5 _ O_5.out).mono ?_
  intro e w6 hq
  obtain ⟨rfl, rfl⟩ := PB3.out _ _ _ hq
  clear hq
  clear O_5
  go_wp2_with fail
  refine (HTu.out w5 HB5.out).mono ?_
  rintro e w6 ⟨v6, rfl, hv6, hb6⟩
  have HB6 := Lib.hid (HB5.out.trans (hb6.mono HB5.out.size))
  have N_6 := Lib.hid (N_5.out.below hb6 (Nat.le_refl _))
  have U_6 := Lib.hid (hv6)
  clear hb6 hv6
  go_wp2_with fail
  refine (HBal.out v6 w6 _ U_6.out).mono ?_
  intro e w7 hq
  obtain ⟨rfl, rfl⟩ := PB4.out _ _ _ hq
  clear hq
  clear U_6
  obtain ⟨aoN, capN, hvN, hcN⟩ := HCe.out v3 w6 N_6.out
  subst hvN
  have HCN := Lib.hid hcN
  clear hcN HCe HCl HNor HOv HTu PB1 PB2 PB3 PB4 PN HMa
  clear N_6
  go_wp2_with fail
  go_loop [111] (fun i => ∃ q : Nat, q ≤ m ∧ i = .int .i64 q) (fun i => m - (intOf i).toNat)
  case atStart => exact ⟨0, Nat.zero_le _, rfl⟩
  case round =>
    obtain ⟨q, hq, rfl⟩ := hrel
    by_cases hlt : q < m
    · obtain ⟨bN, oN, x, rfl, hcx, hx1, hx0⟩ := HCN.out q hlt
      by_cases hq0 : q = 0
      · have hx0' := hx0 hq0
        have hqd : ((q:Int) == 0) = true := by simp; exact hq0
        clear hq0 hx0
        go_wp2
        go_round
        case rel => exact ⟨q + 1, by omega, by go_num⟩
        case measure => simp [intOf]; omega
      · have hqd : ((q:Int) == 0) = false := by simp; exact hq0
        clear hq0 hx0
        go_wp2
        go_round
        case rel => exact ⟨q + 1, by omega, by go_num⟩
        case measure => simp [intOf]; omega
    · obtain rfl : m = q := by omega
      clear HCN
      go_wp2_with fail
      refine (HBl.out w6 HB6.out).mono ?_
      rintro e w7 ⟨v7, rfl, hv7, hb7⟩
      have HB7 := Lib.hid (HB6.out.trans (hb7.mono HB6.out.size))
      have B_7 := Lib.hid (hv7)
      clear hb7 hv7
      go_wp2_with fail
      refine (HBal.out v7 w7 _ B_7.out).mono ?_
      intro e w8 hq
      obtain ⟨rfl, rfl⟩ := PBb.out _ _ _ hq
      clear hq
      clear B_7
      go_wp2_with fail
      refine (HA.out w7 HB7.out).mono ?_
      rintro e w8 ⟨v8, rfl, hv8, hb8⟩
      have HB8 := Lib.hid (HB7.out.trans (hb8.mono HB7.out.size))
      have A_8 := Lib.hid (hv8)
      clear hb8 hv8
      go_wp2_with fail
      refine (HBl.out w8 HB8.out).mono ?_
      rintro e w9 ⟨v9, rfl, hv9, hb9⟩
      have HB9 := Lib.hid (HB8.out.trans (hb9.mono HB8.out.size))
      have A_9 := Lib.hid (A_8.out.below hb9 (Nat.le_refl _))
      have B_9 := Lib.hid (hv9)
      clear hb9 hv9
      go_wp2_with fail
      refine (HTi.out v8 v9 w9 A_9.out B_9.out).mono ?_
      intro e w10 hq
      obtain ⟨rfl, hb10⟩ := PT.out _ _ _ hq
      have HB10 := Lib.hid (HB9.out.trans (hb10.mono HB9.out.size))
      have A_10 := Lib.hid (A_9.out.below hb10 (Nat.le_refl _))
      have B_10 := Lib.hid (B_9.out.below hb10 (Nat.le_refl _))
      clear hb10
      clear hq
      clear A_10
      clear B_10
      go_wp2_with fail
      refine (HD.out w10).mono ?_
      intro e w11 hq
      obtain ⟨rfl, hb11⟩ := PD.out _ _ _ hq
      have HB11 := Lib.hid (HB10.out.trans (hb11.mono HB10.out.size))
      clear hb11
      clear hq
      go_wp2_with fail
      refine (HQ.out w11).mono ?_
      intro e w12 hq
      obtain ⟨v12, rfl, hv12, hb12⟩ := PQ.out _ _ _ hq
      have HB12 := Lib.hid (HB11.out.trans (hb12.mono HB11.out.size))
      have Z_12 := Lib.hid (hv12)
      clear hv12
      clear hb12
      clear hq
      go_wp2_with fail
      refine (HBal.out v12 w12 _ Z_12.out).mono ?_
      intro e w13 hq
      obtain ⟨rfl, rfl⟩ := PBq.out _ _ _ hq
      clear hq
      clear Z_12
      by_cases hm3 : m < 3
      · skip
        go_wp2_with fail
        refine (awake_any w12).mono ?_
        rintro e w13 ⟨rfl, hb13⟩
        have HB13 := Lib.hid (HB12.out.trans (hb13.mono HB12.out.size))
        clear hb13
        go_wp2
        go_ret
        exact ⟨rfl, HB13.out⟩
      · have h4 : (m:Int) % 4 = 0 := by have := hfin (by omega); omega
        have h4b : ((m:Int) % 4 == 0) = true := by rw [h4]; rfl
        have h4t : (m:Int).tmod 4 = 0 := by rw [Int.tmod_eq_emod_of_nonneg (by omega)]; exact h4
        clear hfin
        go_wp2_with fail
        refine (awake_any w12).mono ?_
        rintro e w13 ⟨rfl, hb13⟩
        have HB13 := Lib.hid (HB12.out.trans (hb13.mono HB12.out.size))
        clear hb13
        go_wp2
        go_ret
        exact ⟨rfl, HB13.out⟩

set_option maxHeartbeats 2000000 in
set_option maxRecDepth 100000 in
theorem cols_F1_false (w : World) (va vb : Value) (r c : Int) (m : Nat) (a : List Nat) (ys : List Int) (hma : Mat m a) (hm : matB 16 ys = false) (ha : Nats w va a) (hb : Ints w vb ys) (hok : balB m a = false) :
    Calls Try.prog 10 #[va, vb, .int .i64 r, .int .i64 c, .int .i64 11] w fun e w' => e = .returned (.bool true) ∧ Below w.heap.size w w' := by
  have HA := Lib.hid (fun w' (hb : Below w.heap.size w w') => list_any va (nats a) w' (ha.below hb (Nat.le_refl _)))
  have HBl := Lib.hid (fun w' (hb' : Below w.heap.size w w') => list_any vb ys w' (hb.below hb' (Nat.le_refl _)))
  have HTi := Lib.hid (fun v v' w' (h : Ints w' v ((nats a).take 20)) (h' : Ints w' v' (ys.take 20)) => times_any v v' ((nats a).take 20) (ys.take 20) w' h h')
  have HMa := Lib.hid (fun w' (hb : Below w.heap.size w w') => matrix_any va (nats a) 16 w' (Nat.le_refl _) (ha.below hb (Nat.le_refl _)))
  rw [matB_mk hma hma.le] at HMa
  have HBal := Lib.hid (fun v w' xs (h : Ints w' v xs) => Balanced_any v xs w' h)
  have HNor := Lib.hid (fun v w' xs (h : Ints w' v xs) => Normal_any v xs w' h)
  rw [nats_take hma] at HA
  have HOv := Lib.hid (fun w' (hb : Below w.heap.size w w') => overN va m a w' (ha.below hb (Nat.le_refl _)) hma)
  have HTu := Lib.hid (fun w' (hb : Below w.heap.size w w') => turned_any va m a r c w' (ha.below hb (Nat.le_refl _)) hma)
  have HCl := Lib.hid (fun v w' (h : Nats w' v (normL m a)) => cloneN v (normL m a) w' (by rw [(norm_mat hma).len]; exact hma.le) (fun x hx => Nat.lt_of_lt_of_le ((norm_mat hma).lt x hx) (pw_nat m hma.le).2) h)
  have HCe := Lib.hid (fun v w' (h : Nats w' v (normL m a)) => norm_cells hma h)
  have hcl := lowN_lt m c
  have PB1 := Lib.hid (fun w w' e (h : BalPost w (nats a) e w') => bal_fine hma hok h)
  have PN := Lib.hid (fun w w' e (h : NormPost w (nats a) e w') => norm_fine hma h)
  have PB2 := Lib.hid (fun w w' e (h : BalPost w (nats (normL m a)) e w') => bal_fine (norm_mat hma) ((bal_norm hma).trans hok) h)
  have PB3 := Lib.hid (fun w w' e (h : BalPost w (nats (overL m a)) e w') => bal_fine (over_mat hma) ((bal_over hma).trans hok) h)
  have PB4 := Lib.hid (fun w w' e (h : BalPost w (nats (turnL m a r (lowN m c))) e w') => bal_fine (turnL_mat hma r _ hcl) ((bal_turn r _).trans hok) h)
  have HD := Lib.hid (fun w' => double_any ((11 : Nat) : Int) w')
  have HQ := Lib.hid (fun w' => squares_any ((11 : Nat) : Int) w')
  have PD := Lib.hid (fun w w' e (h : DoublePost w ((11 : Nat) : Int) e w') => double_bad (by decide) h)
  have PQ := Lib.hid (fun w w' e (h : SquaresPost w ((11 : Nat) : Int) e w') => squares_fine (by decide) h)
  have PBq := Lib.hid (fun w w' e (h : BalPost w (nats (squaresS 11)) e w') => bal_fine (squares_mat (p := 11) (by decide)) bsq11 h)
  have PT := Lib.hid (fun w w' e (h : TimesPost w ((nats a).take 20) (ys.take 20) e w') => times_bad (by rw [matB_take 16 ys (Nat.le_refl _), hm]; exact Bool.and_false _) h)
  have PBb := Lib.hid (fun w w' e (h : BalPost w (ys.take 20) e w') => bal_bad (by rw [matB_take 16 ys (Nat.le_refl _), hm]) h)
  rw [nats_take hma] at HTi PT
  obtain ⟨ao, cap, rfl, _, _⟩ := hma.open ha
  obtain ⟨bo, capb, rfl, _⟩ := hb.open
  have hm16 := hma.le
  have hm1 := hma.pos
  clear ha hb hok hcl hm hma
  have HB0 := Lib.hid (Below.refl w.heap.size w)
  go_enter Try.func10, Try.ntmps10
  go_wp2_with fail
  refine (HA.out w HB0.out).mono ?_
  rintro e w1 ⟨v1, rfl, hv1, hb1⟩
  have HB1 := Lib.hid (HB0.out.trans (hb1.mono HB0.out.size))
  have A_1 := Lib.hid (hv1)
  clear hb1 hv1
  go_wp2_with fail
  refine (HBal.out v1 w1 _ A_1.out).mono ?_
  intro e w2 hq
  obtain ⟨rfl, rfl⟩ := PB1.out _ _ _ hq
  clear hq
  clear A_1
  go_wp2_with fail
  refine (HMa.out w1 HB1.out).mono ?_
  rintro e w' ⟨rfl, rfl⟩
  go_wp2_with fail
  refine (HA.out w1 HB1.out).mono ?_
  rintro e w2 ⟨v2, rfl, hv2, hb2⟩
  have HB2 := Lib.hid (HB1.out.trans (hb2.mono HB1.out.size))
  have A_2 := Lib.hid (hv2)
  clear hb2 hv2
  go_wp2_with fail
  refine (HNor.out v2 w2 _ A_2.out).mono ?_
  intro e w3 hq
  obtain ⟨v3, rfl, hv3, hb3⟩ := PN.out _ _ _ hq
  have HB3 := Lib.hid (HB2.out.trans (hb3.mono HB2.out.size))
  have A_3 := Lib.hid (A_2.out.below hb3 (Nat.le_refl _))
  have N_3 := Lib.hid (hv3)
  clear hv3
  clear hb3
  clear hq
  clear A_3
  go_wp2_with fail
  refine (HCl.out v3 w3 N_3.out).mono ?_
  rintro e w4 ⟨v4, rfl, hv4, hb4⟩
  have HB4 := Lib.hid (HB3.out.trans (hb4.mono HB3.out.size))
  have N_4 := Lib.hid (N_3.out.below hb4 (Nat.le_refl _))
  have C_4 := Lib.hid (hv4)
  clear hb4 hv4
  go_wp2_with fail
  refine (HBal.out v4 w4 _ C_4.out).mono ?_
  intro e w5 hq
  obtain ⟨rfl, rfl⟩ := PB2.out _ _ _ hq
  clear hq
  clear C_4
  go_wp2_with fail
  refine (HOv.out w4 HB4.out).mono ?_
  rintro e w5 ⟨v5, rfl, hv5, hb5⟩
  have HB5 := Lib.hid (HB4.out.trans (hb5.mono HB4.out.size))
  have N_5 := Lib.hid (N_4.out.below hb5 (Nat.le_refl _))
  have O_5 := Lib.hid (hv5)
  clear hb5 hv5
  go_wp2_with fail
  refine (HBal.out v5 w5 _ O_5.out).mono ?_
  intro e w6 hq
  obtain ⟨rfl, rfl⟩ := PB3.out _ _ _ hq
  clear hq
  clear O_5
  go_wp2_with fail
  refine (HTu.out w5 HB5.out).mono ?_
  rintro e w6 ⟨v6, rfl, hv6, hb6⟩
  have HB6 := Lib.hid (HB5.out.trans (hb6.mono HB5.out.size))
  have N_6 := Lib.hid (N_5.out.below hb6 (Nat.le_refl _))
  have U_6 := Lib.hid (hv6)
  clear hb6 hv6
  go_wp2_with fail
  refine (HBal.out v6 w6 _ U_6.out).mono ?_
  intro e w7 hq
  obtain ⟨rfl, rfl⟩ := PB4.out _ _ _ hq
  clear hq
  clear U_6
  obtain ⟨aoN, capN, hvN, hcN⟩ := HCe.out v3 w6 N_6.out
  subst hvN
  have HCN := Lib.hid hcN
  clear hcN HCe HCl HNor HOv HTu PB1 PB2 PB3 PB4 PN HMa
  clear N_6
  go_wp2_with fail
  go_loop [111] (fun i => ∃ q : Nat, q ≤ m ∧ i = .int .i64 q) (fun i => m - (intOf i).toNat)
  case atStart => exact ⟨0, Nat.zero_le _, rfl⟩
  case round =>
    obtain ⟨q, hq, rfl⟩ := hrel
    by_cases hlt : q < m
    · obtain ⟨bN, oN, x, rfl, hcx, hx1, hx0⟩ := HCN.out q hlt
      by_cases hq0 : q = 0
      · have hx0' := hx0 hq0
        have hqd : ((q:Int) == 0) = true := by simp; exact hq0
        clear hq0 hx0
        go_wp2
        go_round
        case rel => exact ⟨q + 1, by omega, by go_num⟩
        case measure => simp [intOf]; omega
      · have hqd : ((q:Int) == 0) = false := by simp; exact hq0
        clear hq0 hx0
        go_wp2
        go_round
        case rel => exact ⟨q + 1, by omega, by go_num⟩
        case measure => simp [intOf]; omega
    · obtain rfl : m = q := by omega
      clear HCN
      go_wp2_with fail
      refine (HBl.out w6 HB6.out).mono ?_
      rintro e w7 ⟨v7, rfl, hv7, hb7⟩
      have HB7 := Lib.hid (HB6.out.trans (hb7.mono HB6.out.size))
      have B_7 := Lib.hid (hv7)
      clear hb7 hv7
      go_wp2_with fail
      refine (HBal.out v7 w7 _ B_7.out).mono ?_
      intro e w8 hq
      obtain ⟨rfl, rfl⟩ := PBb.out _ _ _ hq
      clear hq
      clear B_7
      go_wp2_with fail
      refine (HA.out w7 HB7.out).mono ?_
      rintro e w8 ⟨v8, rfl, hv8, hb8⟩
      have HB8 := Lib.hid (HB7.out.trans (hb8.mono HB7.out.size))
      have A_8 := Lib.hid (hv8)
      clear hb8 hv8
      go_wp2_with fail
      refine (HBl.out w8 HB8.out).mono ?_
      rintro e w9 ⟨v9, rfl, hv9, hb9⟩
      have HB9 := Lib.hid (HB8.out.trans (hb9.mono HB8.out.size))
      have A_9 := Lib.hid (A_8.out.below hb9 (Nat.le_refl _))
      have B_9 := Lib.hid (hv9)
      clear hb9 hv9
      go_wp2_with fail
      refine (HTi.out v8 v9 w9 A_9.out B_9.out).mono ?_
      intro e w10 hq
      obtain ⟨rfl, hb10⟩ := PT.out _ _ _ hq
      have HB10 := Lib.hid (HB9.out.trans (hb10.mono HB9.out.size))
      have A_10 := Lib.hid (A_9.out.below hb10 (Nat.le_refl _))
      have B_10 := Lib.hid (B_9.out.below hb10 (Nat.le_refl _))
      clear hb10
      clear hq
      clear A_10
      clear B_10
      go_wp2_with fail
      refine (HD.out w10).mono ?_
      intro e w11 hq
      obtain ⟨rfl, hb11⟩ := PD.out _ _ _ hq
      have HB11 := Lib.hid (HB10.out.trans (hb11.mono HB10.out.size))
      clear hb11
      clear hq
      go_wp2_with fail
      refine (HQ.out w11).mono ?_
      intro e w12 hq
      obtain ⟨v12, rfl, hv12, hb12⟩ := PQ.out _ _ _ hq
      have HB12 := Lib.hid (HB11.out.trans (hb12.mono HB11.out.size))
      have Z_12 := Lib.hid (hv12)
      clear hv12
      clear hb12
      clear hq
      go_wp2_with fail
      refine (HBal.out v12 w12 _ Z_12.out).mono ?_
      intro e w13 hq
      obtain ⟨rfl, rfl⟩ := PBq.out _ _ _ hq
      clear hq
      clear Z_12
      go_wp2_with fail
      refine (awake_any w12).mono ?_
      rintro e w13 ⟨rfl, hb13⟩
      have HB13 := Lib.hid (HB12.out.trans (hb13.mono HB12.out.size))
      clear hb13
      go_wp2
      go_ret
      exact ⟨rfl, HB13.out⟩

set_option maxHeartbeats 2000000 in
set_option maxRecDepth 100000 in
theorem cols_F2_true (w : World) (va vb : Value) (r c : Int) (m n : Nat) (a b : List Nat) (hma : Mat m a) (hmb : Mat n b) (hs : ¬ m * n ≤ 16) (ha : Nats w va a) (hb : Nats w vb b) (hok : balB m a = true) :
    Calls Try.prog 10 #[va, vb, .int .i64 r, .int .i64 c, .int .i64 11] w fun e w' => e = .returned (.bool true) ∧ Below w.heap.size w w' := by
  have HA := Lib.hid (fun w' (hb : Below w.heap.size w w') => list_any va (nats a) w' (ha.below hb (Nat.le_refl _)))
  have HBl := Lib.hid (fun w' (hb' : Below w.heap.size w w') => list_any vb (nats b) w' (hb.below hb' (Nat.le_refl _)))
  have HTi := Lib.hid (fun v v' w' (h : Ints w' v ((nats a).take 20)) (h' : Ints w' v' ((nats b).take 20)) => times_any v v' ((nats a).take 20) ((nats b).take 20) w' h h')
  have HMa := Lib.hid (fun w' (hb : Below w.heap.size w w') => matrix_any va (nats a) 16 w' (Nat.le_refl _) (ha.below hb (Nat.le_refl _)))
  rw [matB_mk hma hma.le] at HMa
  have HBal := Lib.hid (fun v w' xs (h : Ints w' v xs) => Balanced_any v xs w' h)
  have HNor := Lib.hid (fun v w' xs (h : Ints w' v xs) => Normal_any v xs w' h)
  rw [nats_take hma] at HA
  have HOv := Lib.hid (fun w' (hb : Below w.heap.size w w') => overN va m a w' (ha.below hb (Nat.le_refl _)) hma)
  have HTu := Lib.hid (fun w' (hb : Below w.heap.size w w') => turned_any va m a r c w' (ha.below hb (Nat.le_refl _)) hma)
  have HCl := Lib.hid (fun v w' (h : Nats w' v (normL m a)) => cloneN v (normL m a) w' (by rw [(norm_mat hma).len]; exact hma.le) (fun x hx => Nat.lt_of_lt_of_le ((norm_mat hma).lt x hx) (pw_nat m hma.le).2) h)
  have HCe := Lib.hid (fun v w' (h : Nats w' v (normL m a)) => norm_cells hma h)
  have hcl := lowN_lt m c
  have PB1 := Lib.hid (fun w w' e (h : BalPost w (nats a) e w') => bal_fine hma hok h)
  have PN := Lib.hid (fun w w' e (h : NormPost w (nats a) e w') => norm_fine hma h)
  have PB2 := Lib.hid (fun w w' e (h : BalPost w (nats (normL m a)) e w') => bal_fine (norm_mat hma) ((bal_norm hma).trans hok) h)
  have PB3 := Lib.hid (fun w w' e (h : BalPost w (nats (overL m a)) e w') => bal_fine (over_mat hma) ((bal_over hma).trans hok) h)
  have PB4 := Lib.hid (fun w w' e (h : BalPost w (nats (turnL m a r (lowN m c))) e w') => bal_fine (turnL_mat hma r _ hcl) ((bal_turn r _).trans hok) h)
  have HD := Lib.hid (fun w' => double_any ((11 : Nat) : Int) w')
  have HQ := Lib.hid (fun w' => squares_any ((11 : Nat) : Int) w')
  have hfin : 3 ≤ m → m % 4 = 0 := fun h => bal_four (of_decide_eq_true hok) h
  have PD := Lib.hid (fun w w' e (h : DoublePost w ((11 : Nat) : Int) e w') => double_bad (by decide) h)
  have PQ := Lib.hid (fun w w' e (h : SquaresPost w ((11 : Nat) : Int) e w') => squares_fine (by decide) h)
  have PBq := Lib.hid (fun w w' e (h : BalPost w (nats (squaresS 11)) e w') => bal_fine (squares_mat (p := 11) (by decide)) bsq11 h)
  have PT := Lib.hid (fun w w' e (h : TimesPost w ((nats a).take 20) ((nats b).take 20) e w') => times_big hma hmb hs (by rw [nats_take hma, nats_take hmb] at h; exact h))
  rw [nats_take hmb] at HBl
  obtain ⟨ot, hot⟩ : ∃ ot, ot = balB n b := ⟨_, rfl⟩
  have PBb := Lib.hid (fun w w' e (h : BalPost w (nats b) e w') => bal_fine hmb hot.symm h)
  have hmul : (m:Int) * (n:Int) = ((m * n : Nat) : Int) := (Int.natCast_mul ..).symm
  have hmm := Nat.mul_le_mul hma.le hmb.le
  clear hot
  rw [nats_take hma, nats_take hmb] at HTi PT
  obtain ⟨ao, cap, rfl, _, _⟩ := hma.open ha
  obtain ⟨bo, capb, rfl, _, _⟩ := hmb.open hb
  have hm16 := hma.le
  have hm1 := hma.pos
  clear ha hb hok hcl hs hma hmb
  generalize m * n = mn at *
  have HB0 := Lib.hid (Below.refl w.heap.size w)
  go_enter Try.func10, Try.ntmps10
  go_wp2_with fail
  refine (HA.out w HB0.out).mono ?_
  rintro e w1 ⟨v1, rfl, hv1, hb1⟩
  have HB1 := Lib.hid (HB0.out.trans (hb1.mono HB0.out.size))
  have A_1 := Lib.hid (hv1)
  clear hb1 hv1
  go_wp2_with fail
  refine (HBal.out v1 w1 _ A_1.out).mono ?_
  intro e w2 hq
  obtain ⟨rfl, rfl⟩ := PB1.out _ _ _ hq
  clear hq
  clear A_1
  go_wp2_with fail
  refine (HMa.out w1 HB1.out).mono ?_
  rintro e w' ⟨rfl, rfl⟩
  go_wp2_with fail
  refine (HA.out w1 HB1.out).mono ?_
  rintro e w2 ⟨v2, rfl, hv2, hb2⟩
  have HB2 := Lib.hid (HB1.out.trans (hb2.mono HB1.out.size))
  have A_2 := Lib.hid (hv2)
  clear hb2 hv2
  go_wp2_with fail
  refine (HNor.out v2 w2 _ A_2.out).mono ?_
  intro e w3 hq
  obtain ⟨v3, rfl, hv3, hb3⟩ := PN.out _ _ _ hq
  have HB3 := Lib.hid (HB2.out.trans (hb3.mono HB2.out.size))
  have A_3 := Lib.hid (A_2.out.below hb3 (Nat.le_refl _))
  have N_3 := Lib.hid (hv3)
  clear hv3
  clear hb3
  clear hq
  clear A_3
  go_wp2_with fail
  refine (HCl.out v3 w3 N_3.out).mono ?_
  rintro e w4 ⟨v4, rfl, hv4, hb4⟩
  have HB4 := Lib.hid (HB3.out.trans (hb4.mono HB3.out.size))
  have N_4 := Lib.hid (N_3.out.below hb4 (Nat.le_refl _))
  have C_4 := Lib.hid (hv4)
  clear hb4 hv4
  go_wp2_with fail
  refine (HBal.out v4 w4 _ C_4.out).mono ?_
  intro e w5 hq
  obtain ⟨rfl, rfl⟩ := PB2.out _ _ _ hq
  clear hq
  clear C_4
  go_wp2_with fail
  refine (HOv.out w4 HB4.out).mono ?_
  rintro e w5 ⟨v5, rfl, hv5, hb5⟩
  have HB5 := Lib.hid (HB4.out.trans (hb5.mono HB4.out.size))
  have N_5 := Lib.hid (N_4.out.below hb5 (Nat.le_refl _))
  have O_5 := Lib.hid (hv5)
  clear hb5 hv5
  go_wp2_with fail
  refine (HBal.out v5 w5 _ O_5.out).mono ?_
  intro e w6 hq
  obtain ⟨rfl, rfl⟩ := PB3.out _ _ _ hq
  clear hq
  clear O_5
  go_wp2_with fail
  refine (HTu.out w5 HB5.out).mono ?_
  rintro e w6 ⟨v6, rfl, hv6, hb6⟩
  have HB6 := Lib.hid (HB5.out.trans (hb6.mono HB5.out.size))
  have N_6 := Lib.hid (N_5.out.below hb6 (Nat.le_refl _))
  have U_6 := Lib.hid (hv6)
  clear hb6 hv6
  go_wp2_with fail
  refine (HBal.out v6 w6 _ U_6.out).mono ?_
  intro e w7 hq
  obtain ⟨rfl, rfl⟩ := PB4.out _ _ _ hq
  clear hq
  clear U_6
  obtain ⟨aoN, capN, hvN, hcN⟩ := HCe.out v3 w6 N_6.out
  subst hvN
  have HCN := Lib.hid hcN
  clear hcN HCe HCl HNor HOv HTu PB1 PB2 PB3 PB4 PN HMa
  clear N_6
  go_wp2_with fail
  go_loop [111] (fun i => ∃ q : Nat, q ≤ m ∧ i = .int .i64 q) (fun i => m - (intOf i).toNat)
  case atStart => exact ⟨0, Nat.zero_le _, rfl⟩
  case round =>
    obtain ⟨q, hq, rfl⟩ := hrel
    by_cases hlt : q < m
    · obtain ⟨bN, oN, x, rfl, hcx, hx1, hx0⟩ := HCN.out q hlt
      by_cases hq0 : q = 0
      · have hx0' := hx0 hq0
        have hqd : ((q:Int) == 0) = true := by simp; exact hq0
        clear hq0 hx0
        go_wp2
        go_round
        case rel => exact ⟨q + 1, by omega, by go_num⟩
        case measure => simp [intOf]; omega
      · have hqd : ((q:Int) == 0) = false := by simp; exact hq0
        clear hq0 hx0
        go_wp2
        go_round
        case rel => exact ⟨q + 1, by omega, by go_num⟩
        case measure => simp [intOf]; omega
    · obtain rfl : m = q := by omega
      clear HCN
      go_wp2_with fail
      refine (HBl.out w6 HB6.out).mono ?_
      rintro e w7 ⟨v7, rfl, hv7, hb7⟩
      have HB7 := Lib.hid (HB6.out.trans (hb7.mono HB6.out.size))
      have B_7 := Lib.hid (hv7)
      clear hb7 hv7
      go_wp2_with fail
      refine (HBal.out v7 w7 _ B_7.out).mono ?_
      intro e w8 hq
      obtain ⟨rfl, rfl⟩ := PBb.out _ _ _ hq
      clear hq
      clear B_7
      go_wp2_with fail
      refine (HA.out w7 HB7.out).mono ?_
      rintro e w8 ⟨v8, rfl, hv8, hb8⟩
      have HB8 := Lib.hid (HB7.out.trans (hb8.mono HB7.out.size))
      have A_8 := Lib.hid (hv8)
      clear hb8 hv8
      go_wp2_with fail
      refine (HBl.out w8 HB8.out).mono ?_
      rintro e w9 ⟨v9, rfl, hv9, hb9⟩
      have HB9 := Lib.hid (HB8.out.trans (hb9.mono HB8.out.size))
      have A_9 := Lib.hid (A_8.out.below hb9 (Nat.le_refl _))
      have B_9 := Lib.hid (hv9)
      clear hb9 hv9
      go_wp2_with fail
      refine (HTi.out v8 v9 w9 A_9.out B_9.out).mono ?_
      intro e w10 hq
      obtain ⟨rfl, hb10⟩ := PT.out _ _ _ hq
      have HB10 := Lib.hid (HB9.out.trans (hb10.mono HB9.out.size))
      have A_10 := Lib.hid (A_9.out.below hb10 (Nat.le_refl _))
      have B_10 := Lib.hid (B_9.out.below hb10 (Nat.le_refl _))
      clear hb10
      clear hq
      clear A_10
      clear B_10
      go_wp2_with fail
      refine (HD.out w10).mono ?_
      intro e w11 hq
      obtain ⟨rfl, hb11⟩ := PD.out _ _ _ hq
      have HB11 := Lib.hid (HB10.out.trans (hb11.mono HB10.out.size))
      clear hb11
      clear hq
      go_wp2_with fail
      refine (HQ.out w11).mono ?_
      intro e w12 hq
      obtain ⟨v12, rfl, hv12, hb12⟩ := PQ.out _ _ _ hq
      have HB12 := Lib.hid (HB11.out.trans (hb12.mono HB11.out.size))
      have Z_12 := Lib.hid (hv12)
      clear hv12
      clear hb12
      clear hq
      go_wp2_with fail
      refine (HBal.out v12 w12 _ Z_12.out).mono ?_
      intro e w13 hq
      obtain ⟨rfl, rfl⟩ := PBq.out _ _ _ hq
      clear hq
      clear Z_12
      by_cases hm3 : m < 3
      · skip
        go_wp2_with fail
        refine (awake_any w12).mono ?_
        rintro e w13 ⟨rfl, hb13⟩
        have HB13 := Lib.hid (HB12.out.trans (hb13.mono HB12.out.size))
        clear hb13
        go_wp2
        go_ret
        exact ⟨rfl, HB13.out⟩
      · have h4 : (m:Int) % 4 = 0 := by have := hfin (by omega); omega
        have h4b : ((m:Int) % 4 == 0) = true := by rw [h4]; rfl
        have h4t : (m:Int).tmod 4 = 0 := by rw [Int.tmod_eq_emod_of_nonneg (by omega)]; exact h4
        clear hfin
        go_wp2_with fail
        refine (awake_any w12).mono ?_
        rintro e w13 ⟨rfl, hb13⟩
        have HB13 := Lib.hid (HB12.out.trans (hb13.mono HB12.out.size))
        clear hb13
        go_wp2
        go_ret
        exact ⟨rfl, HB13.out⟩

set_option maxHeartbeats 2000000 in
set_option maxRecDepth 100000 in
theorem cols_F2_false (w : World) (va vb : Value) (r c : Int) (m n : Nat) (a b : List Nat) (hma : Mat m a) (hmb : Mat n b) (hs : ¬ m * n ≤ 16) (ha : Nats w va a) (hb : Nats w vb b) (hok : balB m a = false) :
    Calls Try.prog 10 #[va, vb, .int .i64 r, .int .i64 c, .int .i64 11] w fun e w' => e = .returned (.bool true) ∧ Below w.heap.size w w' := by
  have HA := Lib.hid (fun w' (hb : Below w.heap.size w w') => list_any va (nats a) w' (ha.below hb (Nat.le_refl _)))
  have HBl := Lib.hid (fun w' (hb' : Below w.heap.size w w') => list_any vb (nats b) w' (hb.below hb' (Nat.le_refl _)))
  have HTi := Lib.hid (fun v v' w' (h : Ints w' v ((nats a).take 20)) (h' : Ints w' v' ((nats b).take 20)) => times_any v v' ((nats a).take 20) ((nats b).take 20) w' h h')
  have HMa := Lib.hid (fun w' (hb : Below w.heap.size w w') => matrix_any va (nats a) 16 w' (Nat.le_refl _) (ha.below hb (Nat.le_refl _)))
  rw [matB_mk hma hma.le] at HMa
  have HBal := Lib.hid (fun v w' xs (h : Ints w' v xs) => Balanced_any v xs w' h)
  have HNor := Lib.hid (fun v w' xs (h : Ints w' v xs) => Normal_any v xs w' h)
  rw [nats_take hma] at HA
  have HOv := Lib.hid (fun w' (hb : Below w.heap.size w w') => overN va m a w' (ha.below hb (Nat.le_refl _)) hma)
  have HTu := Lib.hid (fun w' (hb : Below w.heap.size w w') => turned_any va m a r c w' (ha.below hb (Nat.le_refl _)) hma)
  have HCl := Lib.hid (fun v w' (h : Nats w' v (normL m a)) => cloneN v (normL m a) w' (by rw [(norm_mat hma).len]; exact hma.le) (fun x hx => Nat.lt_of_lt_of_le ((norm_mat hma).lt x hx) (pw_nat m hma.le).2) h)
  have HCe := Lib.hid (fun v w' (h : Nats w' v (normL m a)) => norm_cells hma h)
  have hcl := lowN_lt m c
  have PB1 := Lib.hid (fun w w' e (h : BalPost w (nats a) e w') => bal_fine hma hok h)
  have PN := Lib.hid (fun w w' e (h : NormPost w (nats a) e w') => norm_fine hma h)
  have PB2 := Lib.hid (fun w w' e (h : BalPost w (nats (normL m a)) e w') => bal_fine (norm_mat hma) ((bal_norm hma).trans hok) h)
  have PB3 := Lib.hid (fun w w' e (h : BalPost w (nats (overL m a)) e w') => bal_fine (over_mat hma) ((bal_over hma).trans hok) h)
  have PB4 := Lib.hid (fun w w' e (h : BalPost w (nats (turnL m a r (lowN m c))) e w') => bal_fine (turnL_mat hma r _ hcl) ((bal_turn r _).trans hok) h)
  have HD := Lib.hid (fun w' => double_any ((11 : Nat) : Int) w')
  have HQ := Lib.hid (fun w' => squares_any ((11 : Nat) : Int) w')
  have PD := Lib.hid (fun w w' e (h : DoublePost w ((11 : Nat) : Int) e w') => double_bad (by decide) h)
  have PQ := Lib.hid (fun w w' e (h : SquaresPost w ((11 : Nat) : Int) e w') => squares_fine (by decide) h)
  have PBq := Lib.hid (fun w w' e (h : BalPost w (nats (squaresS 11)) e w') => bal_fine (squares_mat (p := 11) (by decide)) bsq11 h)
  have PT := Lib.hid (fun w w' e (h : TimesPost w ((nats a).take 20) ((nats b).take 20) e w') => times_big hma hmb hs (by rw [nats_take hma, nats_take hmb] at h; exact h))
  rw [nats_take hmb] at HBl
  obtain ⟨ot, hot⟩ : ∃ ot, ot = balB n b := ⟨_, rfl⟩
  have PBb := Lib.hid (fun w w' e (h : BalPost w (nats b) e w') => bal_fine hmb hot.symm h)
  have hmul : (m:Int) * (n:Int) = ((m * n : Nat) : Int) := (Int.natCast_mul ..).symm
  have hmm := Nat.mul_le_mul hma.le hmb.le
  clear hot
  rw [nats_take hma, nats_take hmb] at HTi PT
  obtain ⟨ao, cap, rfl, _, _⟩ := hma.open ha
  obtain ⟨bo, capb, rfl, _, _⟩ := hmb.open hb
  have hm16 := hma.le
  have hm1 := hma.pos
  clear ha hb hok hcl hs hma hmb
  generalize m * n = mn at *
  have HB0 := Lib.hid (Below.refl w.heap.size w)
  go_enter Try.func10, Try.ntmps10
  go_wp2_with fail
  refine (HA.out w HB0.out).mono ?_
  rintro e w1 ⟨v1, rfl, hv1, hb1⟩
  have HB1 := Lib.hid (HB0.out.trans (hb1.mono HB0.out.size))
  have A_1 := Lib.hid (hv1)
  clear hb1 hv1
  go_wp2_with fail
  refine (HBal.out v1 w1 _ A_1.out).mono ?_
  intro e w2 hq
  obtain ⟨rfl, rfl⟩ := PB1.out _ _ _ hq
  clear hq
  clear A_1
  go_wp2_with fail
  refine (HMa.out w1 HB1.out).mono ?_
  rintro e w' ⟨rfl, rfl⟩
  go_wp2_with fail
  refine (HA.out w1 HB1.out).mono ?_
  rintro e w2 ⟨v2, rfl, hv2, hb2⟩
  have HB2 := Lib.hid (HB1.out.trans (hb2.mono HB1.out.size))
  have A_2 := Lib.hid (hv2)
  clear hb2 hv2
  go_wp2_with fail
  refine (HNor.out v2 w2 _ A_2.out).mono ?_
  intro e w3 hq
  obtain ⟨v3, rfl, hv3, hb3⟩ := PN.out _ _ _ hq
  have HB3 := Lib.hid (HB2.out.trans (hb3.mono HB2.out.size))
  have A_3 := Lib.hid (A_2.out.below hb3 (Nat.le_refl _))
  have N_3 := Lib.hid (hv3)
  clear hv3
  clear hb3
  clear hq
  clear A_3
  go_wp2_with fail
  refine (HCl.out v3 w3 N_3.out).mono ?_
  rintro e w4 ⟨v4, rfl, hv4, hb4⟩
  have HB4 := Lib.hid (HB3.out.trans (hb4.mono HB3.out.size))
  have N_4 := Lib.hid (N_3.out.below hb4 (Nat.le_refl _))
  have C_4 := Lib.hid (hv4)
  clear hb4 hv4
  go_wp2_with fail
  refine (HBal.out v4 w4 _ C_4.out).mono ?_
  intro e w5 hq
  obtain ⟨rfl, rfl⟩ := PB2.out _ _ _ hq
  clear hq
  clear C_4
  go_wp2_with fail
  refine (HOv.out w4 HB4.out).mono ?_
  rintro e w5 ⟨v5, rfl, hv5, hb5⟩
  have HB5 := Lib.hid (HB4.out.trans (hb5.mono HB4.out.size))
  have N_5 := Lib.hid (N_4.out.below hb5 (Nat.le_refl _))
  have O_5 := Lib.hid (hv5)
  clear hb5 hv5
  go_wp2_with fail
  refine (HBal.out v5 w5 _ O_5.out).mono ?_
  intro e w6 hq
  obtain ⟨rfl, rfl⟩ := PB3.out _ _ _ hq
  clear hq
  clear O_5
  go_wp2_with fail
  refine (HTu.out w5 HB5.out).mono ?_
  rintro e w6 ⟨v6, rfl, hv6, hb6⟩
  have HB6 := Lib.hid (HB5.out.trans (hb6.mono HB5.out.size))
  have N_6 := Lib.hid (N_5.out.below hb6 (Nat.le_refl _))
  have U_6 := Lib.hid (hv6)
  clear hb6 hv6
  go_wp2_with fail
  refine (HBal.out v6 w6 _ U_6.out).mono ?_
  intro e w7 hq
  obtain ⟨rfl, rfl⟩ := PB4.out _ _ _ hq
  clear hq
  clear U_6
  obtain ⟨aoN, capN, hvN, hcN⟩ := HCe.out v3 w6 N_6.out
  subst hvN
  have HCN := Lib.hid hcN
  clear hcN HCe HCl HNor HOv HTu PB1 PB2 PB3 PB4 PN HMa
  clear N_6
  go_wp2_with fail
  go_loop [111] (fun i => ∃ q : Nat, q ≤ m ∧ i = .int .i64 q) (fun i => m - (intOf i).toNat)
  case atStart => exact ⟨0, Nat.zero_le _, rfl⟩
  case round =>
    obtain ⟨q, hq, rfl⟩ := hrel
    by_cases hlt : q < m
    · obtain ⟨bN, oN, x, rfl, hcx, hx1, hx0⟩ := HCN.out q hlt
      by_cases hq0 : q = 0
      · have hx0' := hx0 hq0
        have hqd : ((q:Int) == 0) = true := by simp; exact hq0
        clear hq0 hx0
        go_wp2
        go_round
        case rel => exact ⟨q + 1, by omega, by go_num⟩
        case measure => simp [intOf]; omega
      · have hqd : ((q:Int) == 0) = false := by simp; exact hq0
        clear hq0 hx0
        go_wp2
        go_round
        case rel => exact ⟨q + 1, by omega, by go_num⟩
        case measure => simp [intOf]; omega
    · obtain rfl : m = q := by omega
      clear HCN
      go_wp2_with fail
      refine (HBl.out w6 HB6.out).mono ?_
      rintro e w7 ⟨v7, rfl, hv7, hb7⟩
      have HB7 := Lib.hid (HB6.out.trans (hb7.mono HB6.out.size))
      have B_7 := Lib.hid (hv7)
      clear hb7 hv7
      go_wp2_with fail
      refine (HBal.out v7 w7 _ B_7.out).mono ?_
      intro e w8 hq
      obtain ⟨rfl, rfl⟩ := PBb.out _ _ _ hq
      clear hq
      clear B_7
      go_wp2_with fail
      refine (HA.out w7 HB7.out).mono ?_
      rintro e w8 ⟨v8, rfl, hv8, hb8⟩
      have HB8 := Lib.hid (HB7.out.trans (hb8.mono HB7.out.size))
      have A_8 := Lib.hid (hv8)
      clear hb8 hv8
      go_wp2_with fail
      refine (HBl.out w8 HB8.out).mono ?_
      rintro e w9 ⟨v9, rfl, hv9, hb9⟩
      have HB9 := Lib.hid (HB8.out.trans (hb9.mono HB8.out.size))
      have A_9 := Lib.hid (A_8.out.below hb9 (Nat.le_refl _))
      have B_9 := Lib.hid (hv9)
      clear hb9 hv9
      go_wp2_with fail
      refine (HTi.out v8 v9 w9 A_9.out B_9.out).mono ?_
      intro e w10 hq
      obtain ⟨rfl, hb10⟩ := PT.out _ _ _ hq
      have HB10 := Lib.hid (HB9.out.trans (hb10.mono HB9.out.size))
      have A_10 := Lib.hid (A_9.out.below hb10 (Nat.le_refl _))
      have B_10 := Lib.hid (B_9.out.below hb10 (Nat.le_refl _))
      clear hb10
      clear hq
      clear A_10
      clear B_10
      go_wp2_with fail
      refine (HD.out w10).mono ?_
      intro e w11 hq
      obtain ⟨rfl, hb11⟩ := PD.out _ _ _ hq
      have HB11 := Lib.hid (HB10.out.trans (hb11.mono HB10.out.size))
      clear hb11
      clear hq
      go_wp2_with fail
      refine (HQ.out w11).mono ?_
      intro e w12 hq
      obtain ⟨v12, rfl, hv12, hb12⟩ := PQ.out _ _ _ hq
      have HB12 := Lib.hid (HB11.out.trans (hb12.mono HB11.out.size))
      have Z_12 := Lib.hid (hv12)
      clear hv12
      clear hb12
      clear hq
      go_wp2_with fail
      refine (HBal.out v12 w12 _ Z_12.out).mono ?_
      intro e w13 hq
      obtain ⟨rfl, rfl⟩ := PBq.out _ _ _ hq
      clear hq
      clear Z_12
      go_wp2_with fail
      refine (awake_any w12).mono ?_
      rintro e w13 ⟨rfl, hb13⟩
      have HB13 := Lib.hid (HB12.out.trans (hb13.mono HB12.out.size))
      clear hb13
      go_wp2
      go_ret
      exact ⟨rfl, HB13.out⟩

set_option maxHeartbeats 2000000 in
set_option maxRecDepth 100000 in
theorem cols_F3_true (w : World) (va vb : Value) (r c : Int) (m n : Nat) (a b : List Nat) (hma : Mat m a) (hmb : Mat n b) (hs : m * n ≤ 16) (ha : Nats w va a) (hb : Nats w vb b) (hok : balB m a = true) :
    Calls Try.prog 10 #[va, vb, .int .i64 r, .int .i64 c, .int .i64 11] w fun e w' => e = .returned (.bool true) ∧ Below w.heap.size w w' := by
  have HA := Lib.hid (fun w' (hb : Below w.heap.size w w') => list_any va (nats a) w' (ha.below hb (Nat.le_refl _)))
  have HBl := Lib.hid (fun w' (hb' : Below w.heap.size w w') => list_any vb (nats b) w' (hb.below hb' (Nat.le_refl _)))
  have HTi := Lib.hid (fun v v' w' (h : Ints w' v ((nats a).take 20)) (h' : Ints w' v' ((nats b).take 20)) => times_any v v' ((nats a).take 20) ((nats b).take 20) w' h h')
  have HMa := Lib.hid (fun w' (hb : Below w.heap.size w w') => matrix_any va (nats a) 16 w' (Nat.le_refl _) (ha.below hb (Nat.le_refl _)))
  rw [matB_mk hma hma.le] at HMa
  have HBal := Lib.hid (fun v w' xs (h : Ints w' v xs) => Balanced_any v xs w' h)
  have HNor := Lib.hid (fun v w' xs (h : Ints w' v xs) => Normal_any v xs w' h)
  rw [nats_take hma] at HA
  have HOv := Lib.hid (fun w' (hb : Below w.heap.size w w') => overN va m a w' (ha.below hb (Nat.le_refl _)) hma)
  have HTu := Lib.hid (fun w' (hb : Below w.heap.size w w') => turned_any va m a r c w' (ha.below hb (Nat.le_refl _)) hma)
  have HCl := Lib.hid (fun v w' (h : Nats w' v (normL m a)) => cloneN v (normL m a) w' (by rw [(norm_mat hma).len]; exact hma.le) (fun x hx => Nat.lt_of_lt_of_le ((norm_mat hma).lt x hx) (pw_nat m hma.le).2) h)
  have HCe := Lib.hid (fun v w' (h : Nats w' v (normL m a)) => norm_cells hma h)
  have hcl := lowN_lt m c
  have PB1 := Lib.hid (fun w w' e (h : BalPost w (nats a) e w') => bal_fine hma hok h)
  have PN := Lib.hid (fun w w' e (h : NormPost w (nats a) e w') => norm_fine hma h)
  have PB2 := Lib.hid (fun w w' e (h : BalPost w (nats (normL m a)) e w') => bal_fine (norm_mat hma) ((bal_norm hma).trans hok) h)
  have PB3 := Lib.hid (fun w w' e (h : BalPost w (nats (overL m a)) e w') => bal_fine (over_mat hma) ((bal_over hma).trans hok) h)
  have PB4 := Lib.hid (fun w w' e (h : BalPost w (nats (turnL m a r (lowN m c))) e w') => bal_fine (turnL_mat hma r _ hcl) ((bal_turn r _).trans hok) h)
  have HD := Lib.hid (fun w' => double_any ((11 : Nat) : Int) w')
  have HQ := Lib.hid (fun w' => squares_any ((11 : Nat) : Int) w')
  have hfin : 3 ≤ m → m % 4 = 0 := fun h => bal_four (of_decide_eq_true hok) h
  have PD := Lib.hid (fun w w' e (h : DoublePost w ((11 : Nat) : Int) e w') => double_bad (by decide) h)
  have PQ := Lib.hid (fun w w' e (h : SquaresPost w ((11 : Nat) : Int) e w') => squares_fine (by decide) h)
  have PBq := Lib.hid (fun w w' e (h : BalPost w (nats (squaresS 11)) e w') => bal_fine (squares_mat (p := 11) (by decide)) bsq11 h)
  have PT := Lib.hid (fun w w' e (h : TimesPost w ((nats a).take 20) ((nats b).take 20) e w') => times_fine hma hmb hs (by rw [nats_take hma, nats_take hmb] at h; exact h))
  rw [nats_take hmb] at HBl
  obtain ⟨ot, hot⟩ : ∃ ot, ot = balB n b := ⟨_, rfl⟩
  have PBb := Lib.hid (fun w w' e (h : BalPost w (nats b) e w') => bal_fine hmb hot.symm h)
  have hmul : (m:Int) * (n:Int) = ((m * n : Nat) : Int) := (Int.natCast_mul ..).symm
  have hmm := Nat.mul_le_mul hma.le hmb.le
  have PBt := Lib.hid (fun w w' e (h : BalPost w (nats (timesS m n a b)) e w') => bal_fine (times_mat hma hmb hs) (show balB (m * n) (timesS m n a b) = ot by rw [bal_times hma hmb, hok, ← hot]; rfl) h)
  have hoo : (ot != ot) = false := by simp
  clear hot
  rw [nats_take hma, nats_take hmb] at HTi PT
  obtain ⟨ao, cap, rfl, _, _⟩ := hma.open ha
  obtain ⟨bo, capb, rfl, _, _⟩ := hmb.open hb
  have hm16 := hma.le
  have hm1 := hma.pos
  clear ha hb hok hcl hs hma hmb
  generalize m * n = mn at *
  have HB0 := Lib.hid (Below.refl w.heap.size w)
  go_enter Try.func10, Try.ntmps10
  go_wp2_with fail
  refine (HA.out w HB0.out).mono ?_
  rintro e w1 ⟨v1, rfl, hv1, hb1⟩
  have HB1 := Lib.hid (HB0.out.trans (hb1.mono HB0.out.size))
  have A_1 := Lib.hid (hv1)
  clear hb1 hv1
  go_wp2_with fail
  refine (HBal.out v1 w1 _ A_1.out).mono ?_
  intro e w2 hq
  obtain ⟨rfl, rfl⟩ := PB1.out _ _ _ hq
  clear hq
  clear A_1
  go_wp2_with fail
  refine (HMa.out w1 HB1.out).mono ?_
  rintro e w' ⟨rfl, rfl⟩
  go_wp2_with fail
  refine (HA.out w1 HB1.out).mono ?_
  rintro e w2 ⟨v2, rfl, hv2, hb2⟩
  have HB2 := Lib.hid (HB1.out.trans (hb2.mono HB1.out.size))
  have A_2 := Lib.hid (hv2)
  clear hb2 hv2
  go_wp2_with fail
  refine (HNor.out v2 w2 _ A_2.out).mono ?_
  intro e w3 hq
  obtain ⟨v3, rfl, hv3, hb3⟩ := PN.out _ _ _ hq
  have HB3 := Lib.hid (HB2.out.trans (hb3.mono HB2.out.size))
  have A_3 := Lib.hid (A_2.out.below hb3 (Nat.le_refl _))
  have N_3 := Lib.hid (hv3)
  clear hv3
  clear hb3
  clear hq
  clear A_3
  go_wp2_with fail
  refine (HCl.out v3 w3 N_3.out).mono ?_
  rintro e w4 ⟨v4, rfl, hv4, hb4⟩
  have HB4 := Lib.hid (HB3.out.trans (hb4.mono HB3.out.size))
  have N_4 := Lib.hid (N_3.out.below hb4 (Nat.le_refl _))
  have C_4 := Lib.hid (hv4)
  clear hb4 hv4
  go_wp2_with fail
  refine (HBal.out v4 w4 _ C_4.out).mono ?_
  intro e w5 hq
  obtain ⟨rfl, rfl⟩ := PB2.out _ _ _ hq
  clear hq
  clear C_4
  go_wp2_with fail
  refine (HOv.out w4 HB4.out).mono ?_
  rintro e w5 ⟨v5, rfl, hv5, hb5⟩
  have HB5 := Lib.hid (HB4.out.trans (hb5.mono HB4.out.size))
  have N_5 := Lib.hid (N_4.out.below hb5 (Nat.le_refl _))
  have O_5 := Lib.hid (hv5)
  clear hb5 hv5
  go_wp2_with fail
  refine (HBal.out v5 w5 _ O_5.out).mono ?_
  intro e w6 hq
  obtain ⟨rfl, rfl⟩ := PB3.out _ _ _ hq
  clear hq
  clear O_5
  go_wp2_with fail
  refine (HTu.out w5 HB5.out).mono ?_
  rintro e w6 ⟨v6, rfl, hv6, hb6⟩
  have HB6 := Lib.hid (HB5.out.trans (hb6.mono HB5.out.size))
  have N_6 := Lib.hid (N_5.out.below hb6 (Nat.le_refl _))
  have U_6 := Lib.hid (hv6)
  clear hb6 hv6
  go_wp2_with fail
  refine (HBal.out v6 w6 _ U_6.out).mono ?_
  intro e w7 hq
  obtain ⟨rfl, rfl⟩ := PB4.out _ _ _ hq
  clear hq
  clear U_6
  obtain ⟨aoN, capN, hvN, hcN⟩ := HCe.out v3 w6 N_6.out
  subst hvN
  have HCN := Lib.hid hcN
  clear hcN HCe HCl HNor HOv HTu PB1 PB2 PB3 PB4 PN HMa
  clear N_6
  go_wp2_with fail
  go_loop [111] (fun i => ∃ q : Nat, q ≤ m ∧ i = .int .i64 q) (fun i => m - (intOf i).toNat)
  case atStart => exact ⟨0, Nat.zero_le _, rfl⟩
  case round =>
    obtain ⟨q, hq, rfl⟩ := hrel
    by_cases hlt : q < m
    · obtain ⟨bN, oN, x, rfl, hcx, hx1, hx0⟩ := HCN.out q hlt
      by_cases hq0 : q = 0
      · have hx0' := hx0 hq0
        have hqd : ((q:Int) == 0) = true := by simp; exact hq0
        clear hq0 hx0
        go_wp2
        go_round
        case rel => exact ⟨q + 1, by omega, by go_num⟩
        case measure => simp [intOf]; omega
      · have hqd : ((q:Int) == 0) = false := by simp; exact hq0
        clear hq0 hx0
        go_wp2
        go_round
        case rel => exact ⟨q + 1, by omega, by go_num⟩
        case measure => simp [intOf]; omega
    · obtain rfl : m = q := by omega
      clear HCN
      go_wp2_with fail
      refine (HBl.out w6 HB6.out).mono ?_
      rintro e w7 ⟨v7, rfl, hv7, hb7⟩
      have HB7 := Lib.hid (HB6.out.trans (hb7.mono HB6.out.size))
      have B_7 := Lib.hid (hv7)
      clear hb7 hv7
      go_wp2_with fail
      refine (HBal.out v7 w7 _ B_7.out).mono ?_
      intro e w8 hq
      obtain ⟨rfl, rfl⟩ := PBb.out _ _ _ hq
      clear hq
      clear B_7
      go_wp2_with fail
      refine (HA.out w7 HB7.out).mono ?_
      rintro e w8 ⟨v8, rfl, hv8, hb8⟩
      have HB8 := Lib.hid (HB7.out.trans (hb8.mono HB7.out.size))
      have A_8 := Lib.hid (hv8)
      clear hb8 hv8
      go_wp2_with fail
      refine (HBl.out w8 HB8.out).mono ?_
      rintro e w9 ⟨v9, rfl, hv9, hb9⟩
      have HB9 := Lib.hid (HB8.out.trans (hb9.mono HB8.out.size))
      have A_9 := Lib.hid (A_8.out.below hb9 (Nat.le_refl _))
      have B_9 := Lib.hid (hv9)
      clear hb9 hv9
      go_wp2_with fail
      refine (HTi.out v8 v9 w9 A_9.out B_9.out).mono ?_
      intro e w10 hq
      obtain ⟨v10, rfl, hv10, hb10⟩ := PT.out _ _ _ hq
      have HB10 := Lib.hid (HB9.out.trans (hb10.mono HB9.out.size))
      have A_10 := Lib.hid (A_9.out.below hb10 (Nat.le_refl _))
      have B_10 := Lib.hid (B_9.out.below hb10 (Nat.le_refl _))
      have Y_10 := Lib.hid (hv10)
      clear hv10
      clear hb10
      clear hq
      clear A_10
      clear B_10
      go_wp2_with fail
      refine (HBal.out v10 w10 _ Y_10.out).mono ?_
      intro e w11 hq
      obtain ⟨rfl, rfl⟩ := PBt.out _ _ _ hq
      clear hq
      clear Y_10
      go_wp2_with fail
      refine (HD.out w10).mono ?_
      intro e w11 hq
      obtain ⟨rfl, hb11⟩ := PD.out _ _ _ hq
      have HB11 := Lib.hid (HB10.out.trans (hb11.mono HB10.out.size))
      clear hb11
      clear hq
      go_wp2_with fail
      refine (HQ.out w11).mono ?_
      intro e w12 hq
      obtain ⟨v12, rfl, hv12, hb12⟩ := PQ.out _ _ _ hq
      have HB12 := Lib.hid (HB11.out.trans (hb12.mono HB11.out.size))
      have Z_12 := Lib.hid (hv12)
      clear hv12
      clear hb12
      clear hq
      go_wp2_with fail
      refine (HBal.out v12 w12 _ Z_12.out).mono ?_
      intro e w13 hq
      obtain ⟨rfl, rfl⟩ := PBq.out _ _ _ hq
      clear hq
      clear Z_12
      by_cases hm3 : m < 3
      · skip
        go_wp2_with fail
        refine (awake_any w12).mono ?_
        rintro e w13 ⟨rfl, hb13⟩
        have HB13 := Lib.hid (HB12.out.trans (hb13.mono HB12.out.size))
        clear hb13
        go_wp2
        go_ret
        exact ⟨rfl, HB13.out⟩
      · have h4 : (m:Int) % 4 = 0 := by have := hfin (by omega); omega
        have h4b : ((m:Int) % 4 == 0) = true := by rw [h4]; rfl
        have h4t : (m:Int).tmod 4 = 0 := by rw [Int.tmod_eq_emod_of_nonneg (by omega)]; exact h4
        clear hfin
        go_wp2_with fail
        refine (awake_any w12).mono ?_
        rintro e w13 ⟨rfl, hb13⟩
        have HB13 := Lib.hid (HB12.out.trans (hb13.mono HB12.out.size))
        clear hb13
        go_wp2
        go_ret
        exact ⟨rfl, HB13.out⟩

set_option maxHeartbeats 2000000 in
set_option maxRecDepth 100000 in
theorem cols_F3_false (w : World) (va vb : Value) (r c : Int) (m n : Nat) (a b : List Nat) (hma : Mat m a) (hmb : Mat n b) (hs : m * n ≤ 16) (ha : Nats w va a) (hb : Nats w vb b) (hok : balB m a = false) :
    Calls Try.prog 10 #[va, vb, .int .i64 r, .int .i64 c, .int .i64 11] w fun e w' => e = .returned (.bool true) ∧ Below w.heap.size w w' := by
  have HA := Lib.hid (fun w' (hb : Below w.heap.size w w') => list_any va (nats a) w' (ha.below hb (Nat.le_refl _)))
  have HBl := Lib.hid (fun w' (hb' : Below w.heap.size w w') => list_any vb (nats b) w' (hb.below hb' (Nat.le_refl _)))
  have HTi := Lib.hid (fun v v' w' (h : Ints w' v ((nats a).take 20)) (h' : Ints w' v' ((nats b).take 20)) => times_any v v' ((nats a).take 20) ((nats b).take 20) w' h h')
  have HMa := Lib.hid (fun w' (hb : Below w.heap.size w w') => matrix_any va (nats a) 16 w' (Nat.le_refl _) (ha.below hb (Nat.le_refl _)))
  rw [matB_mk hma hma.le] at HMa
  have HBal := Lib.hid (fun v w' xs (h : Ints w' v xs) => Balanced_any v xs w' h)
  have HNor := Lib.hid (fun v w' xs (h : Ints w' v xs) => Normal_any v xs w' h)
  rw [nats_take hma] at HA
  have HOv := Lib.hid (fun w' (hb : Below w.heap.size w w') => overN va m a w' (ha.below hb (Nat.le_refl _)) hma)
  have HTu := Lib.hid (fun w' (hb : Below w.heap.size w w') => turned_any va m a r c w' (ha.below hb (Nat.le_refl _)) hma)
  have HCl := Lib.hid (fun v w' (h : Nats w' v (normL m a)) => cloneN v (normL m a) w' (by rw [(norm_mat hma).len]; exact hma.le) (fun x hx => Nat.lt_of_lt_of_le ((norm_mat hma).lt x hx) (pw_nat m hma.le).2) h)
  have HCe := Lib.hid (fun v w' (h : Nats w' v (normL m a)) => norm_cells hma h)
  have hcl := lowN_lt m c
  have PB1 := Lib.hid (fun w w' e (h : BalPost w (nats a) e w') => bal_fine hma hok h)
  have PN := Lib.hid (fun w w' e (h : NormPost w (nats a) e w') => norm_fine hma h)
  have PB2 := Lib.hid (fun w w' e (h : BalPost w (nats (normL m a)) e w') => bal_fine (norm_mat hma) ((bal_norm hma).trans hok) h)
  have PB3 := Lib.hid (fun w w' e (h : BalPost w (nats (overL m a)) e w') => bal_fine (over_mat hma) ((bal_over hma).trans hok) h)
  have PB4 := Lib.hid (fun w w' e (h : BalPost w (nats (turnL m a r (lowN m c))) e w') => bal_fine (turnL_mat hma r _ hcl) ((bal_turn r _).trans hok) h)
  have HD := Lib.hid (fun w' => double_any ((11 : Nat) : Int) w')
  have HQ := Lib.hid (fun w' => squares_any ((11 : Nat) : Int) w')
  have PD := Lib.hid (fun w w' e (h : DoublePost w ((11 : Nat) : Int) e w') => double_bad (by decide) h)
  have PQ := Lib.hid (fun w w' e (h : SquaresPost w ((11 : Nat) : Int) e w') => squares_fine (by decide) h)
  have PBq := Lib.hid (fun w w' e (h : BalPost w (nats (squaresS 11)) e w') => bal_fine (squares_mat (p := 11) (by decide)) bsq11 h)
  have PT := Lib.hid (fun w w' e (h : TimesPost w ((nats a).take 20) ((nats b).take 20) e w') => times_fine hma hmb hs (by rw [nats_take hma, nats_take hmb] at h; exact h))
  rw [nats_take hmb] at HBl
  obtain ⟨ot, hot⟩ : ∃ ot, ot = balB n b := ⟨_, rfl⟩
  have PBb := Lib.hid (fun w w' e (h : BalPost w (nats b) e w') => bal_fine hmb hot.symm h)
  have hmul : (m:Int) * (n:Int) = ((m * n : Nat) : Int) := (Int.natCast_mul ..).symm
  have hmm := Nat.mul_le_mul hma.le hmb.le
  have PBt := Lib.hid (fun w w' e (h : BalPost w (nats (timesS m n a b)) e w') => bal_fine (times_mat hma hmb hs) (show balB (m * n) (timesS m n a b) = false by rw [bal_times hma hmb, hok, ← hot]; rfl) h)
  clear hot
  rw [nats_take hma, nats_take hmb] at HTi PT
  obtain ⟨ao, cap, rfl, _, _⟩ := hma.open ha
  obtain ⟨bo, capb, rfl, _, _⟩ := hmb.open hb
  have hm16 := hma.le
  have hm1 := hma.pos
  clear ha hb hok hcl hs hma hmb
  generalize m * n = mn at *
  have HB0 := Lib.hid (Below.refl w.heap.size w)
  go_enter Try.func10, Try.ntmps10
  go_wp2_with fail
  refine (HA.out w HB0.out).mono ?_
  rintro e w1 ⟨v1, rfl, hv1, hb1⟩
  have HB1 := Lib.hid (HB0.out.trans (hb1.mono HB0.out.size))
  have A_1 := Lib.hid (hv1)
  clear hb1 hv1
  go_wp2_with fail
  refine (HBal.out v1 w1 _ A_1.out).mono ?_
  intro e w2 hq
  obtain ⟨rfl, rfl⟩ := PB1.out _ _ _ hq
  clear hq
  clear A_1
  go_wp2_with fail
  refine (HMa.out w1 HB1.out).mono ?_
  rintro e w' ⟨rfl, rfl⟩
  go_wp2_with fail
  refine (HA.out w1 HB1.out).mono ?_
  rintro e w2 ⟨v2, rfl, hv2, hb2⟩
  have HB2 := Lib.hid (HB1.out.trans (hb2.mono HB1.out.size))
  have A_2 := Lib.hid (hv2)
  clear hb2 hv2
  go_wp2_with fail
  refine (HNor.out v2 w2 _ A_2.out).mono ?_
  intro e w3 hq
  obtain ⟨v3, rfl, hv3, hb3⟩ := PN.out _ _ _ hq
  have HB3 := Lib.hid (HB2.out.trans (hb3.mono HB2.out.size))
  have A_3 := Lib.hid (A_2.out.below hb3 (Nat.le_refl _))
  have N_3 := Lib.hid (hv3)
  clear hv3
  clear hb3
  clear hq
  clear A_3
  go_wp2_with fail
  refine (HCl.out v3 w3 N_3.out).mono ?_
  rintro e w4 ⟨v4, rfl, hv4, hb4⟩
  have HB4 := Lib.hid (HB3.out.trans (hb4.mono HB3.out.size))
  have N_4 := Lib.hid (N_3.out.below hb4 (Nat.le_refl _))
  have C_4 := Lib.hid (hv4)
  clear hb4 hv4
  go_wp2_with fail
  refine (HBal.out v4 w4 _ C_4.out).mono ?_
  intro e w5 hq
  obtain ⟨rfl, rfl⟩ := PB2.out _ _ _ hq
  clear hq
  clear C_4
  go_wp2_with fail
  refine (HOv.out w4 HB4.out).mono ?_
  rintro e w5 ⟨v5, rfl, hv5, hb5⟩
  have HB5 := Lib.hid (HB4.out.trans (hb5.mono HB4.out.size))
  have N_5 := Lib.hid (N_4.out.below hb5 (Nat.le_refl _))
  have O_5 := Lib.hid (hv5)
  clear hb5 hv5
  go_wp2_with fail
  refine (HBal.out v5 w5 _ O_5.out).mono ?_
  intro e w6 hq
  obtain ⟨rfl, rfl⟩ := PB3.out _ _ _ hq
  clear hq
  clear O_5
  go_wp2_with fail
  refine (HTu.out w5 HB5.out).mono ?_
  rintro e w6 ⟨v6, rfl, hv6, hb6⟩
  have HB6 := Lib.hid (HB5.out.trans (hb6.mono HB5.out.size))
  have N_6 := Lib.hid (N_5.out.below hb6 (Nat.le_refl _))
  have U_6 := Lib.hid (hv6)
  clear hb6 hv6
  go_wp2_with fail
  refine (HBal.out v6 w6 _ U_6.out).mono ?_
  intro e w7 hq
  obtain ⟨rfl, rfl⟩ := PB4.out _ _ _ hq
  clear hq
  clear U_6
  obtain ⟨aoN, capN, hvN, hcN⟩ := HCe.out v3 w6 N_6.out
  subst hvN
  have HCN := Lib.hid hcN
  clear hcN HCe HCl HNor HOv HTu PB1 PB2 PB3 PB4 PN HMa
  clear N_6
  go_wp2_with fail
  go_loop [111] (fun i => ∃ q : Nat, q ≤ m ∧ i = .int .i64 q) (fun i => m - (intOf i).toNat)
  case atStart => exact ⟨0, Nat.zero_le _, rfl⟩
  case round =>
    obtain ⟨q, hq, rfl⟩ := hrel
    by_cases hlt : q < m
    · obtain ⟨bN, oN, x, rfl, hcx, hx1, hx0⟩ := HCN.out q hlt
      by_cases hq0 : q = 0
      · have hx0' := hx0 hq0
        have hqd : ((q:Int) == 0) = true := by simp; exact hq0
        clear hq0 hx0
        go_wp2
        go_round
        case rel => exact ⟨q + 1, by omega, by go_num⟩
        case measure => simp [intOf]; omega
      · have hqd : ((q:Int) == 0) = false := by simp; exact hq0
        clear hq0 hx0
        go_wp2
        go_round
        case rel => exact ⟨q + 1, by omega, by go_num⟩
        case measure => simp [intOf]; omega
    · obtain rfl : m = q := by omega
      clear HCN
      go_wp2_with fail
      refine (HBl.out w6 HB6.out).mono ?_
      rintro e w7 ⟨v7, rfl, hv7, hb7⟩
      have HB7 := Lib.hid (HB6.out.trans (hb7.mono HB6.out.size))
      have B_7 := Lib.hid (hv7)
      clear hb7 hv7
      go_wp2_with fail
      refine (HBal.out v7 w7 _ B_7.out).mono ?_
      intro e w8 hq
      obtain ⟨rfl, rfl⟩ := PBb.out _ _ _ hq
      clear hq
      clear B_7
      go_wp2_with fail
      refine (HA.out w7 HB7.out).mono ?_
      rintro e w8 ⟨v8, rfl, hv8, hb8⟩
      have HB8 := Lib.hid (HB7.out.trans (hb8.mono HB7.out.size))
      have A_8 := Lib.hid (hv8)
      clear hb8 hv8
      go_wp2_with fail
      refine (HBl.out w8 HB8.out).mono ?_
      rintro e w9 ⟨v9, rfl, hv9, hb9⟩
      have HB9 := Lib.hid (HB8.out.trans (hb9.mono HB8.out.size))
      have A_9 := Lib.hid (A_8.out.below hb9 (Nat.le_refl _))
      have B_9 := Lib.hid (hv9)
      clear hb9 hv9
      go_wp2_with fail
      refine (HTi.out v8 v9 w9 A_9.out B_9.out).mono ?_
      intro e w10 hq
      obtain ⟨v10, rfl, hv10, hb10⟩ := PT.out _ _ _ hq
      have HB10 := Lib.hid (HB9.out.trans (hb10.mono HB9.out.size))
      have A_10 := Lib.hid (A_9.out.below hb10 (Nat.le_refl _))
      have B_10 := Lib.hid (B_9.out.below hb10 (Nat.le_refl _))
      have Y_10 := Lib.hid (hv10)
      clear hv10
      clear hb10
      clear hq
      clear A_10
      clear B_10
      go_wp2_with fail
      refine (HBal.out v10 w10 _ Y_10.out).mono ?_
      intro e w11 hq
      obtain ⟨rfl, rfl⟩ := PBt.out _ _ _ hq
      clear hq
      clear Y_10
      go_wp2_with fail
      refine (HD.out w10).mono ?_
      intro e w11 hq
      obtain ⟨rfl, hb11⟩ := PD.out _ _ _ hq
      have HB11 := Lib.hid (HB10.out.trans (hb11.mono HB10.out.size))
      clear hb11
      clear hq
      go_wp2_with fail
      refine (HQ.out w11).mono ?_
      intro e w12 hq
      obtain ⟨v12, rfl, hv12, hb12⟩ := PQ.out _ _ _ hq
      have HB12 := Lib.hid (HB11.out.trans (hb12.mono HB11.out.size))
      have Z_12 := Lib.hid (hv12)
      clear hv12
      clear hb12
      clear hq
      go_wp2_with fail
      refine (HBal.out v12 w12 _ Z_12.out).mono ?_
      intro e w13 hq
      obtain ⟨rfl, rfl⟩ := PBq.out _ _ _ hq
      clear hq
      clear Z_12
      go_wp2_with fail
      refine (awake_any w12).mono ?_
      rintro e w13 ⟨rfl, hb13⟩
      have HB13 := Lib.hid (HB12.out.trans (hb13.mono HB12.out.size))
      clear hb13
      go_wp2
      go_ret
      exact ⟨rfl, HB13.out⟩
end Go.Proofs.Ytopmdmafameknaa
