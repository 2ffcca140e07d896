/- SignsMakes: walks -/
import Derived.Test.YtopmdmafameknaaMb
namespace Go.Proofs.Ytopmdmafameknaa
open Go.RowKit

set_option maxHeartbeats 1000000 in
set_option maxRecDepth 100000 in
theorem makes_A0 (w : World) (va vb : Value) (k : Int) (hk : k < 0) (xs ys : List Int) (hm : matB 16 xs = false) (ha : Ints w va xs) (hb : Ints w vb ys) :
    Calls Try.prog 4 #[.int .i64 k, va, vb] w fun e w' => e = .returned (.bool true) ∧ Below w.heap.size w w' := by
  have HA := Lib.hid (fun w' (hb : Below w.heap.size w w') => list_any va xs w' (ha.below hb (Nat.le_refl _)))
  have HBl := Lib.hid (fun w' (hb' : Below w.heap.size w w') => list_any vb ys w' (hb.below hb' (Nat.le_refl _)))
  have HTi := Lib.hid (fun v v' w' (h : Ints w' v (xs.take 20)) (h' : Ints w' v' (ys.take 20)) => times_any v v' (xs.take 20) (ys.take 20) w' h h')
  have HMa := Lib.hid (fun w' (hb : Below w.heap.size w w') => matrix_any va xs 16 w' (Nat.le_refl _) (ha.below hb (Nat.le_refl _)))
  have HMb := Lib.hid (fun w' (hb' : Below w.heap.size w w') => matrix_any vb ys 16 w' (Nat.le_refl _) (hb.below hb' (Nat.le_refl _)))
  have HD := Lib.hid (fun w' => double_any k w')
  have HQ := Lib.hid (fun w' => squares_any k w')
  have PD := Lib.hid (fun w w' e (h : DoublePost w k e w') => double_bad (fun h => by omega) h)
  have hq : isQ k = false := by simp [isQ]; omega
  have q1 : (k != 3) = true := by simp [isQ] at hq; simp; omega
  have q2 : (k != 7) = true := by simp [isQ] at hq; simp; omega
  have q3 : (k != 11) = true := by simp [isQ] at hq; simp; omega
  have PQ := Lib.hid (fun w w' e (h : SquaresPost w k e w') => squares_bad hq h)
  have PT := Lib.hid (fun w w' e (h : TimesPost w (xs.take 20) (ys.take 20) e w') => times_bad (by rw [matB_take 16 xs (Nat.le_refl _), hm]; rfl) h)
  rw [hm] at HMa
  obtain ⟨ao, cap, rfl, _⟩ := ha.open
  obtain ⟨bo, capb, rfl, _⟩ := hb.open
  clear ha hb hm hq
  have HB0 := Lib.hid (Below.refl w.heap.size w)
  go_enter Try.func4, Try.ntmps4
  go_wp2_with fail
  refine (HD.out w).mono ?_
  intro e w1 hq
  obtain ⟨rfl, hb1⟩ := PD.out _ _ _ hq
  have HB1 := Lib.hid (HB0.out.trans (hb1.mono HB0.out.size))
  clear hb1
  clear hq
  go_wp2_with fail
  refine (HA.out w1 HB1.out).mono ?_
  rintro e w2 ⟨v2, rfl, hv2, hb2⟩
  have HB2 := Lib.hid (HB1.out.trans (hb2.mono HB1.out.size))
  have A_2 := Lib.hid (hv2)
  clear hb2 hv2
  go_wp2_with fail
  refine (HBl.out w2 HB2.out).mono ?_
  rintro e w3 ⟨v3, rfl, hv3, hb3⟩
  have HB3 := Lib.hid (HB2.out.trans (hb3.mono HB2.out.size))
  have A_3 := Lib.hid (A_2.out.below hb3 (Nat.le_refl _))
  have B_3 := Lib.hid (hv3)
  clear hb3 hv3
  go_wp2_with fail
  refine (HTi.out v2 v3 w3 A_3.out B_3.out).mono ?_
  intro e w4 hq
  obtain ⟨rfl, hb4⟩ := PT.out _ _ _ hq
  have HB4 := Lib.hid (HB3.out.trans (hb4.mono HB3.out.size))
  have A_4 := Lib.hid (A_3.out.below hb4 (Nat.le_refl _))
  have B_4 := Lib.hid (B_3.out.below hb4 (Nat.le_refl _))
  clear hb4
  clear hq
  clear A_4
  clear B_4
  go_wp2_with fail
  refine (HQ.out w4).mono ?_
  intro e w5 hq
  obtain ⟨rfl, hb5⟩ := PQ.out _ _ _ hq
  have HB5 := Lib.hid (HB4.out.trans (hb5.mono HB4.out.size))
  clear hb5
  clear hq
  go_wp2_with fail
  refine (HMa.out w5 HB5.out).mono ?_
  rintro e w' ⟨rfl, rfl⟩
  go_wp2_with fail
  refine (awake_any w5).mono ?_
  rintro e w6 ⟨rfl, hb6⟩
  have HB6 := Lib.hid (HB5.out.trans (hb6.mono HB5.out.size))
  clear hb6
  go_wp2
  go_ret
  exact ⟨rfl, HB6.out⟩

set_option maxHeartbeats 1000000 in
set_option maxRecDepth 100000 in
theorem makes_A1 (w : World) (va vb : Value) (k : Int) (hk : k < 0) (m : Nat) (a : List Nat) (ys : List Int) (hma : Mat m a) (hm : matB 16 ys = false) (ha : Nats w va a) (hb : Ints w vb ys) :
    Calls Try.prog 4 #[.int .i64 k, va, vb] w fun e w' => e = .returned (.bool true) ∧ Below w.heap.size w w' := by
  have HA := Lib.hid (fun w' (hb : Below w.heap.size w w') => list_any va (nats a) w' (ha.below hb (Nat.le_refl _)))
  have HBl := Lib.hid (fun w' (hb' : Below w.heap.size w w') => list_any vb ys w' (hb.below hb' (Nat.le_refl _)))
  have HTi := Lib.hid (fun v v' w' (h : Ints w' v ((nats a).take 20)) (h' : Ints w' v' (ys.take 20)) => times_any v v' ((nats a).take 20) (ys.take 20) w' h h')
  have HMa := Lib.hid (fun w' (hb : Below w.heap.size w w') => matrix_any va (nats a) 16 w' (Nat.le_refl _) (ha.below hb (Nat.le_refl _)))
  have HMb := Lib.hid (fun w' (hb' : Below w.heap.size w w') => matrix_any vb ys 16 w' (Nat.le_refl _) (hb.below hb' (Nat.le_refl _)))
  have HD := Lib.hid (fun w' => double_any k w')
  have HQ := Lib.hid (fun w' => squares_any k w')
  have PD := Lib.hid (fun w w' e (h : DoublePost w k e w') => double_bad (fun h => by omega) h)
  have hq : isQ k = false := by simp [isQ]; omega
  have q1 : (k != 3) = true := by simp [isQ] at hq; simp; omega
  have q2 : (k != 7) = true := by simp [isQ] at hq; simp; omega
  have q3 : (k != 11) = true := by simp [isQ] at hq; simp; omega
  have PQ := Lib.hid (fun w w' e (h : SquaresPost w k e w') => squares_bad hq h)
  have PT := Lib.hid (fun w w' e (h : TimesPost w ((nats a).take 20) (ys.take 20) e w') => times_bad (by rw [matB_take 16 ys (Nat.le_refl _), hm]; exact Bool.and_false _) h)
  rw [matB_mk hma hma.le] at HMa
  rw [hm] at HMb
  obtain ⟨ao, cap, rfl, _, _⟩ := hma.open ha
  obtain ⟨bo, capb, rfl, _⟩ := hb.open
  clear ha hb hm hma hq
  have HB0 := Lib.hid (Below.refl w.heap.size w)
  go_enter Try.func4, Try.ntmps4
  go_wp2_with fail
  refine (HD.out w).mono ?_
  intro e w1 hq
  obtain ⟨rfl, hb1⟩ := PD.out _ _ _ hq
  have HB1 := Lib.hid (HB0.out.trans (hb1.mono HB0.out.size))
  clear hb1
  clear hq
  go_wp2_with fail
  refine (HA.out w1 HB1.out).mono ?_
  rintro e w2 ⟨v2, rfl, hv2, hb2⟩
  have HB2 := Lib.hid (HB1.out.trans (hb2.mono HB1.out.size))
  have A_2 := Lib.hid (hv2)
  clear hb2 hv2
  go_wp2_with fail
  refine (HBl.out w2 HB2.out).mono ?_
  rintro e w3 ⟨v3, rfl, hv3, hb3⟩
  have HB3 := Lib.hid (HB2.out.trans (hb3.mono HB2.out.size))
  have A_3 := Lib.hid (A_2.out.below hb3 (Nat.le_refl _))
  have B_3 := Lib.hid (hv3)
  clear hb3 hv3
  go_wp2_with fail
  refine (HTi.out v2 v3 w3 A_3.out B_3.out).mono ?_
  intro e w4 hq
  obtain ⟨rfl, hb4⟩ := PT.out _ _ _ hq
  have HB4 := Lib.hid (HB3.out.trans (hb4.mono HB3.out.size))
  have A_4 := Lib.hid (A_3.out.below hb4 (Nat.le_refl _))
  have B_4 := Lib.hid (B_3.out.below hb4 (Nat.le_refl _))
  clear hb4
  clear hq
  clear A_4
  clear B_4
  go_wp2_with fail
  refine (HQ.out w4).mono ?_
  intro e w5 hq
  obtain ⟨rfl, hb5⟩ := PQ.out _ _ _ hq
  have HB5 := Lib.hid (HB4.out.trans (hb5.mono HB4.out.size))
  clear hb5
  clear hq
  go_wp2_with fail
  refine (HMa.out w5 HB5.out).mono ?_
  rintro e w' ⟨rfl, rfl⟩
  go_wp2_with fail
  refine (HMb.out w5 HB5.out).mono ?_
  rintro e w' ⟨rfl, rfl⟩
  go_wp2_with fail
  refine (awake_any w5).mono ?_
  rintro e w6 ⟨rfl, hb6⟩
  have HB6 := Lib.hid (HB5.out.trans (hb6.mono HB5.out.size))
  clear hb6
  go_wp2
  go_ret
  exact ⟨rfl, HB6.out⟩

set_option maxHeartbeats 1000000 in
set_option maxRecDepth 100000 in
theorem makes_A2 (w : World) (va vb : Value) (k : Int) (hk : k < 0) (m n : Nat) (a b : List Nat) (hma : Mat m a) (hmb : Mat n b) (hs : ¬ m * n ≤ 16) (ha : Nats w va a) (hb : Nats w vb b) :
    Calls Try.prog 4 #[.int .i64 k, va, vb] w fun e w' => e = .returned (.bool true) ∧ Below w.heap.size w w' := by
  have HA := Lib.hid (fun w' (hb : Below w.heap.size w w') => list_any va (nats a) w' (ha.below hb (Nat.le_refl _)))
  have HBl := Lib.hid (fun w' (hb' : Below w.heap.size w w') => list_any vb (nats b) w' (hb.below hb' (Nat.le_refl _)))
  have HTi := Lib.hid (fun v v' w' (h : Ints w' v ((nats a).take 20)) (h' : Ints w' v' ((nats b).take 20)) => times_any v v' ((nats a).take 20) ((nats b).take 20) w' h h')
  have HMa := Lib.hid (fun w' (hb : Below w.heap.size w w') => matrix_any va (nats a) 16 w' (Nat.le_refl _) (ha.below hb (Nat.le_refl _)))
  have HMb := Lib.hid (fun w' (hb' : Below w.heap.size w w') => matrix_any vb (nats b) 16 w' (Nat.le_refl _) (hb.below hb' (Nat.le_refl _)))
  have HD := Lib.hid (fun w' => double_any k w')
  have HQ := Lib.hid (fun w' => squares_any k w')
  have PD := Lib.hid (fun w w' e (h : DoublePost w k e w') => double_bad (fun h => by omega) h)
  have hq : isQ k = false := by simp [isQ]; omega
  have q1 : (k != 3) = true := by simp [isQ] at hq; simp; omega
  have q2 : (k != 7) = true := by simp [isQ] at hq; simp; omega
  have q3 : (k != 11) = true := by simp [isQ] at hq; simp; omega
  have PQ := Lib.hid (fun w w' e (h : SquaresPost w k e w') => squares_bad hq h)
  have PT := Lib.hid (fun w w' e (h : TimesPost w ((nats a).take 20) ((nats b).take 20) e w') => times_big hma hmb hs (by rw [nats_take hma, nats_take hmb] at h; exact h))
  rw [matB_mk hma hma.le] at HMa
  rw [matB_mk hmb hmb.le] at HMb
  have hmul : (m:Int) * (n:Int) = ((m * n : Nat) : Int) := (Int.natCast_mul ..).symm
  have hmm := Nat.mul_le_mul hma.le hmb.le
  obtain ⟨ao, cap, rfl, _, _⟩ := hma.open ha
  obtain ⟨bo, capb, rfl, _, _⟩ := hmb.open hb
  clear ha hb hma hmb hq
  generalize m * n = mn at *
  have HB0 := Lib.hid (Below.refl w.heap.size w)
  go_enter Try.func4, Try.ntmps4
  go_wp2_with fail
  refine (HD.out w).mono ?_
  intro e w1 hq
  obtain ⟨rfl, hb1⟩ := PD.out _ _ _ hq
  have HB1 := Lib.hid (HB0.out.trans (hb1.mono HB0.out.size))
  clear hb1
  clear hq
  go_wp2_with fail
  refine (HA.out w1 HB1.out).mono ?_
  rintro e w2 ⟨v2, rfl, hv2, hb2⟩
  have HB2 := Lib.hid (HB1.out.trans (hb2.mono HB1.out.size))
  have A_2 := Lib.hid (hv2)
  clear hb2 hv2
  go_wp2_with fail
  refine (HBl.out w2 HB2.out).mono ?_
  rintro e w3 ⟨v3, rfl, hv3, hb3⟩
  have HB3 := Lib.hid (HB2.out.trans (hb3.mono HB2.out.size))
  have A_3 := Lib.hid (A_2.out.below hb3 (Nat.le_refl _))
  have B_3 := Lib.hid (hv3)
  clear hb3 hv3
  go_wp2_with fail
  refine (HTi.out v2 v3 w3 A_3.out B_3.out).mono ?_
  intro e w4 hq
  obtain ⟨rfl, hb4⟩ := PT.out _ _ _ hq
  have HB4 := Lib.hid (HB3.out.trans (hb4.mono HB3.out.size))
  have A_4 := Lib.hid (A_3.out.below hb4 (Nat.le_refl _))
  have B_4 := Lib.hid (B_3.out.below hb4 (Nat.le_refl _))
  clear hb4
  clear hq
  clear A_4
  clear B_4
  go_wp2_with fail
  refine (HQ.out w4).mono ?_
  intro e w5 hq
  obtain ⟨rfl, hb5⟩ := PQ.out _ _ _ hq
  have HB5 := Lib.hid (HB4.out.trans (hb5.mono HB4.out.size))
  clear hb5
  clear hq
  go_wp2_with fail
  refine (HMa.out w5 HB5.out).mono ?_
  rintro e w' ⟨rfl, rfl⟩
  go_wp2_with fail
  refine (HMb.out w5 HB5.out).mono ?_
  rintro e w' ⟨rfl, rfl⟩
  go_wp2_with fail
  refine (awake_any w5).mono ?_
  rintro e w6 ⟨rfl, hb6⟩
  have HB6 := Lib.hid (HB5.out.trans (hb6.mono HB5.out.size))
  clear hb6
  go_wp2
  go_ret
  exact ⟨rfl, HB6.out⟩

set_option maxHeartbeats 1000000 in
set_option maxRecDepth 100000 in
theorem makes_A3 (w : World) (va vb : Value) (k : Int) (hk : k < 0) (m n : Nat) (a b : List Nat) (hma : Mat m a) (hmb : Mat n b) (hs : m * n ≤ 16) (ha : Nats w va a) (hb : Nats w vb b) :
    Calls Try.prog 4 #[.int .i64 k, va, vb] w fun e w' => e = .returned (.bool true) ∧ Below w.heap.size w w' := by
  have HA := Lib.hid (fun w' (hb : Below w.heap.size w w') => list_any va (nats a) w' (ha.below hb (Nat.le_refl _)))
  have HBl := Lib.hid (fun w' (hb' : Below w.heap.size w w') => list_any vb (nats b) w' (hb.below hb' (Nat.le_refl _)))
  have HTi := Lib.hid (fun v v' w' (h : Ints w' v ((nats a).take 20)) (h' : Ints w' v' ((nats b).take 20)) => times_any v v' ((nats a).take 20) ((nats b).take 20) w' h h')
  have HMa := Lib.hid (fun w' (hb : Below w.heap.size w w') => matrix_any va (nats a) 16 w' (Nat.le_refl _) (ha.below hb (Nat.le_refl _)))
  have HMb := Lib.hid (fun w' (hb' : Below w.heap.size w w') => matrix_any vb (nats b) 16 w' (Nat.le_refl _) (hb.below hb' (Nat.le_refl _)))
  have HD := Lib.hid (fun w' => double_any k w')
  have HQ := Lib.hid (fun w' => squares_any k w')
  have PD := Lib.hid (fun w w' e (h : DoublePost w k e w') => double_bad (fun h => by omega) h)
  have hq : isQ k = false := by simp [isQ]; omega
  have q1 : (k != 3) = true := by simp [isQ] at hq; simp; omega
  have q2 : (k != 7) = true := by simp [isQ] at hq; simp; omega
  have q3 : (k != 11) = true := by simp [isQ] at hq; simp; omega
  have PQ := Lib.hid (fun w w' e (h : SquaresPost w k e w') => squares_bad hq h)
  have PT := Lib.hid (fun w w' e (h : TimesPost w ((nats a).take 20) ((nats b).take 20) e w') => times_fine hma hmb hs (by rw [nats_take hma, nats_take hmb] at h; exact h))
  rw [matB_mk hma hma.le] at HMa
  rw [matB_mk hmb hmb.le] at HMb
  have hmul : (m:Int) * (n:Int) = ((m * n : Nat) : Int) := (Int.natCast_mul ..).symm
  have hmm := Nat.mul_le_mul hma.le hmb.le
  have RT := Lib.hid (fun w' (hb' : Below w.heap.size w w') => rTimes_any va vb m n a b w' (ha.below hb' (Nat.le_refl _)) (hb.below hb' (Nat.le_refl _)) hma hmb hs)
  have NT : Hid (∀ w' g, NatBlk w' g (timesS m n a b) → Nats w' (.slice (some ⟨g, 0, none⟩) (m * n) (m * n)) (timesS m n a b)) := fun w' g h => plant_nats hs h
  obtain ⟨ao, cap, rfl, _, _⟩ := hma.open ha
  obtain ⟨bo, capb, rfl, _, _⟩ := hmb.open hb
  clear ha hb hma hmb hq
  generalize m * n = mn at *
  have HB0 := Lib.hid (Below.refl w.heap.size w)
  go_enter Try.func4, Try.ntmps4
  go_wp2_with fail
  refine (HD.out w).mono ?_
  intro e w1 hq
  obtain ⟨rfl, hb1⟩ := PD.out _ _ _ hq
  have HB1 := Lib.hid (HB0.out.trans (hb1.mono HB0.out.size))
  clear hb1
  clear hq
  go_wp2_with fail
  refine (HA.out w1 HB1.out).mono ?_
  rintro e w2 ⟨v2, rfl, hv2, hb2⟩
  have HB2 := Lib.hid (HB1.out.trans (hb2.mono HB1.out.size))
  have A_2 := Lib.hid (hv2)
  clear hb2 hv2
  go_wp2_with fail
  refine (HBl.out w2 HB2.out).mono ?_
  rintro e w3 ⟨v3, rfl, hv3, hb3⟩
  have HB3 := Lib.hid (HB2.out.trans (hb3.mono HB2.out.size))
  have A_3 := Lib.hid (A_2.out.below hb3 (Nat.le_refl _))
  have B_3 := Lib.hid (hv3)
  clear hb3 hv3
  go_wp2_with fail
  refine (HTi.out v2 v3 w3 A_3.out B_3.out).mono ?_
  intro e w4 hq
  obtain ⟨v4, rfl, hv4, hb4⟩ := PT.out _ _ _ hq
  have HB4 := Lib.hid (HB3.out.trans (hb4.mono HB3.out.size))
  have A_4 := Lib.hid (A_3.out.below hb4 (Nat.le_refl _))
  have B_4 := Lib.hid (B_3.out.below hb4 (Nat.le_refl _))
  have Y_4 := Lib.hid (hv4)
  clear hv4
  clear hb4
  clear hq
  clear A_4
  clear B_4
  go_wp2_with fail
  refine (HQ.out w4).mono ?_
  intro e w5 hq
  obtain ⟨rfl, hb5⟩ := PQ.out _ _ _ hq
  have HB5 := Lib.hid (HB4.out.trans (hb5.mono HB4.out.size))
  have Y_5 := Lib.hid (Y_4.out.below hb5 (Nat.le_refl _))
  clear hb5
  clear hq
  go_wp2_with fail
  refine (HMa.out w5 HB5.out).mono ?_
  rintro e w' ⟨rfl, rfl⟩
  go_wp2_with fail
  refine (HMb.out w5 HB5.out).mono ?_
  rintro e w' ⟨rfl, rfl⟩
  go_wp2_with fail
  refine (RT.out w5 HB5.out).mono ?_
  rintro e w6 ⟨rfl, hB6, hb6⟩
  have HB6 := Lib.hid (HB5.out.trans (hb6.mono HB5.out.size))
  have Y_6 := Lib.hid (Y_5.out.below hb6 (Nat.le_refl _))
  have hE6 := eq_same v4 _ _ w6 Y_6.out (NT.out _ _ hB6)
  have HE6 := Lib.hid hE6
  clear hb6 hB6 hE6
  go_wp2_with fail
  refine (HE6.out).mono ?_
  rintro e w7 ⟨rfl, hb7⟩
  have HB7 := Lib.hid (HB6.out.trans (hb7.mono HB6.out.size))
  have Y_7 := Lib.hid (Y_6.out.below hb7 (Nat.le_refl _))
  clear hb7
  clear Y_7
  go_wp2_with fail
  refine (awake_any w7).mono ?_
  rintro e w8 ⟨rfl, hb8⟩
  have HB8 := Lib.hid (HB7.out.trans (hb8.mono HB7.out.size))
  clear hb8
  go_wp2
  go_ret
  exact ⟨rfl, HB8.out⟩
end Go.Proofs.Ytopmdmafameknaa
