/- RooksAvoids: the walk -/
import Derived.Test.YtellnklbkjajbaaDoorVb
import Derived.Test.YtellnklbkjajbaaDoorOp
import Derived.Test.YtellnklbkjajbaaDoorVr
import Derived.Test.YtellnklbkjajbaaDoorCl
namespace Go.Proofs.YtellnklbkjajbaaDoor
open Go.RowKit

/-- The first permutation that hits nothing, and the error where there is none. -/
def avL (n : Nat) (bs : List Nat) : List Nat := (freeL n bs).headD []
def avE (n : Nat) (bs : List Nat) : Int := if (freeL n bs).isEmpty then 4 else 0
theorem AvPost.val {n : Nat} {bs : List Nat} {e : Ending} {w' : World} (h : AvPost n bs e w') : ∃ v', e = .returned (.tuple #[v', .int .i64 (avE n bs)]) ∧ Nats w' v' (avL n bs) := by
  unfold avE avL
  rcases h with ⟨h, rfl⟩ | ⟨p, ps, v', h, rfl, hN⟩
  · rw [h]; exact ⟨_, rfl, Ints.nil _⟩
  · rw [h]; exact ⟨v', rfl, hN⟩
def bar3 (n : Nat) (bs : List Nat) : Int × Int × Int :=
  match (List.range (2 ^ n)).find? (barB n bs) with
  | some S => (S, (cm (2 ^ n - 1) bs S n : Nat), 0)
  | none => (0, 0, 4)
theorem BarPost.val {n : Nat} {bs : List Nat} {e : Ending} (h : BarPost n bs e) : e = .returned (.tuple #[.int .i64 (bar3 n bs).1, .int .i64 (bar3 n bs).2.1, .int .i64 (bar3 n bs).2.2]) := by
  unfold bar3
  rcases h with ⟨S, h1, h2, h3, rfl⟩ | ⟨h, rfl⟩
  · have : (List.range (2 ^ n)).find? (barB n bs) = some S := by
      rw [List.find?_range_eq_some]
      exact ⟨h2, List.mem_range.2 h1, fun j hj => by rw [h3 j hj]; rfl⟩
    rw [this]
  · have : (List.range (2 ^ n)).find? (barB n bs) = none := by
      rw [List.find?_eq_none]
      intro x hx
      rw [h x (List.mem_range.1 hx)]; simp
    rw [this]
theorem Avoid_val (v : Value) (bs : List Nat) (n : Nat) (w : World) (hb : Brd n bs) (h : Nats w v bs) (hT : Tab w) :
    Calls Tryd.prog 23 #[v] w fun e w' => ∃ v', e = .returned (.tuple #[v', .int .i64 (avE n bs)]) ∧ Nats w' v' (avL n bs) ∧ Below w.heap.size w w' :=
  (Avoid_good v bs n w hb h hT).mono fun _ _ ⟨hp, hb'⟩ => by obtain ⟨v', e1, e2⟩ := hp.val; exact ⟨v', e1, e2, hb'⟩
theorem rAvoid_val (v : Value) (bs : List Nat) (n : Nat) (w : World) (hb : Brd n bs) (h : Nats w v bs) :
    Calls Tryd.prog 25 #[v] w fun e w' => ∃ v', e = .returned (.tuple #[v', .int .i64 (avE n bs)]) ∧ Nats w' v' (avL n bs) ∧ Below w.heap.size w w' :=
  (rAvoid_any v bs n w hb h).mono fun _ _ ⟨hp, hb'⟩ => by obtain ⟨v', e1, e2⟩ := hp.val; exact ⟨v', e1, e2, hb'⟩
theorem Barrier_val (v : Value) (bs : List Nat) (n : Nat) (w : World) (hb : Brd n bs) (h : Nats w v bs) (hT : Tab w) :
    Calls Tryd.prog 24 #[v] w fun e w' => e = .returned (.tuple #[.int .i64 (bar3 n bs).1, .int .i64 (bar3 n bs).2.1, .int .i64 (bar3 n bs).2.2]) ∧ Below w.heap.size w w' :=
  (Barrier_any v bs n w hb h hT).mono fun _ _ ⟨hp, hb'⟩ => ⟨hp.val, hb'⟩
theorem rBarrier_val (v : Value) (bs : List Nat) (n : Nat) (w : World) (hb : Brd n bs) (h : Nats w v bs) :
    Calls Tryd.prog 26 #[v] w fun e w' => e = .returned (.tuple #[.int .i64 (bar3 n bs).1, .int .i64 (bar3 n bs).2.1, .int .i64 (bar3 n bs).2.2]) ∧ w = w' :=
  (rBarrier_any v bs n w hb h).mono fun _ _ ⟨hp, hw⟩ => ⟨hp.val, hw⟩

set_option maxHeartbeats 4000000 in
set_option maxRecDepth 100000 in
theorem rooksAvoids_law (v : Value) (xs : List Int) (w : World) (h : Ints w v xs) (hT : Tab w) :
    Calls Tryd.prog 4 #[v] w fun e w' => e = .returned (.bool true) ∧ Below w.heap.size w w' := by
  have HL := Lib.hid (fun w' (hb : Below w.heap.size w w') => list_any v xs w' (h.below hb (Nat.le_refl _)))
  have HM := Lib.hid (fun w' (hb : Below w.heap.size w w') => Board_any v xs w' (h.below hb (Nat.le_refl _)))
  have HTab := Lib.hid (fun w' (hb : Below w.heap.size w w') => tab_block hT (hb.block 1 (tab_lt hT)))
  have HAw := Lib.hid (fun w' (hb : Below w.heap.size w w') => awake_any w' (HTab.out w' hb))
  cases hs : boardB xs with
  | false =>
    have HAv := Lib.hid (fun v' w' (h' : Ints w' v' (xs.take 9)) => Avoid_bad v' (xs.take 9) w' (by rw [boardB_take, hs]) h')
    have HBa := Lib.hid (fun v' w' (h' : Ints w' v' (xs.take 9)) => Barrier_bad v' (xs.take 9) w' (by rw [boardB_take, hs]) h')
    rw [hs] at HM
    clear hs h hT
    have HB0 := Lib.hid (Below.refl w.heap.size w)
    go_enter Tryd.func4, Tryd.ntmps4
    go_wp2_with fail
    refine (HL.out w HB0.out).mono ?_
    rintro e w1 ⟨v1, rfl, hv1, hb1⟩
    have HB1 := Lib.hid (HB0.out.trans (hb1.mono HB0.out.size))
    have A_1 := Lib.hid (hv1)
    clear hb1 hv1
    go_wp2_with fail
    refine (HAv.out v1 w1 A_1.out).mono ?_
    rintro e w2 ⟨rfl, hb2⟩
    have HB2 := Lib.hid (HB1.out.trans (hb2.mono HB1.out.size))
    have A_2 := Lib.hid (A_1.out.below hb2 (Nat.le_refl _))
    clear hb2
    clear A_2
    go_wp2_with fail
    refine (HL.out w2 HB2.out).mono ?_
    rintro e w3 ⟨v3, rfl, hv3, hb3⟩
    have HB3 := Lib.hid (HB2.out.trans (hb3.mono HB2.out.size))
    have B_3 := Lib.hid (hv3)
    clear hb3 hv3
    go_wp2_with fail
    refine (HBa.out v3 w3 B_3.out).mono ?_
    rintro e w4 ⟨rfl, hb4⟩
    have HB4 := Lib.hid (HB3.out.trans (hb4.mono HB3.out.size))
    have B_4 := Lib.hid (B_3.out.below hb4 (Nat.le_refl _))
    clear hb4
    clear B_4
    go_wp2_with fail
    refine (HM.out w4 HB4.out).mono ?_
    rintro e w' ⟨rfl, rfl⟩
    go_wp2_with fail
    refine (HAw.out w4 HB4.out).mono ?_
    rintro e w5 ⟨rfl, hb5⟩
    have HB5 := Lib.hid (HB4.out.trans (hb5.mono HB4.out.size))
    clear hb5
    go_wp2
    go_ret
    exact ⟨rfl, HB5.out⟩
  | true =>
    obtain ⟨bs, rfl, hb⟩ := boardB_of hs
    rw [nats_length] at hb
    obtain ⟨n, hn⟩ : ∃ n, n = bs.length := ⟨_, rfl⟩
    rw [← hn] at hb
    have hn6 := hb.le
    have ht : (nats bs).take 9 = nats bs := List.take_of_length_le (by rw [nats_length]; omega)
    rw [ht] at HL
    rw [hs] at HM
    have HAv := Lib.hid (fun v' w' (h' : Nats w' v' bs) (hT' : Tab w') => Avoid_val v' bs n w' hb h' hT')
    have HBa := Lib.hid (fun v' w' (h' : Nats w' v' bs) (hT' : Tab w') => Barrier_val v' bs n w' hb h' hT')
    have HRa := Lib.hid (fun w' (hb' : Below w.heap.size w w') => rAvoid_val v bs n w' hb (h.below hb' (Nat.le_refl _)))
    have HRb := Lib.hid (fun w' (hb' : Below w.heap.size w w') => rBarrier_val v bs n w' hb (h.below hb' (Nat.le_refl _)))
    have HEq := Lib.hid (fun v v' xs w h h' => equal_self v v' xs w h h')
    generalize avL n bs = l at *
    generalize avE n bs = ea at *
    generalize bar3 n bs = t at *
    obtain ⟨x, y, f⟩ := t
    clear hs h hb ht hT hn
    have HB0 := Lib.hid (Below.refl w.heap.size w)
    go_enter Tryd.func4, Tryd.ntmps4
    go_wp2_with fail
    refine (HL.out w HB0.out).mono ?_
    rintro e w1 ⟨v1, rfl, hv1, hb1⟩
    have HB1 := Lib.hid (HB0.out.trans (hb1.mono HB0.out.size))
    have A_1 := Lib.hid (hv1)
    clear hb1 hv1
    go_wp2_with fail
    refine (HAv.out v1 w1 A_1.out (HTab.out w1 HB1.out)).mono ?_
    rintro e w2 ⟨v2, rfl, hv2, hb2⟩
    have HB2 := Lib.hid (HB1.out.trans (hb2.mono HB1.out.size))
    have A_2 := Lib.hid (A_1.out.below hb2 (Nat.le_refl _))
    have X_2 := Lib.hid (hv2)
    clear hb2 hv2
    clear A_2
    go_wp2_with fail
    refine (HL.out w2 HB2.out).mono ?_
    rintro e w3 ⟨v3, rfl, hv3, hb3⟩
    have HB3 := Lib.hid (HB2.out.trans (hb3.mono HB2.out.size))
    have X_3 := Lib.hid (X_2.out.below hb3 (Nat.le_refl _))
    have B_3 := Lib.hid (hv3)
    clear hb3 hv3
    go_wp2_with fail
    refine (HBa.out v3 w3 B_3.out (HTab.out w3 HB3.out)).mono ?_
    rintro e w4 ⟨rfl, hb4⟩
    have HB4 := Lib.hid (HB3.out.trans (hb4.mono HB3.out.size))
    have X_4 := Lib.hid (X_3.out.below hb4 (Nat.le_refl _))
    have B_4 := Lib.hid (B_3.out.below hb4 (Nat.le_refl _))
    clear hb4
    clear B_4
    go_wp2_with fail
    refine (HM.out w4 HB4.out).mono ?_
    rintro e w' ⟨rfl, rfl⟩
    go_wp2_with fail
    refine (HRa.out w4 HB4.out).mono ?_
    rintro e w5 ⟨v5, rfl, hv5, hb5⟩
    have HB5 := Lib.hid (HB4.out.trans (hb5.mono HB4.out.size))
    have X_5 := Lib.hid (X_4.out.below hb5 (Nat.le_refl _))
    have Y_5 := Lib.hid (hv5)
    clear hb5 hv5
    go_wp2_with fail
    refine (HRb.out w5 HB5.out).mono ?_
    rintro e w' ⟨rfl, rfl⟩
    go_wp2_with fail
    refine (HEq.out _ _ _ w5 X_5.out Y_5.out).mono ?_
    rintro e w6 ⟨rfl, hb6⟩
    have HB6 := Lib.hid (HB5.out.trans (hb6.mono HB5.out.size))
    have X_6 := Lib.hid (X_5.out.below hb6 (Nat.le_refl _))
    have Y_6 := Lib.hid (Y_5.out.below hb6 (Nat.le_refl _))
    clear hb6
    clear X_6
    clear Y_6
    go_wp2_with fail
    refine (HAw.out w6 HB6.out).mono ?_
    rintro e w7 ⟨rfl, hb7⟩
    have HB7 := Lib.hid (HB6.out.trans (hb7.mono HB6.out.size))
    clear hb7
    go_wp2
    go_ret
    exact ⟨rfl, HB7.out⟩
end Go.Proofs.YtellnklbkjajbaaDoor
