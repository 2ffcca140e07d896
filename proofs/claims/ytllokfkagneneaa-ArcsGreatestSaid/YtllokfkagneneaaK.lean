/- planes: Join, Meet -/
import Derived.Test.YtllokfkagneneaaG
import Derived.Test.YtllokfkagneneaaI
import Derived.Test.YtllokfkagneneaaJ
namespace Go.Proofs.Ytllokfkagneneaa
open Go.RowKit

def joinS (p i j : Nat) : Int := numS p ((pt p i).2.1 * (pt p j).2.2 - (pt p i).2.2 * (pt p j).2.1) ((pt p i).2.2 * (pt p j).1 - (pt p i).1 * (pt p j).2.2) ((pt p i).1 * (pt p j).2.1 - (pt p i).2.1 * (pt p j).1)
def JoinPost (w : World) (p i j : Int) (e : Ending) (w' : World) : Prop :=
  (if okB p [i, j] = true ∧ i ≠ j then e = .returned (.tuple #[.int .i64 (joinS p.toNat i.toNat j.toNat), .int .i64 0]) else e = .returned (.tuple #[.int .i64 0, .int .i64 2])) ∧ Below w.heap.size w w'

theorem cross_I64 {x1 x2 y1 y2 : Int} (h1 : 0 ≤ x1 ∧ x1 ≤ 200) (h2 : 0 ≤ x2 ∧ x2 ≤ 200) (h3 : 0 ≤ y1 ∧ y1 ≤ 200) (h4 : 0 ≤ y2 ∧ y2 ≤ 200) : I64 (x1 * y2 - x2 * y1) := by
  have a := prodb (a := x1) (by omega) h4
  have b := prodb (a := x2) (by omega) h3
  unfold I64
  omega

set_option maxHeartbeats 4000000 in
set_option maxRecDepth 100000 in
theorem join_any (p i j : Int) (w : World) (hi : I64 i) (hj : I64 j) : Calls Try.prog 27 #[.int .i64 p, .int .i64 i, .int .i64 j] w (JoinPost w p i j) := by
  have HO := Lib.hid (open_any p _ [i, j] (w.alloc (.cells #[.int .i64 i, .int .i64 j] 3)) (Ints.two w i j 3 hi hj))
  have hb0 : Below w.heap.size w (w.alloc (.cells #[.int .i64 i, .int .i64 j] 3)) := (Below.refl _ _).alloc (Nat.le_refl _) _
  have HB0 := Lib.hid hb0
  clear hb0
  cases hok : okB p [i, j] with
  | false =>
    have HK := Lib.hid hok
    go_enter Try.func27, Try.ntmps27
    go_wp2_with fail
    refine HO.out.mono ?_
    intro e w1 hq
    have hok' : (isP p && inB p.toNat [i, j]) = false := hok
    rw [hok'] at hq
    obtain ⟨rfl, hbel⟩ := hq
    have HB := Lib.hid (HB0.out.trans (hbel.mono HB0.out.size))
    clear hok hok' hbel
    go_wp2
    go_ret2
    unfold JoinPost
    rw [HK.out]
    exact ⟨rfl, HB.out⟩
  | true =>
    obtain ⟨q, rfl, hq, hall⟩ := okB_of hok
    obtain ⟨i', rfl, hi'⟩ := hall i (by simp)
    obtain ⟨j', rfl, hj'⟩ := hall j (by simp)
    have HK := Lib.hid hok
    have HQ := Lib.hid hq
    have hok' : (isP (q:Int) && inB (q:Int).toNat [(i':Int), (j':Int)]) = true := hok
    rw [hok'] at HO
    have hq7 := hq.le
    have HII := Lib.hid hi
    have HJJ := Lib.hid hj
    obtain ⟨⟨a1, a2⟩, ⟨a3, a4⟩, ⟨a5, a6⟩⟩ := pt_bd q i' hq hi'
    obtain ⟨⟨b1, b2⟩, ⟨b3, b4⟩, ⟨b5, b6⟩⟩ := pt_bd q j' hq hj'
    clear hok hok' hall hi hj hq
    go_enter Try.func27, Try.ntmps27
    go_wp2_with fail
    refine HO.out.mono ?_
    intro e w1 hqq
    obtain ⟨b, rfl, hb, hP, hbel⟩ := hqq
    have HB := Lib.hid (HB0.out.trans (hbel.mono HB0.out.size))
    have hb1 : Below w1.heap.size w1 (w1.alloc (.cells #[.int .i64 i', .int .i64 j'] 3)) := (Below.refl _ _).alloc (Nat.le_refl _) _
    have HP : Hid (PlaneAt (w1.alloc (.cells #[.int .i64 i', .int .i64 j'] 3)) b q) := hP.below hb1 (Nat.le_refl _)
    have HB1 := Lib.hid hb1
    have HD := Lib.hid (differ_any _ [(i':Int), (j':Int)] (w1.alloc (.cells #[.int .i64 i', .int .i64 j'] 3)) (Ints.two w1 i' j' 3 HII.out HJJ.out))
    clear hbel hP HO hb1
    by_cases hne : i' = j'
    · have hd : difB [(i':Int), (j':Int)] = false := decide_eq_false (by simp; omega)
      rw [hd] at HD
      have HN := Lib.hid hne
      clear hd hne
      go_wp2_with fail
      refine HD.out.mono ?_
      rintro e w2 ⟨rfl, rfl⟩
      go_wp2
      go_ret2
      unfold JoinPost
      rw [if_neg (by have := HN.out; omega)]
      exact ⟨rfl, HB.out.trans (HB1.out.mono HB.out.size)⟩
    · have hd : difB [(i':Int), (j':Int)] = true := decide_eq_true (by simp; omega)
      rw [hd] at HD
      have HN := Lib.hid hne
      clear hd hne
      go_wp2_with fail
      refine HD.out.mono ?_
      rintro e w2 ⟨rfl, rfl⟩
      have HBB := Lib.hid (HB.out.trans (HB1.out.mono HB.out.size))
      generalize w1.alloc (.cells #[.int .i64 i', .int .i64 j'] 3) = W at *
      obtain ⟨c, cap, c0, c1, hcap, hb, hc, hx⟩ := HP.out.open
      obtain ⟨i0, i1, i2⟩ := hx i' hi'
      obtain ⟨j0, j1, j2⟩ := hx j' hj'
      have hn := np_le q hq7.2
      have HJ : Hid (joinS q i' j' = numS q ((pt q i').2.1 * (pt q j').2.2 - (pt q i').2.2 * (pt q j').2.1) ((pt q i').2.2 * (pt q j').1 - (pt q i').1 * (pt q j').2.2) ((pt q i').1 * (pt q j').2.1 - (pt q i').2.1 * (pt q j').1)) := rfl
      clear hx HD HB0 HB1 HB HII HJJ
      generalize np q = n at *
      generalize (pt q i').1 = x0 at *
      generalize (pt q i').2.1 = x1 at *
      generalize (pt q i').2.2 = x2 at *
      generalize (pt q j').1 = y0 at *
      generalize (pt q j').2.1 = y1 at *
      generalize (pt q j').2.2 = y2 at *
      have I1 : Hid (I64 (x1*y2-x2*y1)) := cross_I64 (by omega) (by omega) (by omega) (by omega)
      have I2 : Hid (I64 (x2*y0-x0*y2)) := cross_I64 (by omega) (by omega) (by omega) (by omega)
      have I3 : Hid (I64 (x0*y1-x1*y0)) := cross_I64 (by omega) (by omega) (by omega) (by omega)
      have HPd : Hid (PlaneAt W.drew b q) := HP.out.below (Below.refl W.heap.size W).drew (Nat.le_refl _)
      go_wp2_with fail
      go_region_held3 (fun w' => w'.cell? ⟨b, 1, none⟩ = some (.slice (some ⟨c, 0, none⟩) n cap) ∧ w'.cell? ⟨c, i'*3, none⟩ = some (.int .i64 x0) ∧ w'.cell? ⟨c, i'*3+1, none⟩ = some (.int .i64 x1) ∧ w'.cell? ⟨c, i'*3+2, none⟩ = some (.int .i64 x2) ∧ w'.cell? ⟨c, j'*3, none⟩ = some (.int .i64 y0) ∧ w'.cell? ⟨c, j'*3+1, none⟩ = some (.int .i64 y1) ∧ w'.cell? ⟨c, j'*3+2, none⟩ = some (.int .i64 y2) ∧ PlaneAt w' b q ∧ Below W.heap.size W w')
        (first | exact ⟨c1, i0, i1, i2, j0, j1, j2, HPd.out, (Below.refl _ _).drew⟩ | (obtain ⟨k1, k2, k3, k4, k5, k6, k7, k8, kb⟩ := ‹_ ∧ _›; exact ⟨ck k1 hbx, ck k2 hbx, ck k3 hbx, ck k4 hbx, ck k5 hbx, ck k6 hbx, ck k7 hbx, k8.below hbx (Nat.le_refl _), kb.trans (hbx.mono kb.size)⟩))
        (first | (go_at_call 73; refine (cross_any _ _ _ _ _ _ _ (by omega) (by omega) (by omega) (by omega) (by omega) (by omega)).mono ?_; rintro e w' ⟨rfl, hbx⟩) | (go_at_call 72; refine (number_any b q _ _ _ _ (by obtain ⟨_, _, _, _, _, _, _, k8, _⟩ := ‹_ ∧ _›; exact k8) HQ.out I1.out I2.out I3.out).mono ?_; rintro e w' ⟨rfl, hbx⟩))
      go_wp2
      go_ret2
      obtain ⟨_, _, _, _, _, _, _, _, kb⟩ := ‹_ ∧ _›
      unfold JoinPost
      rw [if_pos ⟨HK.out, by have := HN.out; omega⟩]
      exact ⟨by show _ = Ending.returned (.tuple #[.int .i64 (joinS q i' j'), .int .i64 0]); rw [HJ.out]; rfl, HBB.out.trans (kb.mono HBB.out.size)⟩

set_option maxHeartbeats 1000000 in
theorem meet_any (p i j : Int) (w : World) (hi : I64 i) (hj : I64 j) : Calls Try.prog 28 #[.int .i64 p, .int .i64 i, .int .i64 j] w (JoinPost w p i j) := by
  have HO := Lib.hid (join_any p i j w hi hj)
  clear hi hj
  go_enter Try.func28, Try.ntmps28
  go_wp2_with fail
  refine HO.out.mono ?_
  intro e w1 hq
  have HQ := Lib.hid hq
  unfold JoinPost at hq
  by_cases hk : okB p [i, j] = true ∧ i ≠ j
  · rw [if_pos hk] at hq
    obtain ⟨rfl, _⟩ := hq
    clear hk
    go_wp2
    go_ret2
    exact HQ.out
  · rw [if_neg hk] at hq
    obtain ⟨rfl, _⟩ := hq
    clear hk
    go_wp2
    go_ret2
    exact HQ.out

theorem join_201 : joinS 2 0 1 = 3 := by decide +kernel

set_option maxHeartbeats 1000000 in
theorem awake_any (w : World) : Calls Try.prog 22 #[] w fun e w' => e = .returned (.bool true) ∧ Below w.heap.size w w' := by
  have HO := Lib.hid (join_any 2 0 1 w (by unfold I64; omega) (by unfold I64; omega))
  go_enter Try.func22, Try.ntmps22
  go_wp2_with fail
  refine HO.out.mono ?_
  intro e w1 hq
  unfold JoinPost at hq
  rw [if_pos ⟨by decide +kernel, by omega⟩] at hq
  obtain ⟨rfl, hb⟩ := hq
  rw [show joinS (Int.toNat 2) (Int.toNat 0) (Int.toNat 1) = 3 from join_201]
  go_wp2
  go_ret
  exact ⟨rfl, hb⟩
end Go.Proofs.Ytllokfkagneneaa
