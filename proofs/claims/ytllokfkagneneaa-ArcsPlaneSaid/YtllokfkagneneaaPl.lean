/- ArcsPoints: the walk -/
import Derived.Test.YtllokfkagneneaaS
import Derived.Test.YtllokfkagneneaaK
namespace Go.Proofs.Ytllokfkagneneaa
open Go.RowKit

theorem onpost_bad {w w' : World} {p i j : Int} {e : Ending} (h : OnPost w p i j e w') (hk : okB p [i, j] = false) : e = .returned (.tuple #[.bool false, .int .i64 2]) ∧ Below w.heap.size w w' := by
  unfold OnPost at h; rw [hk] at h; exact h
theorem onpost_good {w w' : World} {p i j : Int} {e : Ending} (h : OnPost w p i j e w') (hk : okB p [i, j] = true) : e = .returned (.tuple #[.bool (onB p.toNat i.toNat j.toNat), .int .i64 0]) ∧ Below w.heap.size w w' := by
  unfold OnPost at h; rw [hk] at h; exact h

set_option maxHeartbeats 4000000 in
set_option maxRecDepth 100000 in
theorem points_law (p i j : Int) (w : World) (hi : I64 i) (hj : I64 j) :
    Calls Try.prog 3 #[.int .i64 p, .int .i64 i, .int .i64 j] w fun e w' => e = .returned (.bool true) ∧ Below w.heap.size w w' := by
  have HOn := Lib.hid (fun w => on2_any p i j w hi hj)
  have HPr := Lib.hid (fun w => prime_any p w)
  cases hp : isP p with
  | false =>
    have hk : okB p [i, j] = false := by unfold okB; rw [hp]; rfl
    have HK := Lib.hid hk
    have HPo := Lib.hid (points_bad p w hp)
    rw [hp] at HPr
    clear hp hk hi hj
    go_enter Try.func3, Try.ntmps3
    go_wp2_with fail
    refine HPo.out.mono ?_
    rintro e w1 ⟨rfl, hb1⟩
    have HB1 := Lib.hid hb1
    clear hb1
    go_wp2_with fail
    refine (HOn.out w1).mono ?_
    intro e w2 hq
    obtain ⟨rfl, hb2⟩ := onpost_bad hq HK.out
    have HB2 := Lib.hid (HB1.out.trans (hb2.mono HB1.out.size))
    clear hb2 hq
    go_wp2_with fail
    refine (HPr.out w2).mono ?_
    rintro e w2' ⟨rfl, rfl⟩
    go_wp2_with fail
    refine (awake_any w2).mono ?_
    rintro e w3 ⟨rfl, hb3⟩
    have HB3 := Lib.hid (HB2.out.trans (hb3.mono HB2.out.size))
    clear hb3
    go_wp2
    go_ret
    exact ⟨rfl, HB3.out⟩
  | true =>
    obtain ⟨q, rfl⟩ : ∃ q : Nat, p = q := ⟨p.toNat, by have := isP_cases hp; omega⟩
    have hq : isPn q := by have := isP_cases hp; unfold isPn; omega
    have HPo := Lib.hid (points_good q w hq)
    have HRP := Lib.hid (fun w => rpoints_any q w hq)
    have HTO := Lib.hid (fun (w : World) (B : Nat) (v : Value) (h : w.ownsRow B 31 3 v (ptsL q).length (flat (ptsL q))) => Tris.of_owns h rfl (ptsL_ne q) (by rw [pts_length]; have := np_le q hq.le.2; omega))
    have HLP := Lib.hid (fun w => lpoints_any q _ [i, j] _ (Ints.two w i j 3 hi hj))
    have HRO := Lib.hid (fun a b (ha : a < np q) (hb : b < np q) w => rOn_any q a b w hq ha hb)
    rw [hp] at HPr
    clear hp hi hj hq
    cases hk : okB q [i, j] with
    | false =>
      have HK := Lib.hid hk
      rw [hk] at HLP
      clear hk
      go_enter Try.func3, Try.ntmps3
      go_wp2_with fail
      refine HPo.out.mono ?_
      rintro e w1 ⟨v, rfl, hT1, hb1⟩
      have HT1 := Lib.hid hT1
      have HB1 := Lib.hid hb1
      clear hb1 hT1
      go_wp2_with fail
      refine (HOn.out w1).mono ?_
      intro e w2 hq
      obtain ⟨rfl, hb2⟩ := onpost_bad hq HK.out
      have HT2 := Lib.hid (HT1.out.below hb2 (Nat.le_refl _))
      have HB2 := Lib.hid (HB1.out.trans (hb2.mono HB1.out.size))
      clear hb2 hq
      go_wp2_with fail
      refine (HPr.out w2).mono ?_
      rintro e w2' ⟨rfl, rfl⟩
      go_wp2_with fail
      refine (HRP.out w2).mono ?_
      rintro e w3 ⟨v3, rfl, hown, hb3⟩
      have HT3 := Lib.hid (HT2.out.below hb3 (Nat.le_refl _))
      have HT3' := Lib.hid (HTO.out _ _ _ hown)
      have HB3 := Lib.hid (HB2.out.trans (hb3.mono HB2.out.size))
      clear hb3 hown
      go_wp2_with fail
      refine (equal3_same _ _ _ _ HT3.out HT3'.out).mono ?_
      rintro e w4 ⟨rfl, hb4⟩
      have HB4 := Lib.hid (HB3.out.trans (hb4.mono HB3.out.size))
      clear hb4
      go_wp2_with fail
      refine (awake_any w4).mono ?_
      rintro e w5 ⟨rfl, hb5⟩
      have HB5 := Lib.hid (HB4.out.trans (hb5.mono HB4.out.size))
      clear hb5
      go_wp2_with fail
      refine (HLP.out w5).mono ?_
      rintro e w6 ⟨rfl, rfl⟩
      have HB6 := Lib.hid (HB5.out.alloc HB5.out.size (.cells #[.int .i64 i, .int .i64 j] 3))
      go_wp2
      go_ret
      exact ⟨rfl, HB6.out⟩
    | true =>
      obtain ⟨q', hqq, hq', hall⟩ := okB_of hk
      obtain rfl : q = q' := by omega
      obtain ⟨a, rfl, ha⟩ := hall i (by simp)
      obtain ⟨b, rfl, hb⟩ := hall j (by simp)
      have HRO' := Lib.hid (HRO.out a b ha hb)
      have HK := Lib.hid hk
      rw [hk] at HLP
      clear hk hall ha hb hqq hq' HRO
      go_enter Try.func3, Try.ntmps3
      go_wp2_with fail
      refine HPo.out.mono ?_
      rintro e w1 ⟨v, rfl, hT1, hb1⟩
      have HT1 := Lib.hid hT1
      have HB1 := Lib.hid hb1
      clear hb1 hT1
      go_wp2_with fail
      refine (HOn.out w1).mono ?_
      intro e w2 hq
      obtain ⟨he, hb2⟩ := onpost_good hq HK.out
      have he' : e = .returned (.tuple #[.bool (onB q a b), .int .i64 0]) := he
      subst he'
      have HT2 := Lib.hid (HT1.out.below hb2 (Nat.le_refl _))
      have HB2 := Lib.hid (HB1.out.trans (hb2.mono HB1.out.size))
      clear hb2 hq he
      generalize onB q a b = on at *
      go_wp2_with fail
      refine (HPr.out w2).mono ?_
      rintro e w2' ⟨rfl, rfl⟩
      go_wp2_with fail
      refine (HRP.out w2).mono ?_
      rintro e w3 ⟨v3, rfl, hown, hb3⟩
      have HT3 := Lib.hid (HT2.out.below hb3 (Nat.le_refl _))
      have HT3' := Lib.hid (HTO.out _ _ _ hown)
      have HB3 := Lib.hid (HB2.out.trans (hb3.mono HB2.out.size))
      clear hb3 hown
      go_wp2_with fail
      refine (equal3_same _ _ _ _ HT3.out HT3'.out).mono ?_
      rintro e w4 ⟨rfl, hb4⟩
      have HB4 := Lib.hid (HB3.out.trans (hb4.mono HB3.out.size))
      clear hb4
      go_wp2_with fail
      refine (awake_any w4).mono ?_
      rintro e w5 ⟨rfl, hb5⟩
      have HB5 := Lib.hid (HB4.out.trans (hb5.mono HB4.out.size))
      clear hb5
      go_wp2_with fail
      refine (HLP.out w5).mono ?_
      rintro e w6 ⟨rfl, rfl⟩
      have HB6 := Lib.hid (HB5.out.alloc HB5.out.size (.cells #[.int .i64 a, .int .i64 b] 3))
      go_wp2_with fail
      refine (HRO'.out _).mono ?_
      rintro e w7 ⟨rfl, hb7⟩
      have HB7 := Lib.hid (HB6.out.trans (hb7.mono HB6.out.size))
      clear hb7
      have hoo : (on == on) = true := by simp
      go_wp2
      go_ret
      exact ⟨rfl, HB7.out⟩
end Go.Proofs.Ytllokfkagneneaa
