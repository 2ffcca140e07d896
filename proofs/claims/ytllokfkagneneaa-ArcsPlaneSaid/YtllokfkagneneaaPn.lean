/- ArcsPlane: the walk -/
import Derived.Test.YtllokfkagneneaaT3
import Derived.Test.YtllokfkagneneaaJl
namespace Go.Proofs.Ytllokfkagneneaa
open Go.RowKit

theorem okB_nat {q : Nat} (hq : isPn q) {i j : Nat} (hi : i < np q) (hj : j < np q) : okB q [(i:Int), (j:Int)] = true := by
  have h1 : isP (q:Int) = true := by rcases hq with rfl | rfl | rfl | rfl <;> rfl
  unfold okB inB
  rw [h1]
  simp
  omega

theorem on2_good (q i j : Nat) (w : World) (hq : isPn q) (hi : i < np q) (hj : j < np q) :
    Calls Try.prog 20 #[.int .i64 q, .int .i64 i, .int .i64 j] w fun e w' => e = .returned (.tuple #[.bool (onB q i j), .int .i64 0]) ∧ Below w.heap.size w w' := by
  have hn := np_le q hq.le.2
  have hk := okB_nat hq hi hj
  refine (on2_any q i j w (by unfold I64; omega) (by unfold I64; omega)).mono fun e w' h => ?_
  have h2 := onpost_good h hk
  simp only [Int.toNat_natCast] at h2
  exact h2

set_option maxHeartbeats 4000000 in
set_option maxRecDepth 100000 in
theorem plane_bad (p i j : Int) (w : World) (hp : isP p = false) :
    Calls Try.prog 11 #[.int .i64 p, .int .i64 i, .int .i64 j] w fun e w' => e = .returned (.bool true) ∧ Below w.heap.size w w' := by
  have HPo := Lib.hid (points_bad p w hp)
  clear hp
  go_enter Try.func11, Try.ntmps11
  go_wp2_with fail
  refine HPo.out.mono ?_
  rintro e w1 ⟨rfl, hb1⟩
  have HB1 := Lib.hid hb1
  clear hb1
  go_wp2_with fail
  refine (awake_any w1).mono ?_
  rintro e w2 ⟨rfl, hb2⟩
  have HB2 := Lib.hid (HB1.out.trans (hb2.mono HB1.out.size))
  clear hb2
  go_wp2
  go_ret
  exact ⟨rfl, HB2.out⟩

theorem modArg (i : Int) (n : Nat) (h : 0 < n) (h' : n ≤ 1000) : ∃ a : Nat, a < n ∧ wrap64 ((IntKind.u64.wrap i).tmod n) = a := by
  have h0 : 0 ≤ IntKind.u64.wrap i := by
    simp [IntKind.wrap, IntKind.bits, IntKind.signed]
    omega
  rw [Int.tmod_eq_emod_of_nonneg h0]
  have h1 := Int.emod_nonneg (IntKind.u64.wrap i) (show (n:Int) ≠ 0 by omega)
  have h2 := Int.emod_lt_of_pos (IntKind.u64.wrap i) (show 0 < (n:Int) by omega)
  refine ⟨(IntKind.u64.wrap i % n).toNat, by omega, ?_⟩
  unfold wrap64
  omega

/-- Two points: Join and Meet tell the line, which both are on. -/
theorem plane_join (q a b : Nat) (hq : isPn q) (ha : a < np q) (hb : b < np q) (h : a ≠ b) : ∃ l : Nat, l < np q ∧ onB q a l = true ∧ onB q b l = true ∧
    (∀ w, Calls Try.prog 27 #[.int .i64 q, .int .i64 a, .int .i64 b] w fun e w' => e = .returned (.tuple #[.int .i64 l, .int .i64 0]) ∧ Below w.heap.size w w') ∧
    (∀ w, Calls Try.prog 28 #[.int .i64 q, .int .i64 a, .int .i64 b] w fun e w' => e = .returned (.tuple #[.int .i64 l, .int .i64 0]) ∧ Below w.heap.size w w') := by
  obtain ⟨l, h1, h2, h3, h4⟩ := joinR_on q a b hq ha hb h
  have hn := np_le q hq.le.2
  have hk := okB_nat hq ha hb
  rw [← joins_same q a b hq ha hb h] at h1
  refine ⟨l, h2, h3, h4, fun w => ?_, fun w => ?_⟩
  · exact (join_any q a b w (by unfold I64; omega) (by unfold I64; omega)).mono fun e w' h' => by rw [← h1]; exact joinpost_good h' hk h
  · exact (meet_any q a b w (by unfold I64; omega) (by unfold I64; omega)).mono fun e w' h' => by rw [← h1]; exact joinpost_good h' hk h

set_option maxHeartbeats 8000000 in
set_option maxRecDepth 100000 in
theorem plane_good (q : Nat) (i j : Int) (w : World) (hq : isPn q) :
    Calls Try.prog 11 #[.int .i64 q, .int .i64 i, .int .i64 j] w fun e w' => e = .returned (.bool true) ∧ Below w.heap.size w w' := by
  have HPo := Lib.hid (points_good q w hq)
  have HPr : Hid (∀ w, Calls Try.prog 21 #[.int .i64 q] w fun e w' => e = .returned (.bool true) ∧ w = w') := fun w => by
    have := prime_any q w
    rw [show isP (q:Int) = true by rcases hq with rfl | rfl | rfl | rfl <;> rfl] at this
    exact this
  have HOn := Lib.hid (fun a b (ha : a < np q) (hb : b < np q) w => on2_good q a b w hq ha hb)
  have hn57 := np_le q hq.le.2
  obtain ⟨hq2, hq7⟩ := hq.le
  have HBd := Lib.hid (fun k (hk : k < np q) => pt_bd q k hq hk)
  have HCnt := Lib.hid (fun a (ha : a < np q) => cnt_all q a hq ha)
  have HJ := Lib.hid (fun a b (ha : a < np q) (hb : b < np q) (h : a ≠ b) => plane_join q a b hq ha hb h)
  have hd : (((np q : Nat) : Int) != (q:Int) * q + q + 1) = false := by
    have : ((np q : Nat) : Int) = (q:Int) * q + q + 1 := by unfold np; push_cast; rfl
    rw [this]; simp
  have hd2 : (((np q : Nat) : Int) == (q:Int) * q + q + 1) = true := by simpa using hd
  have hpos : 0 < np q := by unfold np; omega
  have hq49 : (q:Int) * q ≤ 7 * 7 := Int.mul_le_mul (by omega) (by omega) (by omega) (by omega)
  have hq0 : 0 ≤ (q:Int) * q := Int.mul_nonneg (by omega) (by omega)
  clear hq
  go_enter Try.func11, Try.ntmps11
  go_wp2_with fail
  refine HPo.out.mono ?_
  rintro e w1 ⟨v, rfl, hT, hb1⟩
  obtain ⟨c, cap, rfl, hcap, hc, hx⟩ := hT.open_pts
  have HX := Lib.hid hx
  have HB1 := Lib.hid hb1
  clear hb1 hx hT
  generalize np q = n at *
  go_wp2_with fail
  refine (HPr.out w1).mono ?_
  rintro e w1' ⟨rfl, rfl⟩
  go_wp2_with fail
  go_quiet (fail)
  obtain ⟨a, ha, hA⟩ := modArg i n hpos (by omega)
  obtain ⟨b, hb, hB⟩ := modArg j n hpos (by omega)
  rw [hA, hB]
  have HCa := Lib.hid (HCnt.out a ha)
  have HJ' := Lib.hid (HJ.out a b ha hb)
  obtain ⟨a0, a1, a2⟩ := HX.out a ha
  obtain ⟨⟨e1, e2⟩, ⟨e3, e4⟩, ⟨e5, e6⟩⟩ := HBd.out a ha
  obtain ⟨x0, hx0⟩ : ∃ x, x = (pt q a).1 := ⟨_, rfl⟩
  obtain ⟨x1, hx1⟩ : ∃ x, x = (pt q a).2.1 := ⟨_, rfl⟩
  obtain ⟨x2, hx2⟩ : ∃ x, x = (pt q a).2.2 := ⟨_, rfl⟩
  rw [← hx0] at a0 e1 e2
  rw [← hx1] at a1 e3 e4
  rw [← hx2] at a2 e5 e6
  have HOX : Hid (∀ k, onB q k a = (((pt q k).1 * x0 + (pt q k).2.1 * x1 + (pt q k).2.2 * x2) % (q:Int) == 0)) := fun k => by rw [hx0, hx1, hx2]; rfl
  clear hA hB HCnt HJ hx0 hx1 hx2
  go_wp2_with fail
  go_loopw [9, 10, 69] (fun s9 s10 s69 wr => ∃ k : Nat, k ≤ n ∧ s69 = .int .i64 k ∧ s9 = .int .i64 (cnt q a k) ∧ s10 = .int .i64 (cnt q a k) ∧ Below w1.heap.size w1 wr) (fun _ _ s69 _ => n - (intOf s69).toNat)
  case atStart => exact ⟨0, Nat.zero_le _, rfl, rfl, rfl, below_drewN (Below.refl _ _) _⟩
  case round =>
    obtain ⟨k, hk, rfl, rfl, rfl, hbel⟩ := hrel
    have HBel := Lib.hid hbel
    clear hbel
    have hcl := cnt_le q a k
    by_cases hlt : k < n
    · obtain ⟨k0, k1, k2⟩ := HX.out k hlt
      obtain ⟨⟨f1, f2⟩, ⟨f3, f4⟩, ⟨f5, f6⟩⟩ := HBd.out k hlt
      have HO1 := Lib.hid (HOn.out k a hlt ha)
      have HO2 := Lib.hid (HOn.out a k ha hlt)
      rw [onB_comm q a k] at HO2
      have HOk := Lib.hid (HOX.out k)
      have HY := Lib.hid (cnt_yes q a k)
      have HN := Lib.hid (cnt_no q a k)
      generalize (pt q k).1 = y0 at *
      generalize (pt q k).2.1 = y1 at *
      generalize (pt q k).2.2 = y2 at *
      generalize cnt q a k = m at *
      have b1 := prodb (a := y0) (x := x0) (by omega) (by omega)
      have b2 := prodb (a := y1) (x := x1) (by omega) (by omega)
      have b3 := prodb (a := y2) (x := x2) (by omega) (by omega)
      have c1 := Int.mul_nonneg f1 e1
      have c2 := Int.mul_nonneg f3 e3
      have c3 := Int.mul_nonneg f5 e5
      have s1 : IntKind.i64.wrap (y0 * x0) = y0 * x0 := IntWalk.i64_in _ (by omega)
      have s2 : IntKind.i64.wrap (y1 * x1) = y1 * x1 := IntWalk.i64_in _ (by omega)
      have s3 : IntKind.i64.wrap (y2 * x2) = y2 * x2 := IntWalk.i64_in _ (by omega)
      have s4 : IntKind.i64.wrap (y0 * x0 + y1 * x1) = y0 * x0 + y1 * x1 := IntWalk.i64_in _ (by omega)
      have s5 : IntKind.i64.wrap (y0 * x0 + y1 * x1 + y2 * x2) = y0 * x0 + y1 * x1 + y2 * x2 := IntWalk.i64_in _ (by omega)
      have s6 : (y0 * x0 + y1 * x1 + y2 * x2).tmod q = (y0 * x0 + y1 * x1 + y2 * x2) % q := Int.tmod_eq_emod_of_nonneg (by omega)
      have s7 : ((q:Int) == 0) = false := by simp; omega
      have s8 : ¬ q = 0 := by omega
      cases ho : onB q k a with
      | true =>
        have hon := HOk.out
        rw [ho] at hon
        rw [ho] at HO1 HO2
        have hon' : ((y0 * x0 + y1 * x1 + y2 * x2) % (q:Int) == 0) = true := hon.symm
        have HY' := Lib.hid (HY.out ho)
        clear ho hon HY HN HOk b1 b2 b3
        go_wp2_with fail
        refine (HO1.out wr).mono ?_
        rintro e wx ⟨rfl, hbx⟩
        have HBx := Lib.hid (HBel.out.trans (hbx.mono HBel.out.size))
        clear hbx
        go_wp2_with fail
        refine (HO2.out wx).mono ?_
        rintro e wy ⟨rfl, hby⟩
        have HBy := Lib.hid (HBx.out.trans (hby.mono HBx.out.size))
        have k0' := ck k0 HBy.out
        have k1' := ck k1 HBy.out
        have k2' := ck k2 HBy.out
        have a0' := ck a0 HBy.out
        have a1' := ck a1 HBy.out
        have a2' := ck a2 HBy.out
        clear hby
        go_wp2_with fail
        go_quiet (fail)
        clear s1 s2 s3 s4 s5 s6 k0' k1' k2' a0' a1' a2' c1 c2 c3
        go_wp2
        go_roundw
        case rel => exact ⟨k + 1, by omega, by go_num, by rw [HY'.out]; go_num, by rw [HY'.out]; go_num, below_drewN HBy.out _⟩
        case measure => simp [intOf]; omega
      | false =>
        have hon := HOk.out
        rw [ho] at hon
        rw [ho] at HO1 HO2
        have hon' : ((y0 * x0 + y1 * x1 + y2 * x2) % (q:Int) == 0) = false := hon.symm
        have HN' := Lib.hid (HN.out ho)
        clear ho hon HY HN HOk b1 b2 b3
        go_wp2_with fail
        refine (HO1.out wr).mono ?_
        rintro e wx ⟨rfl, hbx⟩
        have HBx := Lib.hid (HBel.out.trans (hbx.mono HBel.out.size))
        clear hbx
        go_wp2_with fail
        refine (HO2.out wx).mono ?_
        rintro e wy ⟨rfl, hby⟩
        have HBy := Lib.hid (HBx.out.trans (hby.mono HBx.out.size))
        have k0' := ck k0 HBy.out
        have k1' := ck k1 HBy.out
        have k2' := ck k2 HBy.out
        have a0' := ck a0 HBy.out
        have a1' := ck a1 HBy.out
        have a2' := ck a2 HBy.out
        clear hby
        go_wp2_with fail
        go_quiet (fail)
        clear s1 s2 s3 s4 s5 s6 k0' k1' k2' a0' a1' a2' c1 c2 c3
        go_wp2
        go_roundw
        case rel => exact ⟨k + 1, by omega, by go_num, by rw [HN'.out], by rw [HN'.out], below_drewN HBy.out _⟩
        case measure => simp [intOf]; omega
    · obtain rfl : k = n := by omega
      have hcc : ((cnt q a k : Nat) : Int) = (q:Int) + 1 := by rw [HCa.out]; push_cast; rfl
      rw [hcc]
      clear hcc hcl hlt hk
      have HBW := Lib.hid (HB1.out.trans (HBel.out.mono HB1.out.size))
      by_cases hab : a = b
      · subst hab
        go_wp2_with fail
        refine (awake_any wr).mono ?_
        rintro e wa ⟨rfl, hba⟩
        have HBa := Lib.hid (HBW.out.trans (hba.mono HBW.out.size))
        clear hba
        go_wp2
        go_ret
        exact ⟨rfl, HBa.out⟩
      have heq : ((a:Int) == (b:Int)) = false := by simp; omega
      obtain ⟨l, hl, ol1, ol2, j1, j2⟩ := HJ'.out hab
      have HJ1 := Lib.hid j1
      have HJ2 := Lib.hid j2
      have HO1 := Lib.hid (fun w => HOn.out a l ha hl w)
      have HO2 := Lib.hid (fun w => HOn.out b l hb hl w)
      have HO3 := Lib.hid (fun w => HOn.out l a hl ha w)
      have HO4 := Lib.hid (fun w => HOn.out l b hl hb w)
      rw [onB_comm q l a] at HO3
      rw [onB_comm q l b] at HO4
      rw [ol1] at HO1 HO3
      rw [ol2] at HO2 HO4
      clear j1 j2 ol1 ol2 hab HJ'
      go_wp2_with fail
      refine (HJ1.out wr).mono ?_
      rintro e wj ⟨rfl, hb'⟩
      have HBwj := Lib.hid (HBW.out.trans (hb'.mono HBW.out.size))
      clear hb'
      go_wp2_with fail
      refine (HJ2.out wj).mono ?_
      rintro e wm ⟨rfl, hb'⟩
      have HBwm := Lib.hid (HBwj.out.trans (hb'.mono HBwj.out.size))
      clear hb'
      go_wp2_with fail
      refine (HO1.out wm).mono ?_
      rintro e v1 ⟨rfl, hb'⟩
      have HBv1 := Lib.hid (HBwm.out.trans (hb'.mono HBwm.out.size))
      clear hb'
      go_wp2_with fail
      refine (HO2.out v1).mono ?_
      rintro e v2 ⟨rfl, hb'⟩
      have HBv2 := Lib.hid (HBv1.out.trans (hb'.mono HBv1.out.size))
      clear hb'
      go_wp2_with fail
      refine (HO3.out v2).mono ?_
      rintro e v3 ⟨rfl, hb'⟩
      have HBv3 := Lib.hid (HBv2.out.trans (hb'.mono HBv2.out.size))
      clear hb'
      go_wp2_with fail
      refine (HO4.out v3).mono ?_
      rintro e v4 ⟨rfl, hb'⟩
      have HBv4 := Lib.hid (HBv3.out.trans (hb'.mono HBv3.out.size))
      clear hb'
      go_wp2_with fail
      refine (awake_any v4).mono ?_
      rintro e wa ⟨rfl, hb'⟩
      have HBa := Lib.hid (HBv4.out.trans (hb'.mono HBv4.out.size))
      clear hb'
      go_wp2
      go_ret
      exact ⟨rfl, HBa.out⟩

theorem plane_law (p i j : Int) (w : World) :
    Calls Try.prog 11 #[.int .i64 p, .int .i64 i, .int .i64 j] w fun e w' => e = .returned (.bool true) ∧ Below w.heap.size w w' := by
  cases hp : isP p with
  | false => exact plane_bad p i j w hp
  | true =>
    obtain ⟨q, rfl⟩ : ∃ q : Nat, p = q := ⟨p.toNat, by have := isP_cases hp; omega⟩
    exact plane_good q i j w (by have := isP_cases hp; unfold isPn; omega)
end Go.Proofs.Ytllokfkagneneaa
