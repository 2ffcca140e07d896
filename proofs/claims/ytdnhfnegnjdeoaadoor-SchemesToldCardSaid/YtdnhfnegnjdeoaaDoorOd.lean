/- odd sets of three: the program's Odd, the reference's IsOdd and Odd, the law's odd -/
import Derived.Test.YtdnhfnegnjdeoaaDoorRs
namespace Go.Proofs.YtdnhfnegnjdeoaaDoor
open Go.RowKit

set_option maxRecDepth 100000 in
set_option maxHeartbeats 2000000 in
theorem isOdd80_any (v : Value) (bs : List Nat) (n i j k : Nat) (w : World) (hb : Gr n bs) (h : Nats w v bs) (hi : i < n) (hj : j < n) (hk : k < n) :
    Calls Tryd.prog 80 #[v, .int .i64 i, .int .i64 j, .int .i64 k] w fun e w' => e = .returned (.bool (odd3 bs i j k)) ∧ Below w.heap.size w w' := by
  obtain ⟨ao, cap, rfl, _, hx⟩ := hb.open h
  obtain ⟨b, o, rfl, ci⟩ := hx i hi
  obtain ⟨b', o', e, cj⟩ := hx j hj
  cases e
  have hn := hb.le
  have q1 := bit_and1 (bs.getD i 0) j (hb.get16 i)
  have q2 := bit_and1 (bs.getD i 0) k (hb.get16 i)
  have q3 := bit_and1 (bs.getD j 0) k (hb.get16 j)
  have HO : Hid (odd3 bs i j k = (((bs.getD i 0).testBit j != (bs.getD i 0).testBit k) != (bs.getD j 0).testBit k)) := rfl
  have i0 : (0:Int) ≤ (i:Int) := by omega
  have j0 : (0:Int) ≤ (j:Int) := by omega
  have i1 : (i:Int) < (n:Int) := by omega
  have j1 : (j:Int) < (n:Int) := by omega
  have j16 : j ≤ 16 := by omega
  have k16 : k ≤ 16 := by omega
  clear hx h hb
  generalize hx : bs.getD i 0 = x at *
  generalize hy : bs.getD j 0 = y at *
  generalize odd3 bs i j k = od at *
  clear hx hy
  cases e1 : x.testBit j with
  | true =>
    cases e2 : x.testBit k with
    | true =>
      cases e3 : y.testBit k with
      | true =>
        have hod : od = true := by rw [HO.out, e1, e2, e3]; rfl
        subst hod
        rw [e1] at q1
        rw [e2] at q2
        rw [e3] at q3
        have p1 : bits .and .i64 ((x:Int) / 2 ^ j) 1 = 1 := q1
        have p2 : bits .and .i64 ((x:Int) / 2 ^ k) 1 = 1 := q2
        have p3 : bits .and .i64 ((y:Int) / 2 ^ k) 1 = 1 := q3
        clear q1 q2 q3 e1 e2 e3 HO
        go_enter Tryd.func80, Tryd.ntmps80
        go_wp2_with fail
        go_quiet (fail)
        go_wp2
        go_ret
        exact ⟨rfl, below_drewN (Below.refl _ _) _⟩
      | false =>
        have hod : od = false := by rw [HO.out, e1, e2, e3]; rfl
        subst hod
        rw [e1] at q1
        rw [e2] at q2
        rw [e3] at q3
        have p1 : bits .and .i64 ((x:Int) / 2 ^ j) 1 = 1 := q1
        have p2 : bits .and .i64 ((x:Int) / 2 ^ k) 1 = 1 := q2
        have p3 : bits .and .i64 ((y:Int) / 2 ^ k) 1 = 0 := q3
        clear q1 q2 q3 e1 e2 e3 HO
        go_enter Tryd.func80, Tryd.ntmps80
        go_wp2_with fail
        go_quiet (fail)
        go_wp2
        go_ret
        exact ⟨rfl, below_drewN (Below.refl _ _) _⟩
    | false =>
      cases e3 : y.testBit k with
      | true =>
        have hod : od = false := by rw [HO.out, e1, e2, e3]; rfl
        subst hod
        rw [e1] at q1
        rw [e2] at q2
        rw [e3] at q3
        have p1 : bits .and .i64 ((x:Int) / 2 ^ j) 1 = 1 := q1
        have p2 : bits .and .i64 ((x:Int) / 2 ^ k) 1 = 0 := q2
        have p3 : bits .and .i64 ((y:Int) / 2 ^ k) 1 = 1 := q3
        clear q1 q2 q3 e1 e2 e3 HO
        go_enter Tryd.func80, Tryd.ntmps80
        go_wp2_with fail
        go_quiet (fail)
        go_wp2
        go_ret
        exact ⟨rfl, below_drewN (Below.refl _ _) _⟩
      | false =>
        have hod : od = true := by rw [HO.out, e1, e2, e3]; rfl
        subst hod
        rw [e1] at q1
        rw [e2] at q2
        rw [e3] at q3
        have p1 : bits .and .i64 ((x:Int) / 2 ^ j) 1 = 1 := q1
        have p2 : bits .and .i64 ((x:Int) / 2 ^ k) 1 = 0 := q2
        have p3 : bits .and .i64 ((y:Int) / 2 ^ k) 1 = 0 := q3
        clear q1 q2 q3 e1 e2 e3 HO
        go_enter Tryd.func80, Tryd.ntmps80
        go_wp2_with fail
        go_quiet (fail)
        go_wp2
        go_ret
        exact ⟨rfl, below_drewN (Below.refl _ _) _⟩
  | false =>
    cases e2 : x.testBit k with
    | true =>
      cases e3 : y.testBit k with
      | true =>
        have hod : od = false := by rw [HO.out, e1, e2, e3]; rfl
        subst hod
        rw [e1] at q1
        rw [e2] at q2
        rw [e3] at q3
        have p1 : bits .and .i64 ((x:Int) / 2 ^ j) 1 = 0 := q1
        have p2 : bits .and .i64 ((x:Int) / 2 ^ k) 1 = 1 := q2
        have p3 : bits .and .i64 ((y:Int) / 2 ^ k) 1 = 1 := q3
        clear q1 q2 q3 e1 e2 e3 HO
        go_enter Tryd.func80, Tryd.ntmps80
        go_wp2_with fail
        go_quiet (fail)
        go_wp2
        go_ret
        exact ⟨rfl, below_drewN (Below.refl _ _) _⟩
      | false =>
        have hod : od = true := by rw [HO.out, e1, e2, e3]; rfl
        subst hod
        rw [e1] at q1
        rw [e2] at q2
        rw [e3] at q3
        have p1 : bits .and .i64 ((x:Int) / 2 ^ j) 1 = 0 := q1
        have p2 : bits .and .i64 ((x:Int) / 2 ^ k) 1 = 1 := q2
        have p3 : bits .and .i64 ((y:Int) / 2 ^ k) 1 = 0 := q3
        clear q1 q2 q3 e1 e2 e3 HO
        go_enter Tryd.func80, Tryd.ntmps80
        go_wp2_with fail
        go_quiet (fail)
        go_wp2
        go_ret
        exact ⟨rfl, below_drewN (Below.refl _ _) _⟩
    | false =>
      cases e3 : y.testBit k with
      | true =>
        have hod : od = true := by rw [HO.out, e1, e2, e3]; rfl
        subst hod
        rw [e1] at q1
        rw [e2] at q2
        rw [e3] at q3
        have p1 : bits .and .i64 ((x:Int) / 2 ^ j) 1 = 0 := q1
        have p2 : bits .and .i64 ((x:Int) / 2 ^ k) 1 = 0 := q2
        have p3 : bits .and .i64 ((y:Int) / 2 ^ k) 1 = 1 := q3
        clear q1 q2 q3 e1 e2 e3 HO
        go_enter Tryd.func80, Tryd.ntmps80
        go_wp2_with fail
        go_quiet (fail)
        go_wp2
        go_ret
        exact ⟨rfl, below_drewN (Below.refl _ _) _⟩
      | false =>
        have hod : od = false := by rw [HO.out, e1, e2, e3]; rfl
        subst hod
        rw [e1] at q1
        rw [e2] at q2
        rw [e3] at q3
        have p1 : bits .and .i64 ((x:Int) / 2 ^ j) 1 = 0 := q1
        have p2 : bits .and .i64 ((x:Int) / 2 ^ k) 1 = 0 := q2
        have p3 : bits .and .i64 ((y:Int) / 2 ^ k) 1 = 0 := q3
        clear q1 q2 q3 e1 e2 e3 HO
        go_enter Tryd.func80, Tryd.ntmps80
        go_wp2_with fail
        go_quiet (fail)
        go_wp2
        go_ret
        exact ⟨rfl, below_drewN (Below.refl _ _) _⟩

set_option maxRecDepth 100000 in
set_option maxHeartbeats 2000000 in
theorem isOdd54_any (v : Value) (bs : List Nat) (n i j k : Nat) (w : World) (hb : Gr n bs) (h : Nats w v bs) (hi : i < n) (hj : j < n) (hk : k < n) :
    Calls Tryd.prog 54 #[v, .int .i64 i, .int .i64 j, .int .i64 k] w fun e w' => e = .returned (.bool (odd3 bs i j k)) ∧ Below w.heap.size w w' := by
  obtain ⟨ao, cap, rfl, _, hx⟩ := hb.open h
  obtain ⟨b, o, rfl, ci⟩ := hx i hi
  obtain ⟨b', o', e, cj⟩ := hx j hj
  cases e
  have hn := hb.le
  have q1 := bit_and1 (bs.getD i 0) j (hb.get16 i)
  have q2 := bit_and1 (bs.getD i 0) k (hb.get16 i)
  have q3 := bit_and1 (bs.getD j 0) k (hb.get16 j)
  have HO : Hid (odd3 bs i j k = (((bs.getD i 0).testBit j != (bs.getD i 0).testBit k) != (bs.getD j 0).testBit k)) := rfl
  have i0 : (0:Int) ≤ (i:Int) := by omega
  have j0 : (0:Int) ≤ (j:Int) := by omega
  have i1 : (i:Int) < (n:Int) := by omega
  have j1 : (j:Int) < (n:Int) := by omega
  have j16 : j ≤ 16 := by omega
  have k16 : k ≤ 16 := by omega
  clear hx h hb
  generalize hx : bs.getD i 0 = x at *
  generalize hy : bs.getD j 0 = y at *
  generalize odd3 bs i j k = od at *
  clear hx hy
  cases e1 : x.testBit j with
  | true =>
    cases e2 : x.testBit k with
    | true =>
      cases e3 : y.testBit k with
      | true =>
        have hod : od = true := by rw [HO.out, e1, e2, e3]; rfl
        subst hod
        rw [e1] at q1
        rw [e2] at q2
        rw [e3] at q3
        have p1 : bits .and .i64 ((x:Int) / 2 ^ j) 1 = 1 := q1
        have p2 : bits .and .i64 ((x:Int) / 2 ^ k) 1 = 1 := q2
        have p3 : bits .and .i64 ((y:Int) / 2 ^ k) 1 = 1 := q3
        clear q1 q2 q3 e1 e2 e3 HO
        go_enter Tryd.func54, Tryd.ntmps54
        go_wp2_with fail
        go_quiet (fail)
        go_wp2
        go_ret
        exact ⟨rfl, below_drewN (Below.refl _ _) _⟩
      | false =>
        have hod : od = false := by rw [HO.out, e1, e2, e3]; rfl
        subst hod
        rw [e1] at q1
        rw [e2] at q2
        rw [e3] at q3
        have p1 : bits .and .i64 ((x:Int) / 2 ^ j) 1 = 1 := q1
        have p2 : bits .and .i64 ((x:Int) / 2 ^ k) 1 = 1 := q2
        have p3 : bits .and .i64 ((y:Int) / 2 ^ k) 1 = 0 := q3
        clear q1 q2 q3 e1 e2 e3 HO
        go_enter Tryd.func54, Tryd.ntmps54
        go_wp2_with fail
        go_quiet (fail)
        go_wp2
        go_ret
        exact ⟨rfl, below_drewN (Below.refl _ _) _⟩
    | false =>
      cases e3 : y.testBit k with
      | true =>
        have hod : od = false := by rw [HO.out, e1, e2, e3]; rfl
        subst hod
        rw [e1] at q1
        rw [e2] at q2
        rw [e3] at q3
        have p1 : bits .and .i64 ((x:Int) / 2 ^ j) 1 = 1 := q1
        have p2 : bits .and .i64 ((x:Int) / 2 ^ k) 1 = 0 := q2
        have p3 : bits .and .i64 ((y:Int) / 2 ^ k) 1 = 1 := q3
        clear q1 q2 q3 e1 e2 e3 HO
        go_enter Tryd.func54, Tryd.ntmps54
        go_wp2_with fail
        go_quiet (fail)
        go_wp2
        go_ret
        exact ⟨rfl, below_drewN (Below.refl _ _) _⟩
      | false =>
        have hod : od = true := by rw [HO.out, e1, e2, e3]; rfl
        subst hod
        rw [e1] at q1
        rw [e2] at q2
        rw [e3] at q3
        have p1 : bits .and .i64 ((x:Int) / 2 ^ j) 1 = 1 := q1
        have p2 : bits .and .i64 ((x:Int) / 2 ^ k) 1 = 0 := q2
        have p3 : bits .and .i64 ((y:Int) / 2 ^ k) 1 = 0 := q3
        clear q1 q2 q3 e1 e2 e3 HO
        go_enter Tryd.func54, Tryd.ntmps54
        go_wp2_with fail
        go_quiet (fail)
        go_wp2
        go_ret
        exact ⟨rfl, below_drewN (Below.refl _ _) _⟩
  | false =>
    cases e2 : x.testBit k with
    | true =>
      cases e3 : y.testBit k with
      | true =>
        have hod : od = false := by rw [HO.out, e1, e2, e3]; rfl
        subst hod
        rw [e1] at q1
        rw [e2] at q2
        rw [e3] at q3
        have p1 : bits .and .i64 ((x:Int) / 2 ^ j) 1 = 0 := q1
        have p2 : bits .and .i64 ((x:Int) / 2 ^ k) 1 = 1 := q2
        have p3 : bits .and .i64 ((y:Int) / 2 ^ k) 1 = 1 := q3
        clear q1 q2 q3 e1 e2 e3 HO
        go_enter Tryd.func54, Tryd.ntmps54
        go_wp2_with fail
        go_quiet (fail)
        go_wp2
        go_ret
        exact ⟨rfl, below_drewN (Below.refl _ _) _⟩
      | false =>
        have hod : od = true := by rw [HO.out, e1, e2, e3]; rfl
        subst hod
        rw [e1] at q1
        rw [e2] at q2
        rw [e3] at q3
        have p1 : bits .and .i64 ((x:Int) / 2 ^ j) 1 = 0 := q1
        have p2 : bits .and .i64 ((x:Int) / 2 ^ k) 1 = 1 := q2
        have p3 : bits .and .i64 ((y:Int) / 2 ^ k) 1 = 0 := q3
        clear q1 q2 q3 e1 e2 e3 HO
        go_enter Tryd.func54, Tryd.ntmps54
        go_wp2_with fail
        go_quiet (fail)
        go_wp2
        go_ret
        exact ⟨rfl, below_drewN (Below.refl _ _) _⟩
    | false =>
      cases e3 : y.testBit k with
      | true =>
        have hod : od = true := by rw [HO.out, e1, e2, e3]; rfl
        subst hod
        rw [e1] at q1
        rw [e2] at q2
        rw [e3] at q3
        have p1 : bits .and .i64 ((x:Int) / 2 ^ j) 1 = 0 := q1
        have p2 : bits .and .i64 ((x:Int) / 2 ^ k) 1 = 0 := q2
        have p3 : bits .and .i64 ((y:Int) / 2 ^ k) 1 = 1 := q3
        clear q1 q2 q3 e1 e2 e3 HO
        go_enter Tryd.func54, Tryd.ntmps54
        go_wp2_with fail
        go_quiet (fail)
        go_wp2
        go_ret
        exact ⟨rfl, below_drewN (Below.refl _ _) _⟩
      | false =>
        have hod : od = false := by rw [HO.out, e1, e2, e3]; rfl
        subst hod
        rw [e1] at q1
        rw [e2] at q2
        rw [e3] at q3
        have p1 : bits .and .i64 ((x:Int) / 2 ^ j) 1 = 0 := q1
        have p2 : bits .and .i64 ((x:Int) / 2 ^ k) 1 = 0 := q2
        have p3 : bits .and .i64 ((y:Int) / 2 ^ k) 1 = 0 := q3
        clear q1 q2 q3 e1 e2 e3 HO
        go_enter Tryd.func54, Tryd.ntmps54
        go_wp2_with fail
        go_quiet (fail)
        go_wp2
        go_ret
        exact ⟨rfl, below_drewN (Below.refl _ _) _⟩

set_option maxRecDepth 100000 in
set_option maxHeartbeats 4000000 in
theorem rOdd_any (v : Value) (bs : List Nat) (n : Nat) (w : World) (hb : Gr n bs) (h : Nats w v bs) :
    Calls Tryd.prog 40 #[v] w fun e w' => e = .returned (.int .i64 (oddI bs n : Nat)) ∧ Below w.heap.size w w' := by
  have HODD := Lib.hid (fun i j k w' (hb' : Below w.heap.size w w') (hi : i < n) (hj : j < n) (hk : k < n) => isOdd80_any v bs n i j k w' hb (h.below hb' (Nat.le_refl _)) hi hj hk)
  have hn := hb.le
  obtain ⟨ao, cap, rfl, _, _⟩ := hb.open h
  clear h hb
  have HB1 := Lib.hid (Below.refl w.heap.size w)
  go_enter Tryd.func40, Tryd.ntmps40
  go_wp2_with fail
  go_loopw [3, 9] (fun cc ii wr => ∃ i : Nat, i ≤ n ∧ ii = .int .i64 i ∧ cc = .int .i64 (oddI bs i : Nat) ∧ Below w.heap.size w wr) (fun _ ii _ => n - (intOf ii).toNat)
  case atStart => exact ⟨0, Nat.zero_le _, rfl, rfl, HB1.out⟩
  case round =>
    clear HB1
    obtain ⟨i, hi, rfl, rfl, hbi⟩ := hrel
    have HBI := Lib.hid hbi
    clear hbi
    have HbI := Lib.hid (oddI_le bs i (by omega))
    by_cases hit : i < n
    · have HI1 : Hid (oddI bs (i + 1) = oddI bs i + oddJ bs i i) := rfl
      go_wp2_with fail
      go_loopw [3, 13] (fun cc jj wj => ∃ j : Nat, j ≤ i ∧ jj = .int .i64 j ∧ cc = .int .i64 (oddI bs i + oddJ bs i j : Nat) ∧ Below w.heap.size w wj) (fun _ jj _ => i - (intOf jj).toNat)
      case atStart => exact ⟨0, Nat.zero_le _, rfl, rfl, HBI.out⟩
      case round =>
        clear HBI
        obtain ⟨j, hj, rfl, rfl, hbj⟩ := hrel
        have HBJ := Lib.hid hbj
        clear hbj
        have HbJ := Lib.hid (oddJ_le bs i j (by omega))
        by_cases hjt : j < i
        · have HJ1 : Hid (oddI bs i + oddJ bs i (j + 1) = oddI bs i + oddJ bs i j + oddK bs i j j) := Lib.hid (by rw [oddJ]; omega)
          go_wp2_with fail
          go_loopw [3, 17] (fun cc kk wk => ∃ k : Nat, k ≤ j ∧ kk = .int .i64 k ∧ cc = .int .i64 (oddI bs i + oddJ bs i j + oddK bs i j k : Nat) ∧ Below w.heap.size w wk) (fun _ kk _ => j - (intOf kk).toNat)
          case atStart => exact ⟨0, Nat.zero_le _, rfl, rfl, HBJ.out⟩
          case round =>
            clear HBJ
            obtain ⟨k, hk, rfl, rfl, hbk⟩ := hrel
            have HbK := Lib.hid (oddK_le bs i j k)
            by_cases hkt : k < j
            · have HK1 : Hid (oddI bs i + oddJ bs i j + oddK bs i j (k + 1) = oddI bs i + oddJ bs i j + oddK bs i j k + (odd3 bs i j k).toNat) := Lib.hid (by rw [oddK]; omega)
              have hcb : oddI bs i + oddJ bs i j + oddK bs i j k ≤ 20000 := by have := HbI.out; have := HbJ.out; have := HbK.out; omega
              have HC := Lib.hid (HODD.out i j k _ hbk hit (by omega) (by omega))
              have HBK := Lib.hid hbk
              clear hbk HbK
              cases ht : odd3 bs i j k with
              | true =>
                rw [ht] at HC HK1
                have HV : Hid (((oddI bs i + oddJ bs i j + oddK bs i j (k + 1) : Nat) : Int) = ((oddI bs i + oddJ bs i j + oddK bs i j k : Nat) : Int) + 1) := Lib.hid (by rw [HK1.out]; rfl)
                clear HK1 ht
                generalize oddI bs i + oddJ bs i j + oddK bs i j k = c at *
                go_wp2_with fail
                refine HC.out.mono ?_
                rintro e w2 ⟨rfl, hb2⟩
                have HB2 := Lib.hid (HBK.out.trans (hb2.mono HBK.out.size))
                clear hb2
                go_wp2_with fail
                go_roundw
                case rel => exact ⟨k + 1, by omega, by go_num, by rw [HV.out], HB2.out⟩
                case measure => simp [intOf]; omega
              | false =>
                rw [ht] at HC HK1
                have HV : Hid (((oddI bs i + oddJ bs i j + oddK bs i j (k + 1) : Nat) : Int) = ((oddI bs i + oddJ bs i j + oddK bs i j k : Nat) : Int)) := Lib.hid (by rw [HK1.out]; rfl)
                clear HK1 ht
                generalize oddI bs i + oddJ bs i j + oddK bs i j k = c at *
                go_wp2_with fail
                refine HC.out.mono ?_
                rintro e w2 ⟨rfl, hb2⟩
                have HB2 := Lib.hid (HBK.out.trans (hb2.mono HBK.out.size))
                clear hb2
                go_wp2_with fail
                go_roundw
                case rel => exact ⟨k + 1, by omega, by go_num, by rw [HV.out], HB2.out⟩
                case measure => simp [intOf]; omega
            · obtain rfl : k = j := by omega
              have HBK := Lib.hid hbk
              have HV := Lib.hid HJ1.out.symm
              clear hbk HbK
              generalize oddI bs i + oddJ bs i k + oddK bs i k k = c at *
              go_wp2_with fail
              go_roundw
              case rel => exact ⟨k + 1, by omega, by go_num, by rw [← HV.out], HBK.out⟩
              case measure => simp [intOf]; omega
        · obtain rfl : j = i := by omega
          have HV := Lib.hid HI1.out.symm
          clear HbJ
          generalize oddI bs j + oddJ bs j j = c at *
          go_wp2_with fail
          go_roundw
          case rel => exact ⟨j + 1, by omega, by go_num, by rw [← HV.out], HBJ.out⟩
          case measure => simp [intOf]; omega
    · obtain rfl : i = n := by omega

      go_wp2_with fail
      go_ret
      exact ⟨rfl, HBI.out⟩

set_option maxRecDepth 100000 in
set_option maxHeartbeats 4000000 in
theorem Odd_any (v : Value) (bs : List Nat) (n : Nat) (w : World) (hb : Gr n bs) (h : Nats w v bs) (hT : Tab w) :
    Calls Tryd.prog 39 #[v] w fun e w' => e = .returned (.tuple #[.int .i64 (oddI bs n : Nat), .int .i64 0]) ∧ Below w.heap.size w w' := by
  have HI := Lib.hid (isGraph_any v _ w h hT)
  rw [graphB_mk hb] at HI
  have hn := hb.le
  obtain ⟨ao, cap, rfl, hcap, hx⟩ := hb.open h
  obtain ⟨b, o, rfl, _⟩ := hx 0 hb.pos
  have HX := Lib.hid hx
  clear h hb hx hT
  go_enter Tryd.func39, Tryd.ntmps39
  go_wp2_with fail
  refine HI.out.mono ?_
  rintro e w1 ⟨rfl, hb1⟩
  have HB1 := Lib.hid hb1
  clear hb1 HI
  go_wp2_with fail
  go_loopw [4, 13] (fun cc ii wr => ∃ i : Nat, i ≤ n ∧ ii = .int .i64 i ∧ cc = .int .i64 (oddI bs i : Nat) ∧ Below w.heap.size w wr) (fun _ ii _ => n - (intOf ii).toNat)
  case atStart => exact ⟨0, Nat.zero_le _, rfl, rfl, HB1.out⟩
  case round =>
    clear HB1
    obtain ⟨i, hi, rfl, rfl, hbi⟩ := hrel
    have HBI := Lib.hid hbi
    clear hbi
    have HbI := Lib.hid (oddI_le bs i (by omega))
    by_cases hit : i < n
    · have HI1 : Hid (oddI bs (i + 1) = oddI bs i + oddJ bs i i) := rfl
      go_wp2_with fail
      go_loopw [4, 17] (fun cc jj wj => ∃ j : Nat, j ≤ i ∧ jj = .int .i64 j ∧ cc = .int .i64 (oddI bs i + oddJ bs i j : Nat) ∧ Below w.heap.size w wj) (fun _ jj _ => i - (intOf jj).toNat)
      case atStart => exact ⟨0, Nat.zero_le _, rfl, rfl, HBI.out⟩
      case round =>
        clear HBI
        obtain ⟨j, hj, rfl, rfl, hbj⟩ := hrel
        have HBJ := Lib.hid hbj
        clear hbj
        have HbJ := Lib.hid (oddJ_le bs i j (by omega))
        by_cases hjt : j < i
        · have HJ1 : Hid (oddI bs i + oddJ bs i (j + 1) = oddI bs i + oddJ bs i j + oddK bs i j j) := Lib.hid (by rw [oddJ]; omega)
          go_wp2_with fail
          go_loopw [4, 21] (fun cc kk wk => ∃ k : Nat, k ≤ j ∧ kk = .int .i64 k ∧ cc = .int .i64 (oddI bs i + oddJ bs i j + oddK bs i j k : Nat) ∧ Below w.heap.size w wk) (fun _ kk _ => j - (intOf kk).toNat)
          case atStart => exact ⟨0, Nat.zero_le _, rfl, rfl, HBJ.out⟩
          case round =>
            clear HBJ
            obtain ⟨k, hk, rfl, rfl, hbk⟩ := hrel
            have HbK := Lib.hid (oddK_le bs i j k)
            by_cases hkt : k < j
            · have HK1 : Hid (oddI bs i + oddJ bs i j + oddK bs i j (k + 1) = oddI bs i + oddJ bs i j + oddK bs i j k + (odd3 bs i j k).toNat) := Lib.hid (by rw [oddK]; omega)
              have hcb : oddI bs i + oddJ bs i j + oddK bs i j k ≤ 20000 := by have := HbI.out; have := HbJ.out; have := HbK.out; omega
              obtain ⟨b1, o1, ee, ci⟩ := HX.out i (by omega)
              cases ee
              obtain ⟨b1, o1, ee, cj⟩ := HX.out j (by omega)
              cases ee
              have ci1 := ck ci hbk
              have cj1 := ck cj hbk
              have HOD : Hid (odd3 bs i j k = (((bs.getD i 0).testBit j != (bs.getD i 0).testBit k) != (bs.getD j 0).testBit k)) := rfl
              have i0 : (0:Int) ≤ (i:Int) := by omega
              have j0 : (0:Int) ≤ (j:Int) := by omega
              have i1 : (i:Int) < (n:Int) := by omega
              have j1 : (j:Int) < (n:Int) := by omega
              have j16 : j ≤ 16 := by omega
              have k16 : k ≤ 16 := by omega
              have HBK := Lib.hid (fun nq : Nat => below_drewN hbk nq)
              clear hbk HbK ci cj
              generalize bs.getD i 0 = x at *
              generalize bs.getD j 0 = y at *
              cases e1 : x.testBit j with
              | true =>
                cases e2 : x.testBit k with
                | true =>
                  cases e3 : y.testBit k with
                  | true =>
                    have hod : odd3 bs i j k = true := by rw [HOD.out, e1, e2, e3]; rfl
                    rw [hod] at HK1
                    have HV : Hid (((oddI bs i + oddJ bs i j + oddK bs i j (k + 1) : Nat) : Int) = ((oddI bs i + oddJ bs i j + oddK bs i j k : Nat) : Int) + 1) := Lib.hid (by rw [HK1.out]; rfl)
                    clear HK1 hod HOD
                    generalize oddI bs i + oddJ bs i j + oddK bs i j k = c at *
                    go_wp2_with fail
                    go_quiet ((go_at_call 74; exact quiet_eq (has_any _ _ _ (by assumption))))
                    simp only [e1, e2, e3] at *
                    go_wp2_with fail
                    go_roundw
                    case rel => exact ⟨k + 1, by omega, by go_num, by rw [HV.out], HBK.out _⟩
                    case measure => simp [intOf]; omega
                  | false =>
                    have hod : odd3 bs i j k = false := by rw [HOD.out, e1, e2, e3]; rfl
                    rw [hod] at HK1
                    have HV : Hid (((oddI bs i + oddJ bs i j + oddK bs i j (k + 1) : Nat) : Int) = ((oddI bs i + oddJ bs i j + oddK bs i j k : Nat) : Int)) := Lib.hid (by rw [HK1.out]; rfl)
                    clear HK1 hod HOD
                    generalize oddI bs i + oddJ bs i j + oddK bs i j k = c at *
                    go_wp2_with fail
                    go_quiet ((go_at_call 74; exact quiet_eq (has_any _ _ _ (by assumption))))
                    simp only [e1, e2, e3] at *
                    go_wp2_with fail
                    go_roundw
                    case rel => exact ⟨k + 1, by omega, by go_num, by rw [HV.out], HBK.out _⟩
                    case measure => simp [intOf]; omega
                | false =>
                  cases e3 : y.testBit k with
                  | true =>
                    have hod : odd3 bs i j k = false := by rw [HOD.out, e1, e2, e3]; rfl
                    rw [hod] at HK1
                    have HV : Hid (((oddI bs i + oddJ bs i j + oddK bs i j (k + 1) : Nat) : Int) = ((oddI bs i + oddJ bs i j + oddK bs i j k : Nat) : Int)) := Lib.hid (by rw [HK1.out]; rfl)
                    clear HK1 hod HOD
                    generalize oddI bs i + oddJ bs i j + oddK bs i j k = c at *
                    go_wp2_with fail
                    go_quiet ((go_at_call 74; exact quiet_eq (has_any _ _ _ (by assumption))))
                    simp only [e1, e2, e3] at *
                    go_wp2_with fail
                    go_roundw
                    case rel => exact ⟨k + 1, by omega, by go_num, by rw [HV.out], HBK.out _⟩
                    case measure => simp [intOf]; omega
                  | false =>
                    have hod : odd3 bs i j k = true := by rw [HOD.out, e1, e2, e3]; rfl
                    rw [hod] at HK1
                    have HV : Hid (((oddI bs i + oddJ bs i j + oddK bs i j (k + 1) : Nat) : Int) = ((oddI bs i + oddJ bs i j + oddK bs i j k : Nat) : Int) + 1) := Lib.hid (by rw [HK1.out]; rfl)
                    clear HK1 hod HOD
                    generalize oddI bs i + oddJ bs i j + oddK bs i j k = c at *
                    go_wp2_with fail
                    go_quiet ((go_at_call 74; exact quiet_eq (has_any _ _ _ (by assumption))))
                    simp only [e1, e2, e3] at *
                    go_wp2_with fail
                    go_roundw
                    case rel => exact ⟨k + 1, by omega, by go_num, by rw [HV.out], HBK.out _⟩
                    case measure => simp [intOf]; omega
              | false =>
                cases e2 : x.testBit k with
                | true =>
                  cases e3 : y.testBit k with
                  | true =>
                    have hod : odd3 bs i j k = false := by rw [HOD.out, e1, e2, e3]; rfl
                    rw [hod] at HK1
                    have HV : Hid (((oddI bs i + oddJ bs i j + oddK bs i j (k + 1) : Nat) : Int) = ((oddI bs i + oddJ bs i j + oddK bs i j k : Nat) : Int)) := Lib.hid (by rw [HK1.out]; rfl)
                    clear HK1 hod HOD
                    generalize oddI bs i + oddJ bs i j + oddK bs i j k = c at *
                    go_wp2_with fail
                    go_quiet ((go_at_call 74; exact quiet_eq (has_any _ _ _ (by assumption))))
                    simp only [e1, e2, e3] at *
                    go_wp2_with fail
                    go_roundw
                    case rel => exact ⟨k + 1, by omega, by go_num, by rw [HV.out], HBK.out _⟩
                    case measure => simp [intOf]; omega
                  | false =>
                    have hod : odd3 bs i j k = true := by rw [HOD.out, e1, e2, e3]; rfl
                    rw [hod] at HK1
                    have HV : Hid (((oddI bs i + oddJ bs i j + oddK bs i j (k + 1) : Nat) : Int) = ((oddI bs i + oddJ bs i j + oddK bs i j k : Nat) : Int) + 1) := Lib.hid (by rw [HK1.out]; rfl)
                    clear HK1 hod HOD
                    generalize oddI bs i + oddJ bs i j + oddK bs i j k = c at *
                    go_wp2_with fail
                    go_quiet ((go_at_call 74; exact quiet_eq (has_any _ _ _ (by assumption))))
                    simp only [e1, e2, e3] at *
                    go_wp2_with fail
                    go_roundw
                    case rel => exact ⟨k + 1, by omega, by go_num, by rw [HV.out], HBK.out _⟩
                    case measure => simp [intOf]; omega
                | false =>
                  cases e3 : y.testBit k with
                  | true =>
                    have hod : odd3 bs i j k = true := by rw [HOD.out, e1, e2, e3]; rfl
                    rw [hod] at HK1
                    have HV : Hid (((oddI bs i + oddJ bs i j + oddK bs i j (k + 1) : Nat) : Int) = ((oddI bs i + oddJ bs i j + oddK bs i j k : Nat) : Int) + 1) := Lib.hid (by rw [HK1.out]; rfl)
                    clear HK1 hod HOD
                    generalize oddI bs i + oddJ bs i j + oddK bs i j k = c at *
                    go_wp2_with fail
                    go_quiet ((go_at_call 74; exact quiet_eq (has_any _ _ _ (by assumption))))
                    simp only [e1, e2, e3] at *
                    go_wp2_with fail
                    go_roundw
                    case rel => exact ⟨k + 1, by omega, by go_num, by rw [HV.out], HBK.out _⟩
                    case measure => simp [intOf]; omega
                  | false =>
                    have hod : odd3 bs i j k = false := by rw [HOD.out, e1, e2, e3]; rfl
                    rw [hod] at HK1
                    have HV : Hid (((oddI bs i + oddJ bs i j + oddK bs i j (k + 1) : Nat) : Int) = ((oddI bs i + oddJ bs i j + oddK bs i j k : Nat) : Int)) := Lib.hid (by rw [HK1.out]; rfl)
                    clear HK1 hod HOD
                    generalize oddI bs i + oddJ bs i j + oddK bs i j k = c at *
                    go_wp2_with fail
                    go_quiet ((go_at_call 74; exact quiet_eq (has_any _ _ _ (by assumption))))
                    simp only [e1, e2, e3] at *
                    go_wp2_with fail
                    go_roundw
                    case rel => exact ⟨k + 1, by omega, by go_num, by rw [HV.out], HBK.out _⟩
                    case measure => simp [intOf]; omega
            · obtain rfl : k = j := by omega
              have HBK := Lib.hid hbk
              have HV := Lib.hid HJ1.out.symm
              clear hbk HbK
              generalize oddI bs i + oddJ bs i k + oddK bs i k k = c at *
              go_wp2_with fail
              go_roundw
              case rel => exact ⟨k + 1, by omega, by go_num, by rw [← HV.out], HBK.out⟩
              case measure => simp [intOf]; omega
        · obtain rfl : j = i := by omega
          have HV := Lib.hid HI1.out.symm
          clear HbJ
          generalize oddI bs j + oddJ bs j j = c at *
          go_wp2_with fail
          go_roundw
          case rel => exact ⟨j + 1, by omega, by go_num, by rw [← HV.out], HBJ.out⟩
          case measure => simp [intOf]; omega
    · obtain rfl : i = n := by omega

      go_wp2_with fail
      go_ret2
      exact ⟨rfl, HBI.out⟩

theorem Odd_bad (v : Value) (xs : List Int) (w : World) (h : Ints w v xs) (hg : graphB xs = false) (hT : Tab w) :
    Calls Tryd.prog 39 #[v] w fun e w' => e = .returned (.tuple #[.int .i64 0, .int .i64 2]) ∧ Below w.heap.size w w' := by
  have HI := Lib.hid (isGraph_any v _ w h hT)
  rw [hg] at HI
  obtain ⟨ao, cap, rfl, _, _⟩ := h.open
  clear h hg hT
  go_enter Tryd.func39, Tryd.ntmps39
  go_wp2_with fail
  refine HI.out.mono ?_
  rintro e w1 ⟨rfl, hb1⟩
  have HB := Lib.hid hb1
  clear hb1
  go_wp2_with fail
  go_ret2
  exact ⟨rfl, HB.out⟩
end Go.Proofs.YtdnhfnegnjdeoaaDoor
