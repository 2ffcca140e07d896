/- the reference's Read -/
import Derived.Test.YtdnhfnegnjdeoaaDoorRo
namespace Go.Proofs.YtdnhfnegnjdeoaaDoor
open Go.RowKit

theorem Q4.s2 {w : World} {A : Nat} {t : TypeId} {a b c d : Int} (h : Q4 w A t a b c d) (c' : Int) : Q4 (w.setCell ⟨A, 2, none⟩ (.int .i64 c')) A t a b c' d := heap_set_at (k := 2) (show w.heap[A]? = _ from h) (.int .i64 c')
theorem Q4.s3 {w : World} {A : Nat} {t : TypeId} {a b c d : Int} (h : Q4 w A t a b c d) (d' : Int) : Q4 (w.setCell ⟨A, 3, none⟩ (.int .i64 d')) A t a b c d' := heap_set_at (k := 3) (show w.heap[A]? = _ from h) (.int .i64 d')
theorem Q4.other {w : World} {A : Nat} {t : TypeId} {a b c d : Int} (h : Q4 w A t a b c d) {B : Nat} (hB : A ≠ B) (k : Nat) (s : Option Nat) (v : Value) : Q4 (w.setCell ⟨B, k, s⟩ v) A t a b c d :=
  (Below.heap_setCell _ _ _ _ hB).trans h

set_option maxRecDepth 100000 in
set_option maxHeartbeats 4000000 in
theorem rRead_any (v : Value) (bs : List Nat) (n : Nat) (w : World) (hg : Gr n bs) (h : Nats w v bs) :
    Calls Tryd.prog 23 #[v] w fun e w' => e = .returned (readV n (readP n bs)) ∧ Below w.heap.size w w' := by
  have HG := Lib.hid (fun k => hg.get16 k)
  have HGr := Lib.hid hg
  have hpos := hg.pos
  have hn := hg.le
  have hp0 : 0 < n := hpos
  obtain ⟨ao, cap, rfl, hcap, hx⟩ := hg.open h
  have HX := Lib.hid hx
  obtain ⟨b, o, rfl, hck⟩ := hx 0 hg.pos
  rw [Nat.add_zero] at hck
  have hi0 : (0:Int) < (n:Int) := by omega
  have hwn : IntKind.i64.wrap ((n:Int) - 2) = (n:Int) - 2 := IntWalk.i64_in _ (by omega)
  have hb0 := (Below.refl w.heap.size w).alloc (Nat.le_refl _) (.cells #[.int .i64 0, .int .i64 0, .int .i64 0, .int .i64 0] 32)
  have hck0 := ck hck hb0
  have HQ0 := Lib.hid (Q4.new w 32 0 0 0 0)
  have HS0 := Lib.hid (fun w => rsize66_any (bs.getD 0 0) w (HG.out 0))
  obtain ⟨K0, hK0⟩ : ∃ K0, K0 = pop 16 (bs.getD 0 0) := ⟨_, rfl⟩
  have HK0 : Hid (K0 = pop 16 (bs.getD 0 0)) := hK0
  have hKp := pop_le 16 (bs.getD 0 0)
  rw [← hK0] at HS0 hKp
  have hs0 : (w.alloc (.cells #[.int .i64 0, .int .i64 0, .int .i64 0, .int .i64 0] 32)).heap.size = w.heap.size + 1 := World.size_alloc _ _
  have hb1 := hb0.alloc (by omega) (.cells #[.int .i64 (n:Int), .int .i64 (K0:Int), .int .i64 (-1), .int .i64 (-1)] 32)
  have hQ1 := Q4.new (w.alloc (.cells #[.int .i64 0, .int .i64 0, .int .i64 0, .int .i64 0] 32)) 32 n K0 (-1) (-1)
  have hQ0 := HQ0.out.below ((Below.refl _ _).alloc (Nat.le_refl _) (.cells #[.int .i64 (n:Int), .int .i64 (K0:Int), .int .i64 (-1), .int .i64 (-1)] 32))
  rw [hs0] at hQ1
  have HB1 := Lib.hid hb1
  have HQ1 := Lib.hid hQ1
  have HR1 := Lib.hid hQ0
  clear h hg hx hck hb0 hb1 hQ1 hQ0 HQ0 hK0
  generalize hr0 : bs.getD 0 0 = r0 at hck0 HS0
  clear hr0
  go_enter Tryd.func23, Tryd.ntmps23
  go_wp2_with fail
  refine (HS0.out _).mono ?_
  rintro e w' ⟨rfl, rfl⟩
  go_wp2_with fail
  generalize ((w.alloc (.cells #[.int .i64 0, .int .i64 0, .int .i64 0, .int .i64 0] 32)).alloc (.cells #[.int .i64 (n:Int), .int .i64 (K0:Int), .int .i64 (-1), .int .i64 (-1)] 32)) = W0 at *
  clear hck0 HS0 hs0
  go_loopw [19] (fun ii wr => ∃ (k : Nat) (l m : Int), k ≤ n ∧ ii = .int .i64 k ∧ Hid ((∀ i, i < k → pop 16 (bs.getD i 0) = K0) ∧ (0 < k → ¬ K0 < 1 ∧ ¬ n < K0 + 2)) ∧ Hid (Seen bs true k 0 l) ∧ Hid (Seen bs false k 0 m) ∧
    Q4 wr w.heap.size 32 0 0 0 0 ∧ Q4 wr (w.heap.size + 1) 32 n K0 l m ∧ Below w.heap.size w wr) (fun ii _ => n - (intOf ii).toNat)
  case atStart => exact ⟨0, -1, -1, Nat.zero_le _, rfl, Lib.hid ⟨fun i hi => absurd hi (by omega), fun h => absurd h (by omega)⟩, Lib.hid (Seen.start bs true), Lib.hid (Seen.start bs false), HR1.out, HQ1.out, HB1.out⟩
  case round =>
    clear HR1 HQ1 HB1
    obtain ⟨k, l, m, hk, rfl, HSZ, HL, HM, hR, hQ, hb⟩ := hrel
    have HB := Lib.hid hb
    have HR := Lib.hid hR
    have HQ := Lib.hid hQ
    have x1 := hQ.c1
    by_cases hlt : k < n
    · obtain ⟨b1, o1, e1, hck⟩ := HX.out k hlt
      cases e1
      have hck1 := ck hck hb
      have HS := Lib.hid (fun w => rsize66_any (bs.getD k 0) w (HG.out k))
      have HBADS := Lib.hid (fun h => readP_size (bs := bs) (i := k) hlt h)
      rw [← HK0.out] at HBADS
      have hpp := pop_le 16 (bs.getD k 0)
      have hik0 : (0:Int) ≤ (k:Int) := by omega
      have hik1 : (k:Int) < (n:Int) := by omega
      have HQd := Lib.hid (fun nq : Nat => (HQ.out.below (below_drewN (Below.refl _ _) nq)))
      have HRd := Lib.hid (fun nq : Nat => (HR.out.below (below_drewN (Below.refl _ _) nq)))
      have HBd := Lib.hid (fun nq : Nat => below_drewN HB.out nq)
      have HFEW := Lib.hid (fun h : K0 < 1 => readP_few HGr.out (by rw [← HK0.out]; exact h))
      have HMANY := Lib.hid (fun h : n < K0 + 2 => readP_many HGr.out (by rw [← HK0.out]; exact h))
      have HSTEP : Hid (pop 16 (bs.getD k 0) = K0 → ∀ i, i < k + 1 → pop 16 (bs.getD i 0) = K0) := Lib.hid fun a i hi => by
        by_cases e : i = k
        · subst e; exact a
        · exact HSZ.out.1 i (by omega)
      have HBIT := Lib.hid (fun j (_ : j ≤ 16) => bit_and1 (bs.getD k 0) j (HG.out k))
      have HAND := Lib.hid (fun j => i64_and (bs.getD k 0) (bs.getD j 0) (by have := HG.out k; omega) (by have := HG.out j; omega))
      have HCS := Lib.hid (fun j w => rsize66_any (bs.getD k 0 &&& bs.getD j 0) w (Nat.lt_of_le_of_lt Nat.and_le_left (HG.out k)))
      clear hb hR hQ hck
      generalize hpe : pop 16 (bs.getD k 0) = p at *
      clear hpe
      obtain ⟨r, hr⟩ : ∃ r, r = bs.getD k 0 := ⟨_, rfl⟩
      rw [← hr] at hck1 HS HBIT HAND HCS
      have Hr : Hid (r = bs.getD k 0) := hr
      clear hr
      by_cases hpk : p = K0
      · have hne : ((p:Int) != (K0:Int)) = false := by simp [hpk]
        by_cases hk1 : K0 < 1
        · have HE := Lib.hid (HFEW.out hk1)
          have hk1' : (K0:Int) < 1 := by omega
          clear HBADS HSTEP HMANY HFEW hpk HBIT HAND HCS
          go_wp2_with fail
          go_quiet ((go_at_call 66; exact quiet_eq (HS.out _)))
          have hQn := HRd.out nq
          have z0 := (hQn).c0
          have g0 := (hQn).fr 0
          have z1 := (hQn).c1
          have g1 := (hQn).fr 1
          have z2 := (hQn).c2
          have g2 := (hQn).fr 2
          have z3 := (hQn).c3
          have g3 := (hQn).fr 3
          go_wp2_with fail
          have hS := (hQn).store 0 0 0 0
          have hBS := set4_below (HBd.out nq) (Nat.le_refl w.heap.size) 0 0 0 0
          simp only [set4] at hS hBS
          generalize (((((wr.drewN nq).setCell ⟨w.heap.size, 0, none⟩ (.int .i64 0)).setCell ⟨w.heap.size, 1, none⟩ (.int .i64 0)).setCell ⟨w.heap.size, 2, none⟩ (.int .i64 0)).setCell ⟨w.heap.size, 3, none⟩ (.int .i64 0)) = W at *
          refine bodyPost_ret (v := .tuple #[num4 0 0 0 0, .int .i64 4]) ?_ rfl ⟨by rw [HE.out]; rfl, hBS⟩
          simp [results, Tryd.f23, go_sem, hS.c0, hS.c1, hS.c2, hS.c3, num4]
        by_cases hk2 : n < K0 + 2
        · have HE := Lib.hid (HMANY.out hk2)
          have hk1' : ¬ ((K0:Int) < 1) := by omega
          have hk2' : (n:Int) - 2 < (K0:Int) := by omega
          clear HBADS HSTEP HMANY HFEW hpk HBIT HAND HCS
          go_wp2_with fail
          go_quiet ((go_at_call 66; exact quiet_eq (HS.out _)))
          have hQn := HRd.out nq
          have z0 := (hQn).c0
          have g0 := (hQn).fr 0
          have z1 := (hQn).c1
          have g1 := (hQn).fr 1
          have z2 := (hQn).c2
          have g2 := (hQn).fr 2
          have z3 := (hQn).c3
          have g3 := (hQn).fr 3
          go_wp2_with fail
          have hS := (hQn).store 0 0 0 0
          have hBS := set4_below (HBd.out nq) (Nat.le_refl w.heap.size) 0 0 0 0
          simp only [set4] at hS hBS
          generalize (((((wr.drewN nq).setCell ⟨w.heap.size, 0, none⟩ (.int .i64 0)).setCell ⟨w.heap.size, 1, none⟩ (.int .i64 0)).setCell ⟨w.heap.size, 2, none⟩ (.int .i64 0)).setCell ⟨w.heap.size, 3, none⟩ (.int .i64 0)) = W at *
          refine bodyPost_ret (v := .tuple #[num4 0 0 0 0, .int .i64 4]) ?_ rfl ⟨by rw [HE.out]; rfl, hBS⟩
          simp [results, Tryd.f23, go_sem, hS.c0, hS.c1, hS.c2, hS.c3, num4]
        have hk1' : ¬ ((K0:Int) < 1) := by omega
        have hk2' : ¬ ((n:Int) - 2 < (K0:Int)) := by omega
        have HSN := Lib.hid (HSTEP.out hpk)
        clear HBADS HSTEP HMANY HFEW hpk
        go_wp2_with fail
        go_quiet ((go_at_call 66; exact quiet_eq (HS.out _)))
        have HQn := Lib.hid (HQd.out nq)
        have HRn := Lib.hid (HRd.out nq)
        have HBn := Lib.hid (HBd.out nq)
        clear HQd HRd HBd HQ HR HB x1 HS hck1
        generalize wr.drewN nq = W1 at *
        go_wp2_with fail
        go_loopw [44] (fun jj wj => ∃ (j : Nat) (l m : Int), j ≤ k ∧ jj = .int .i64 j ∧ Hid (Seen bs true k j l) ∧ Hid (Seen bs false k j m) ∧
          Q4 wj w.heap.size 32 0 0 0 0 ∧ Q4 wj (w.heap.size + 1) 32 n K0 l m ∧ Below w.heap.size w wj) (fun jj _ => k - (intOf jj).toNat)
        case atStart => exact ⟨0, l, m, Nat.zero_le _, rfl, HL, HM, HRn.out, HQn.out, HBn.out⟩
        case round =>
          clear HL HM HRn HQn HBn
          obtain ⟨j, l, m, hj, rfl, HL, HM, hR, hQ, hb⟩ := hrel
          by_cases hjt : j < k
          · obtain ⟨b1, o1, e1, hckj⟩ := HX.out j (by omega)
            cases e1
            obtain ⟨b1, o1, e1, hckk⟩ := HX.out k hlt
            cases e1
            have hckj1 := ck hckj hb
            have hckk1 := ck hckk hb
            rw [← Hr.out] at hckk1
            have hAND := HAND.out j
            have HC := Lib.hid (HCS.out j)
            obtain ⟨c, hc⟩ : ∃ c, c = pop 16 (r &&& bs.getD j 0) := ⟨_, rfl⟩
            have hcc : com bs k j = c := by rw [hc, Hr.out]; rfl
            rw [← hc] at HC
            have hcb : c ≤ 16 := by rw [hc]; exact pop_le _ _
            have hj16 : j ≤ 16 := by omega
            have hbj := HBIT.out j hj16
            have hbt' : r.testBit j = (bs.getD k 0).testBit j := by rw [Hr.out]
            have hlb := HL.out.bd
            have hmb := HM.out.bd
            have HQ2' := Lib.hid (fun nq : Nat => (hQ.below (below_drewN (Below.refl _ _) nq)))
            have HR2' := Lib.hid (fun nq : Nat => (hR.below (below_drewN (Below.refl _ _) nq)))
            have HBJ' := Lib.hid (fun nq : Nat => below_drewN hb nq)
            have hij0 : (0:Int) ≤ (j:Int) := by omega
            have hij1 : (j:Int) < (n:Int) := by omega
            have hckk2 := Lib.hid hckk1
            clear hb hR hQ hckj hckk hc
            generalize bs.getD j 0 = rj at *
            generalize r &&& rj = rr at *
            go_wp2_with fail
            go_quiet ((go_at_call 66; exact quiet_eq (HC.out _)))
            have HQ2 := Lib.hid (HQ2'.out nq)
            have HR2 := Lib.hid (HR2'.out nq)
            have HBJ2 := Lib.hid (HBJ'.out nq)
            have hkk3 : (wr.drewN nq).cell? ⟨b, o + k, none⟩ = some (.int .i64 (r : Nat)) := hckk2.out
            clear HQ2' HR2' HBJ' hckj1 hckk1 hckk2 HC hAND HCS HAND
            generalize wr.drewN nq = wj0 at *
            have x0 := (HQ2.out).c0
            have h0 := (HQ2.out).fr 0
            have x1 := (HQ2.out).c1
            have h1 := (HQ2.out).fr 1
            have x2 := (HQ2.out).c2
            have h2 := (HQ2.out).fr 2
            have x3 := (HQ2.out).c3
            have h3 := (HQ2.out).fr 3
            have q0 := (HR2.out).c0
            have f0 := (HR2.out).fr 0
            have q1 := (HR2.out).c1
            have f1 := (HR2.out).fr 1
            have q2 := (HR2.out).c2
            have f2 := (HR2.out).fr 2
            have q3 := (HR2.out).c3
            have f3 := (HR2.out).fr 3
            cases hbt : (bs.getD k 0).testBit j with
            | true =>
              rw [hbt'] at hbj
              rw [hbt] at hbj
              have hbj1 : bits .and .i64 ((r:Int) / 2 ^ j) 1 = 1 := hbj
              clear hbj hbt'
              by_cases hl0 : l < 0
              · have HNEW := Lib.hid (HL.out.first hl0 hjt hbt)
                have HSK := Lib.hid (HM.out.skip (by rw [hbt]; simp))
                have hR2 := (HQ2.out.s2 (c : Nat))
                have hA2 : Q4 (wj0.setCell ⟨w.heap.size + 1, 2, none⟩ (.int .i64 (c : Nat))) w.heap.size 32 0 0 0 0 := HR2.out.other (by omega) _ _ _
                have hB2 := HBJ2.out.setCell (p := ⟨w.heap.size + 1, 2, none⟩) (show w.heap.size ≤ w.heap.size + 1 by omega) (.int .i64 (c : Nat))
                have y2 := hR2.c2
                have HA2 := Lib.hid hA2
                have HRR := Lib.hid hR2
                have HBB := Lib.hid hB2
                rw [hcc] at HNEW
                clear hcc hbt HL HM hR2 hA2 hB2
                go_wp2_with fail
                go_roundw
                case rel => exact ⟨j + 1, (c : Nat), m, by omega, by go_num, HNEW, HSK, HA2.out, HRR.out, HBB.out⟩
                case measure => simp [intOf]; omega
              · by_cases hlc : l = (c : Nat)
                · have HNEW := Lib.hid (HL.out.more (by rw [hlc, hcc]))
                  have HSK := Lib.hid (HM.out.skip (by rw [hbt]; simp))
                  have hne : (l != (c:Int)) = false := by simp [hlc]
                  clear hcc hbt HL HM hlc
                  go_wp2_with fail
                  go_roundw
                  case rel => exact ⟨j + 1, l, m, by omega, by go_num, HNEW, HSK, HR2.out, HQ2.out, HBJ2.out⟩
                  case measure => simp [intOf]; omega
                · have HE := Lib.hid (HL.out.bad hl0 hlt hjt hbt (by rw [hcc]; exact hlc))
                  have hne : (l != (c:Int)) = true := by simp [hlc]
                  clear hcc hbt HL HM hlc
                  go_wp2_with fail
                  have hS := (HR2.out).store 0 0 0 0
                  have hBS := set4_below HBJ2.out (Nat.le_refl w.heap.size) 0 0 0 0
                  simp only [set4] at hS hBS
                  generalize ((((wj0.setCell ⟨w.heap.size, 0, none⟩ (.int .i64 0)).setCell ⟨w.heap.size, 1, none⟩ (.int .i64 0)).setCell ⟨w.heap.size, 2, none⟩ (.int .i64 0)).setCell ⟨w.heap.size, 3, none⟩ (.int .i64 0)) = W at *
                  refine bodyPost_ret (v := .tuple #[num4 0 0 0 0, .int .i64 4]) ?_ rfl ⟨by rw [HE.out]; rfl, hBS⟩
                  simp [results, Tryd.f23, go_sem, hS.c0, hS.c1, hS.c2, hS.c3, num4]
            | false =>
              rw [hbt'] at hbj
              rw [hbt] at hbj
              have hbj1 : bits .and .i64 ((r:Int) / 2 ^ j) 1 = 0 := hbj
              clear hbj hbt'
              by_cases hl0 : m < 0
              · have HNEW := Lib.hid (HM.out.first hl0 hjt hbt)
                have HSK := Lib.hid (HL.out.skip (by rw [hbt]; simp))
                have hR2 := (HQ2.out.s3 (c : Nat))
                have hA2 : Q4 (wj0.setCell ⟨w.heap.size + 1, 3, none⟩ (.int .i64 (c : Nat))) w.heap.size 32 0 0 0 0 := HR2.out.other (by omega) _ _ _
                have hB2 := HBJ2.out.setCell (p := ⟨w.heap.size + 1, 3, none⟩) (show w.heap.size ≤ w.heap.size + 1 by omega) (.int .i64 (c : Nat))
                have y3 := hR2.c3
                have HA2 := Lib.hid hA2
                have HRR := Lib.hid hR2
                have HBB := Lib.hid hB2
                rw [hcc] at HNEW
                clear hcc hbt HL HM hR2 hA2 hB2
                go_wp2_with fail
                go_roundw
                case rel => exact ⟨j + 1, l, (c : Nat), by omega, by go_num, HSK, HNEW, HA2.out, HRR.out, HBB.out⟩
                case measure => simp [intOf]; omega
              · by_cases hlc : m = (c : Nat)
                · have HNEW := Lib.hid (HM.out.more (by rw [hlc, hcc]))
                  have HSK := Lib.hid (HL.out.skip (by rw [hbt]; simp))
                  have hne : (m != (c:Int)) = false := by simp [hlc]
                  clear hcc hbt HL HM hlc
                  go_wp2_with fail
                  go_roundw
                  case rel => exact ⟨j + 1, l, m, by omega, by go_num, HSK, HNEW, HR2.out, HQ2.out, HBJ2.out⟩
                  case measure => simp [intOf]; omega
                · have HE := Lib.hid (HM.out.bad hl0 hlt hjt hbt (by rw [hcc]; exact hlc))
                  have hne : (m != (c:Int)) = true := by simp [hlc]
                  clear hcc hbt HL HM hlc
                  go_wp2_with fail
                  have hS := (HR2.out).store 0 0 0 0
                  have hBS := set4_below HBJ2.out (Nat.le_refl w.heap.size) 0 0 0 0
                  simp only [set4] at hS hBS
                  generalize ((((wj0.setCell ⟨w.heap.size, 0, none⟩ (.int .i64 0)).setCell ⟨w.heap.size, 1, none⟩ (.int .i64 0)).setCell ⟨w.heap.size, 2, none⟩ (.int .i64 0)).setCell ⟨w.heap.size, 3, none⟩ (.int .i64 0)) = W at *
                  refine bodyPost_ret (v := .tuple #[num4 0 0 0 0, .int .i64 4]) ?_ rfl ⟨by rw [HE.out]; rfl, hBS⟩
                  simp [results, Tryd.f23, go_sem, hS.c0, hS.c1, hS.c2, hS.c3, num4]
          · obtain rfl : j = k := by omega
            have HLN := Lib.hid HL.out.row
            have HMN := Lib.hid HM.out.row
            have HB2 := Lib.hid hb
            clear HL HM hb
            go_wp2_with fail
            go_roundw
            case rel => exact ⟨j + 1, l, m, by omega, by go_num, Lib.hid ⟨HSN.out, fun _ => ⟨hk1, hk2⟩⟩, HLN, HMN, hR, hQ, HB2.out⟩
            case measure => simp [intOf]; omega
      · have HE := Lib.hid (HBADS.out hpk)
        have hne : ((p:Int) != (K0:Int)) = true := by simp; omega
        clear HBADS HSTEP HMANY HFEW hpk HBIT HAND HCS
        go_wp2_with fail
        go_quiet ((go_at_call 66; exact quiet_eq (HS.out _)))
        have hQn := HRd.out nq
        have z0 := (hQn).c0
        have g0 := (hQn).fr 0
        have z1 := (hQn).c1
        have g1 := (hQn).fr 1
        have z2 := (hQn).c2
        have g2 := (hQn).fr 2
        have z3 := (hQn).c3
        have g3 := (hQn).fr 3
        go_wp2_with fail
        have hS := (hQn).store 0 0 0 0
        have hBS := set4_below (HBd.out nq) (Nat.le_refl w.heap.size) 0 0 0 0
        simp only [set4] at hS hBS
        generalize (((((wr.drewN nq).setCell ⟨w.heap.size, 0, none⟩ (.int .i64 0)).setCell ⟨w.heap.size, 1, none⟩ (.int .i64 0)).setCell ⟨w.heap.size, 2, none⟩ (.int .i64 0)).setCell ⟨w.heap.size, 3, none⟩ (.int .i64 0)) = W at *
        refine bodyPost_ret (v := .tuple #[num4 0 0 0 0, .int .i64 4]) ?_ rfl ⟨by rw [HE.out]; rfl, hBS⟩
        simp [results, Tryd.f23, go_sem, hS.c0, hS.c1, hS.c2, hS.c3, num4]
    · obtain rfl : k = n := by omega
      obtain ⟨L, M, rfl, rfl, hEnd⟩ := seen_end HGr.out (fun i hi => by rw [HSZ.out.1 i hi, HK0.out]) (by rw [← HK0.out]; exact (HSZ.out.2 hp0).1) (by rw [← HK0.out]; exact (HSZ.out.2 hp0).2) HL.out HM.out
      rw [← HK0.out] at hEnd
      have HE := Lib.hid hEnd
      clear hEnd HSZ HL HM hb
      have x0 := (HQ.out).c0
      have h0 := (HQ.out).fr 0
      have x1 := (HQ.out).c1
      have h1 := (HQ.out).fr 1
      have x2 := (HQ.out).c2
      have h2 := (HQ.out).fr 2
      have x3 := (HQ.out).c3
      have h3 := (HQ.out).fr 3
      have q0 := (HR.out).c0
      have f0 := (HR.out).fr 0
      have q1 := (HR.out).c1
      have f1 := (HR.out).fr 1
      have q2 := (HR.out).c2
      have f2 := (HR.out).fr 2
      have q3 := (HR.out).c3
      have f3 := (HR.out).fr 3
      go_wp2_with fail
      have hS := (HR.out).store k K0 L M
      have hBS := set4_below HB.out (Nat.le_refl w.heap.size) k K0 L M
      simp only [set4] at hS hBS
      generalize ((((wr.setCell ⟨w.heap.size, 0, none⟩ (.int .i64 k)).setCell ⟨w.heap.size, 1, none⟩ (.int .i64 K0)).setCell ⟨w.heap.size, 2, none⟩ (.int .i64 L)).setCell ⟨w.heap.size, 3, none⟩ (.int .i64 M)) = W at *
      refine bodyPost_ret (v := .tuple #[num4 k K0 L M, .int .i64 0]) ?_ rfl ⟨by rw [HE.out]; rfl, hBS⟩
      simp [results, Tryd.f23, go_sem, hS.c0, hS.c1, hS.c2, hS.c3, num4]
end Go.Proofs.YtdnhfnegnjdeoaaDoor
