/- have -/
import Derived.Test.YtdnhfnegnjdeoaaDoorOt
namespace Go.Proofs.YtdnhfnegnjdeoaaDoor
open Go.RowKit

/-- A block of four numbers. -/
def Q4 (w : World) (A : Nat) (t : TypeId) (a b c d : Int) : Prop := w.heap[A]? = some (.cells #[.int .i64 a, .int .i64 b, .int .i64 c, .int .i64 d] t (0, 0))
theorem Q4.lt {w : World} {A : Nat} {t : TypeId} {a b c d : Int} (h : Q4 w A t a b c d) : A < w.heap.size := lt_of_block h
theorem Q4.c0 {w : World} {A : Nat} {t : TypeId} {a b c d : Int} (h : Q4 w A t a b c d) : w.cell? ⟨A, 0, none⟩ = some (.int .i64 a) := by
  simp only [World.cell?, show w.heap[A]? = _ from h]; rfl
theorem Q4.c1 {w : World} {A : Nat} {t : TypeId} {a b c d : Int} (h : Q4 w A t a b c d) : w.cell? ⟨A, 1, none⟩ = some (.int .i64 b) := by
  simp only [World.cell?, show w.heap[A]? = _ from h]; rfl
theorem Q4.c2 {w : World} {A : Nat} {t : TypeId} {a b c d : Int} (h : Q4 w A t a b c d) : w.cell? ⟨A, 2, none⟩ = some (.int .i64 c) := by
  simp only [World.cell?, show w.heap[A]? = _ from h]; rfl
theorem Q4.c3 {w : World} {A : Nat} {t : TypeId} {a b c d : Int} (h : Q4 w A t a b c d) : w.cell? ⟨A, 3, none⟩ = some (.int .i64 d) := by
  simp only [World.cell?, show w.heap[A]? = _ from h]; rfl
theorem Q4.fr {w : World} {A : Nat} {t : TypeId} {a b c d : Int} (h : Q4 w A t a b c d) (k : Nat) : w.frozen? ⟨A, k, none⟩ = false := by
  simp [World.frozen?, show w.heap[A]? = _ from h]
theorem Q4.below {w w' : World} {A : Nat} {t : TypeId} {a b c d : Int} (h : Q4 w A t a b c d) (hb : Below w.heap.size w w') : Q4 w' A t a b c d := (hb.block A h.lt).trans h
theorem Q4.new (w : World) (t : TypeId) (a b c d : Int) : Q4 (w.alloc (.cells #[.int .i64 a, .int .i64 b, .int .i64 c, .int .i64 d] t)) w.heap.size t a b c d := heap_alloc_new w _

def rowH (bs : List Nat) (K L M i : Nat) : Prop := pop 16 (bs.getD i 0) = K ∧ ∀ j, j < i → com bs i j = if (bs.getD i 0).testBit j then L else M

set_option maxRecDepth 100000 in
set_option maxHeartbeats 2000000 in
theorem have_any (v : Value) (bs : List Nat) (n K L M : Nat) (w : World) (hb : Gr n bs) (h : Nats w v bs) :
    Calls Tryd.prog 65 #[v, .agg #[.int .i64 n, .int .i64 K, .int .i64 L, .int .i64 M]] w fun e w' => e = .returned (.bool (haveB n bs K L M)) ∧ Below w.heap.size w w' := by
  have HCM := Lib.hid (fun i j w' (hb' : Below w.heap.size w w') (hi : i < n) (hj : j < n) => common_any v bs n i j w' hb (h.below hb' (Nat.le_refl _)) hi hj)
  obtain ⟨ao, cap, rfl, h1, hx⟩ := hb.open h
  have HX := Lib.hid hx
  have hn := hb.le
  have HG := Lib.hid (fun k => hb.get16 k)
  have HQ := Lib.hid (Q4.new w 24 n K L M)
  have HB0 := Lib.hid ((Below.refl _ w).alloc (Nat.le_refl _) (.cells #[.int .i64 (n:Int), .int .i64 (K:Int), .int .i64 (L:Int), .int .i64 (M:Int)] 24))
  clear h hb hx
  go_enter Tryd.func65, Tryd.ntmps65
  go_wp2_with fail
  generalize w.alloc (.cells #[.int .i64 (n:Int), .int .i64 (K:Int), .int .i64 (L:Int), .int .i64 (M:Int)] 24) = W0 at *
  go_loopw [11] (fun ii wr => ∃ k : Nat, k ≤ n ∧ ii = .int .i64 k ∧ Hid (∀ i, i < k → rowH bs K L M i) ∧ Below W0.heap.size W0 wr) (fun ii _ => n - (intOf ii).toNat)
  case atStart => exact ⟨0, Nat.zero_le _, rfl, Lib.hid (fun i hi => absurd hi (by omega)), Below.refl _ _⟩
  case round =>
    obtain ⟨k, hk, rfl, HR, hb⟩ := hrel
    have HB := Lib.hid hb
    clear hb
    by_cases hlt : k < n
    · obtain ⟨b, o, rfl, hck⟩ := HX.out k hlt
      have hck' := ck hck (HB0.out.trans (HB.out.mono HB0.out.size))
      have hQ := (HQ.out.below HB.out).c1
      have HS := Lib.hid (fun w => size_any (bs.getD k 0) w (HG.out k))
      have hp := pop_le 16 (bs.getD k 0)
      have HBAD := Lib.hid (haveB_size (L := L) (M := M) (K := K) (bs := bs) hlt)
      have HPAIR := Lib.hid (fun j => haveB_pair (K := K) (L := L) (M := M) (bs := bs) (j := j) hlt)
      have HNEXT : Hid (pop 16 (bs.getD k 0) = K → (∀ j, j < k → com bs k j = if (bs.getD k 0).testBit j then L else M) → ∀ i, i < k + 1 → rowH bs K L M i) := Lib.hid fun a c i hi => by
        by_cases e : i = k
        · subst e; exact ⟨a, c⟩
        · exact HR.out i (by omega)
      have HH := Lib.hid (fun j w hj => has_any (bs.getD k 0) j w hj)
      clear hck HR
      generalize hpp : pop 16 (bs.getD k 0) = p at *
      clear hpp
      generalize bs.getD k 0 = r at *
      by_cases hpk : p = K
      · have HN1 := Lib.hid (HNEXT.out hpk)
        have hne : ((p:Int) != (K:Int)) = false := by simp [hpk]
        clear HNEXT HBAD hpk
        go_wp2_with fail
        go_quiet ((go_at_call 62; exact quiet_eq (HS.out _)))
        have HB1 := Lib.hid (below_drewN HB.out nq)
        generalize wr.drewN nq = W1 at *
        go_wp2_with fail
        go_loopw [22] (fun jj wj => ∃ j : Nat, j ≤ k ∧ jj = .int .i64 j ∧ Hid (∀ i, i < j → com bs k i = if r.testBit i then L else M) ∧ Below W0.heap.size W0 wj) (fun jj _ => k - (intOf jj).toNat)
        case atStart => exact ⟨0, Nat.zero_le _, rfl, Lib.hid (fun i hi => absurd hi (by omega)), HB1.out⟩
        case round =>
          obtain ⟨j, hj, rfl, HJ, hbj⟩ := hrel
          have HBJ := Lib.hid hbj
          clear hbj
          by_cases hjt : j < k
          · have hQj := HQ.out.below HBJ.out
            have q2 := hQj.c2
            have q3 := hQj.c3
            have HC := Lib.hid (HCM.out k j wr (HB0.out.trans (HBJ.out.mono HB0.out.size)) hlt (by omega))
            have HH1 := Lib.hid (HH.out j wr (by omega))
            have HP := Lib.hid (HPAIR.out j hjt)
            have HN : Hid ((com bs k j = if r.testBit j then L else M) → ∀ i, i < j + 1 → com bs k i = if r.testBit i then L else M) := Lib.hid fun a i hi => by
              by_cases e : i = j
              · subst e; exact a
              · exact HJ.out i (by omega)
            clear hQj HJ HPAIR
            generalize hcc : com bs k j = c at *
            clear hcc
            cases ht : r.testBit j with
            | true =>
              rw [ht] at HH1 HP HN
              have hif : (if true = true then L else M) = L := if_pos rfl
              rw [hif] at HP HN
              by_cases hcl : c = L
              · have HYtdnhfnegnjdeoaaDoor := Lib.hid (HN.out hcl)
                have hne2 : ((c:Int) != (L:Int)) = false := by simp [hcl]
                clear HN HP hcl ht
                go_wp2_with fail
                refine HH1.out.mono ?_
                rintro e w' ⟨rfl, rfl⟩
                go_wp2_with fail
                refine HC.out.mono ?_
                rintro e w2 ⟨rfl, hb2⟩
                have HB2 := Lib.hid (HBJ.out.trans (hb2.mono HBJ.out.size))
                clear hb2
                go_wp2_with fail
                go_roundw
                case rel => exact ⟨j + 1, by omega, by go_num, HYtdnhfnegnjdeoaaDoor, HB2.out⟩
                case measure => simp [intOf]; omega
              · have HF := Lib.hid (HP.out hcl)
                have hne2 : ((c:Int) != (L:Int)) = true := by simp; omega
                clear HN HP hcl ht
                go_wp2_with fail
                refine HH1.out.mono ?_
                rintro e w' ⟨rfl, rfl⟩
                go_wp2_with fail
                refine HC.out.mono ?_
                rintro e w2 ⟨rfl, hb2⟩
                have HB2 := Lib.hid (HBJ.out.trans (hb2.mono HBJ.out.size))
                clear hb2
                go_wp2_with fail
                go_ret
                exact ⟨ret_bool HF.out.symm, HB0.out.trans (HB2.out.mono HB0.out.size)⟩
            | false =>
              rw [ht] at HH1 HP HN
              have hif : (if false = true then L else M) = M := if_neg (by simp)
              rw [hif] at HP HN
              by_cases hcl : c = M
              · have HYtdnhfnegnjdeoaaDoor := Lib.hid (HN.out hcl)
                have hne2 : ((c:Int) != (M:Int)) = false := by simp [hcl]
                clear HN HP hcl ht
                go_wp2_with fail
                refine HH1.out.mono ?_
                rintro e w' ⟨rfl, rfl⟩
                go_wp2_with fail
                refine HC.out.mono ?_
                rintro e w2 ⟨rfl, hb2⟩
                have HB2 := Lib.hid (HBJ.out.trans (hb2.mono HBJ.out.size))
                clear hb2
                go_wp2_with fail
                go_roundw
                case rel => exact ⟨j + 1, by omega, by go_num, HYtdnhfnegnjdeoaaDoor, HB2.out⟩
                case measure => simp [intOf]; omega
              · have HF := Lib.hid (HP.out hcl)
                have hne2 : ((c:Int) != (M:Int)) = true := by simp; omega
                clear HN HP hcl ht
                go_wp2_with fail
                refine HH1.out.mono ?_
                rintro e w' ⟨rfl, rfl⟩
                go_wp2_with fail
                refine HC.out.mono ?_
                rintro e w2 ⟨rfl, hb2⟩
                have HB2 := Lib.hid (HBJ.out.trans (hb2.mono HBJ.out.size))
                clear hb2
                go_wp2_with fail
                go_ret
                exact ⟨ret_bool HF.out.symm, HB0.out.trans (HB2.out.mono HB0.out.size)⟩
          · obtain rfl : j = k := by omega
            have HYtdnhfnegnjdeoaaDoor := Lib.hid (HN1.out HJ.out)
            clear HJ HN1
            go_wp2_with fail
            go_roundw
            case rel => exact ⟨j + 1, by omega, by go_num, HYtdnhfnegnjdeoaaDoor, HBJ.out⟩
            case measure => simp [intOf]; omega
      · have HF := Lib.hid (HBAD.out hpk)
        have hne : ((p:Int) != (K:Int)) = true := by simp; omega
        clear HNEXT HBAD hpk
        go_wp2_with fail
        go_quiet ((go_at_call 62; exact quiet_eq (HS.out _)))
        go_wp2_with fail
        go_ret
        exact ⟨ret_bool HF.out.symm, HB0.out.trans ((below_drewN HB.out nq).mono HB0.out.size)⟩
    · obtain rfl : k = n := by omega
      have HE : Hid (haveB k bs K L M = true) := Lib.hid (haveB_good (fun i hi => (HR.out i hi).1) (fun i j hi hj => (HR.out i hi).2 j hj))
      clear HR
      go_wp2_with fail
      go_ret
      exact ⟨ret_bool HE.out.symm, HB0.out.trans (HB.out.mono HB0.out.size)⟩
end Go.Proofs.YtdnhfnegnjdeoaaDoor
