/- Read -/
import Derived.Test.YtdnhfnegnjdeoaaDoorHv
namespace Go.Proofs.YtdnhfnegnjdeoaaDoor
open Go.RowKit

def num4 (a b c d : Int) : Value := .agg #[.int .i64 a, .int .i64 b, .int .i64 c, .int .i64 d]
/-- What Read returns. -/
def readV (n : Nat) : Option (Nat × Nat × Nat) → Value
  | none => .tuple #[num4 0 0 0 0, .int .i64 4]
  | some (K, L, M) => .tuple #[num4 n K L M, .int .i64 0]

abbrev set4 (w : World) (A : Nat) (a b c d : Int) : World := (((w.setCell ⟨A, 0, none⟩ (.int .i64 a)).setCell ⟨A, 1, none⟩ (.int .i64 b)).setCell ⟨A, 2, none⟩ (.int .i64 c)).setCell ⟨A, 3, none⟩ (.int .i64 d)
theorem Q4.store {w : World} {A : Nat} {t : TypeId} {a b c d : Int} (h : Q4 w A t a b c d) (a' b' c' d' : Int) : Q4 (set4 w A a' b' c' d') A t a' b' c' d' := by
  have h1 := heap_set_at (k := 0) (show w.heap[A]? = _ from h) (.int .i64 a')
  have h2 := heap_set_at (k := 1) h1 (.int .i64 b')
  have h3 := heap_set_at (k := 2) h2 (.int .i64 c')
  exact heap_set_at (k := 3) h3 (.int .i64 d')
theorem set4_below {w w' : World} {B A : Nat} (h : Below B w w') (hA : B ≤ A) (a b c d : Int) : Below B w (set4 w' A a b c d) :=
  (((h.setCell (p := ⟨A, 0, none⟩) hA _).setCell (p := ⟨A, 1, none⟩) hA _).setCell (p := ⟨A, 2, none⟩) hA _).setCell (p := ⟨A, 3, none⟩) hA _

theorem Read_bad (v : Value) (xs : List Int) (w : World) (h : Ints w v xs) (hg : graphB xs = false) (hT : Tab w) :
    Calls Tryd.prog 17 #[v] w fun e w' => e = .returned (.tuple #[num4 0 0 0 0, .int .i64 2]) ∧ Below w.heap.size w w' := by
  have hb0 := (Below.refl w.heap.size w).alloc (Nat.le_refl _) (.cells #[.int .i64 0, .int .i64 0, .int .i64 0, .int .i64 0] 24)
  have HI := Lib.hid (isGraph_any v _ _ (h.below hb0 (Nat.le_refl _)) (tab_below hT hb0))
  have HB0 := Lib.hid hb0
  have HQ := Lib.hid (Q4.new w 24 0 0 0 0)
  rw [hg] at HI
  obtain ⟨ao, cap, rfl, _, _⟩ := h.open
  clear h hg hT hb0
  go_enter Tryd.func17, Tryd.ntmps17
  go_wp2_with fail
  refine HI.out.mono ?_
  rintro e w1 ⟨rfl, hb1⟩
  have hQ := HQ.out.below hb1
  have q0 := hQ.c0
  have q1 := hQ.c1
  have q2 := hQ.c2
  have q3 := hQ.c3
  have f0 := hQ.fr 0
  have f1 := hQ.fr 1
  have f2 := hQ.fr 2
  have f3 := hQ.fr 3
  have HB := Lib.hid (HB0.out.trans (hb1.mono HB0.out.size))
  clear hb1
  go_wp2_with fail
  have hS := hQ.store 0 0 0 0
  have hBS := set4_below HB.out (Nat.le_refl w.heap.size) 0 0 0 0
  simp only [set4] at hS hBS
  generalize ((((w1.setCell ⟨w.heap.size, 0, none⟩ (.int .i64 0)).setCell ⟨w.heap.size, 1, none⟩ (.int .i64 0)).setCell ⟨w.heap.size, 2, none⟩ (.int .i64 0)).setCell ⟨w.heap.size, 3, none⟩ (.int .i64 0)) = W at *
  refine bodyPost_ret (v := .tuple #[num4 0 0 0 0, .int .i64 2]) ?_ rfl ⟨rfl, hBS⟩
  simp [results, Tryd.f17, go_sem, hS.c0, hS.c1, hS.c2, hS.c3, num4]

set_option maxRecDepth 100000 in
set_option maxHeartbeats 2000000 in
theorem Read_any (v : Value) (bs : List Nat) (n : Nat) (w : World) (hg : Gr n bs) (h : Nats w v bs) (hT : Tab w) :
    Calls Tryd.prog 17 #[v] w fun e w' => e = .returned (readV n (readP n bs)) ∧ Below w.heap.size w w' := by
  have hb0 := (Below.refl w.heap.size w).alloc (Nat.le_refl _) (.cells #[.int .i64 0, .int .i64 0, .int .i64 0, .int .i64 0] 24)
  have HI := Lib.hid (isGraph_any v _ _ (h.below hb0 (Nat.le_refl _)) (tab_below hT hb0))
  rw [graphB_mk hg] at HI
  have HB0 := Lib.hid hb0
  have HQ := Lib.hid (Q4.new w 24 0 0 0 0)
  have HT := Lib.hid (fun w' (hb : Below w.heap.size w w') => tab_below hT hb)
  have HO := Lib.hid (fun w' (hb' : Below w.heap.size w w') => other_any v bs n w' hg (h.below hb' (Nat.le_refl _)))
  have HCM := Lib.hid (fun j w' (hb' : Below w.heap.size w w') (hj : j < n) => common_any v bs n 0 j w' hg (h.below hb' (Nat.le_refl _)) hg.pos hj)
  have HHV := Lib.hid (fun K L M w' (hb' : Below w.heap.size w w') => have_any v bs n K L M w' hg (h.below hb' (Nat.le_refl _)))
  have HNF := Lib.hid (near_facts hg)
  have HFF := Lib.hid (far_facts hg)
  have HN16 : Hid (nearS bs < 65536) := hg.get16 0
  have HF16 : Hid (farS n bs < 65536) := (oth_gr hg).get16 0
  have HOL : Hid ((oth n bs).length = n) := oth_length n bs
  have hpos := hg.pos
  have hn := hg.le
  obtain ⟨ao, cap, rfl, hcap, hx⟩ := hg.open h
  obtain ⟨b, o, rfl, hck⟩ := hx 0 hg.pos
  have hnear : bs.getD 0 0 = nearS bs := rfl
  rw [hnear] at hck
  clear h hg hT hb0 hx hnear
  rw [Nat.add_zero] at hck
  have hi0 : (0:Int) < (n:Int) := by omega
  go_enter Tryd.func17, Tryd.ntmps17
  go_wp2_with fail
  refine HI.out.mono ?_
  rintro e w1 ⟨rfl, hb1⟩
  have HQ1 := Lib.hid (HQ.out.below hb1)
  have HB1 := Lib.hid (HB0.out.trans (hb1.mono HB0.out.size))
  have hck1 := ck hck HB1.out
  clear hb1 HI HQ HB0 hck
  have HO1 := Lib.hid (HO.out w1.drew HB1.out.drew)
  have HFar : Hid (∀ w2, NatBlk w2 w1.heap.size (oth n bs) → w2.cell? ⟨w1.heap.size, 0, none⟩ = some (.int .i64 (farS n bs : Nat))) := Lib.hid fun w2 hN => (hN.cell (by rw [HOL.out]; exact hpos)).1
  go_wp2_with fail
  have hp0 : 0 < n := hpos
  have hck1' : w1.drew.cell? ⟨b, o, none⟩ = some (.int .i64 (nearS bs : Nat)) := hck1
  go_cut [4, 5] (fun x y wx => x = .int .i64 (nearS bs : Nat) ∧ y = .int .i64 (farS n bs : Nat) ∧ Below w1.heap.size w1 wx)
  case first =>
    go_region_with (go_at_call 61; refine HO1.out.mono ?_; rintro e w2 ⟨rfl, hN2, hb2⟩; have hfar2 := HFar.out _ hN2; have hck2 := ck hck1' hb2)
    all_goals (have hb3 : Below w1.heap.size w1 w2 := (Below.refl _ w1).drew.trans hb2; clear hN2 hb2; go_wp2_with fail; go_meet; exact ⟨rfl, rfl, hb3⟩)
  case rest =>
    obtain ⟨rfl, rfl, hBx⟩ := hcut
    have HQ2 := Lib.hid (HQ1.out.below hBx)
    have HB2 := Lib.hid (HB1.out.trans (hBx.mono HB1.out.size))
    clear hBx HQ1 HB1 HFar HO1 HO hck1 hck1'
    by_cases h0 : nearS bs = 0
    · have HE : Hid (readP n bs = none) := readP_near h0
      have hz : (((nearS bs : Nat) : Int) == 0) = true := by rw [h0]; rfl
      have q0 := (HQ2.out).c0
      have f0 := (HQ2.out).fr 0
      have q1 := (HQ2.out).c1
      have f1 := (HQ2.out).fr 1
      have q2 := (HQ2.out).c2
      have f2 := (HQ2.out).fr 2
      have q3 := (HQ2.out).c3
      have f3 := (HQ2.out).fr 3
      generalize nearS bs = x at *
      generalize farS n bs = y at *
      go_wp2_with fail
      have hS := (HQ2.out).store 0 0 0 0
      have hBS := set4_below HB2.out (Nat.le_refl w.heap.size) 0 0 0 0
      simp only [set4] at hS hBS
      generalize ((((wc.setCell ⟨w.heap.size, 0, none⟩ (.int .i64 0)).setCell ⟨w.heap.size, 1, none⟩ (.int .i64 0)).setCell ⟨w.heap.size, 2, none⟩ (.int .i64 0)).setCell ⟨w.heap.size, 3, none⟩ (.int .i64 0)) = W at *
      refine bodyPost_ret (v := .tuple #[num4 0 0 0 0, .int .i64 4]) ?_ rfl ⟨by rw [HE.out]; rfl, hBS⟩
      simp [results, Tryd.f17, go_sem, hS.c0, hS.c1, hS.c2, hS.c3, num4]
    by_cases h1 : farS n bs = 0
    · have HE : Hid (readP n bs = none) := readP_far h1
      have hz : (((nearS bs : Nat) : Int) == 0) = false := by simp [h0]
      have hz1 : (((farS n bs : Nat) : Int) == 0) = true := by rw [h1]; rfl
      have q0 := (HQ2.out).c0
      have f0 := (HQ2.out).fr 0
      have q1 := (HQ2.out).c1
      have f1 := (HQ2.out).fr 1
      have q2 := (HQ2.out).c2
      have f2 := (HQ2.out).fr 2
      have q3 := (HQ2.out).c3
      have f3 := (HQ2.out).fr 3
      generalize nearS bs = x at *
      generalize farS n bs = y at *
      go_wp2_with fail
      have hS := (HQ2.out).store 0 0 0 0
      have hBS := set4_below HB2.out (Nat.le_refl w.heap.size) 0 0 0 0
      simp only [set4] at hS hBS
      generalize ((((wc.setCell ⟨w.heap.size, 0, none⟩ (.int .i64 0)).setCell ⟨w.heap.size, 1, none⟩ (.int .i64 0)).setCell ⟨w.heap.size, 2, none⟩ (.int .i64 0)).setCell ⟨w.heap.size, 3, none⟩ (.int .i64 0)) = W at *
      refine bodyPost_ret (v := .tuple #[num4 0 0 0 0, .int .i64 4]) ?_ rfl ⟨by rw [HE.out]; rfl, hBS⟩
      simp [results, Tryd.f17, go_sem, hS.c0, hS.c1, hS.c2, hS.c3, num4]
    have hz : (((nearS bs : Nat) : Int) == 0) = false := by simp [h0]
    have hz1 : (((farS n bs : Nat) : Int) == 0) = false := by simp [h1]
    have hun := (HNF.out h0).2.2
    have hvn := (HFF.out h1).2.2
    have HSZ := Lib.hid (fun w => size_any (nearS bs) w HN16.out)
    have HF1 := Lib.hid (fun w' (hb : Below w.heap.size w w') => first_any (nearS bs) w' HN16.out h0 (HT.out w' hb))
    have HF2 := Lib.hid (fun w' (hb : Below w.heap.size w w') => first_any (farS n bs) w' HF16.out h1 (HT.out w' hb))
    have HC1 := Lib.hid (fun w' (hb : Below w.heap.size w w') => HCM.out _ w' hb hun)
    have HC2 := Lib.hid (fun w' (hb : Below w.heap.size w w') => HCM.out _ w' hb hvn)
    have HYES := Lib.hid (readP_yes h0 h1)
    have HNO := Lib.hid (readP_no (n := n) (bs := bs))
    clear HNF HFF HT HN16 HF16 HCM h0 h1 hun hvn
    generalize Lib.ctz 64 (nearS bs) = u at *
    generalize Lib.ctz 64 (farS n bs) = v at *
    generalize pop 16 (nearS bs) = K at *
    generalize com bs 0 u = L at *
    generalize com bs 0 v = M at *
    generalize nearS bs = x at *
    generalize farS n bs = y at *
    go_wp2_with fail
    refine (HSZ.out _).mono ?_
    rintro e w' ⟨rfl, rfl⟩
    go_wp2_with fail
    refine (HF1.out _ HB2.out).mono ?_
    rintro e w' ⟨rfl, rfl⟩
    go_wp2_with fail
    refine (HC1.out _ HB2.out).mono ?_
    rintro e w3 ⟨rfl, hb3⟩
    have HB3 := Lib.hid (HB2.out.trans (hb3.mono HB2.out.size))
    have HQ3 := Lib.hid (HQ2.out.below hb3)
    clear hb3
    go_wp2_with fail
    refine (HF2.out _ HB3.out).mono ?_
    rintro e w' ⟨rfl, rfl⟩
    go_wp2_with fail
    refine (HC2.out _ HB3.out).mono ?_
    rintro e w4 ⟨rfl, hb4⟩
    have hba := (Below.refl w4.heap.size w4).alloc (Nat.le_refl _) (.cells #[.int .i64 (n:Int), .int .i64 (K:Int), .int .i64 (L:Int), .int .i64 (M:Int)] 24)
    have hb4' := HB3.out.trans (hb4.mono HB3.out.size)
    have HB4 := Lib.hid (hb4'.trans (hba.mono hb4'.size))
    have HQ4 := Lib.hid ((HQ3.out.below hb4).below hba)
    have HX4 := Lib.hid (Q4.new w4 24 n K L M)
    have x0 := HX4.out.c0
    have x1 := HX4.out.c1
    have x2 := HX4.out.c2
    have x3 := HX4.out.c3
    have HH := Lib.hid (HHV.out K L M _ HB4.out)
    clear hb4 hba hb4'
    go_wp2_with fail
    refine HH.out.mono ?_
    rintro e w5 ⟨rfl, hb5⟩
    have HB5 := Lib.hid (HB4.out.trans (hb5.mono HB4.out.size))
    have HQ5 := Lib.hid (HQ4.out.below hb5)
    have HX5 := Lib.hid (HX4.out.below hb5)
    clear hb5 x0 x1 x2 x3 HX4 HQ4 HB4 HH
    have y0 := HX5.out.c0
    have y1 := HX5.out.c1
    have y2 := HX5.out.c2
    have y3 := HX5.out.c3
    have q0 := (HQ5.out).c0
    have f0 := (HQ5.out).fr 0
    have q1 := (HQ5.out).c1
    have f1 := (HQ5.out).fr 1
    have q2 := (HQ5.out).c2
    have f2 := (HQ5.out).fr 2
    have q3 := (HQ5.out).c3
    have f3 := (HQ5.out).fr 3
    cases hh : haveB n bs K L M with
    | false =>
      have HE := Lib.hid (HNO.out hh)
      go_wp2_with fail
      have hS := (HQ5.out).store 0 0 0 0
      have hBS := set4_below HB5.out (Nat.le_refl w.heap.size) 0 0 0 0
      simp only [set4] at hS hBS
      generalize ((((w5.setCell ⟨w.heap.size, 0, none⟩ (.int .i64 0)).setCell ⟨w.heap.size, 1, none⟩ (.int .i64 0)).setCell ⟨w.heap.size, 2, none⟩ (.int .i64 0)).setCell ⟨w.heap.size, 3, none⟩ (.int .i64 0)) = W at *
      refine bodyPost_ret (v := .tuple #[num4 0 0 0 0, .int .i64 4]) ?_ rfl ⟨by rw [HE.out]; rfl, hBS⟩
      simp [results, Tryd.f17, go_sem, hS.c0, hS.c1, hS.c2, hS.c3, num4]
    | true =>
      have HE := Lib.hid (HYES.out hh)
      go_wp2_with fail
      have hS := (HQ5.out).store n K L M
      have hBS := set4_below HB5.out (Nat.le_refl w.heap.size) n K L M
      simp only [set4] at hS hBS
      generalize ((((w5.setCell ⟨w.heap.size, 0, none⟩ (.int .i64 n)).setCell ⟨w.heap.size, 1, none⟩ (.int .i64 K)).setCell ⟨w.heap.size, 2, none⟩ (.int .i64 L)).setCell ⟨w.heap.size, 3, none⟩ (.int .i64 M)) = W at *
      refine bodyPost_ret (v := .tuple #[num4 n K L M, .int .i64 0]) ?_ rfl ⟨by rw [HE.out]; rfl, hBS⟩
      simp [results, Tryd.f17, go_sem, hS.c0, hS.c1, hS.c2, hS.c3, num4]
end Go.Proofs.YtdnhfnegnjdeoaaDoor
