/- SignsFound: the walk -/
import Derived.Test.YtopmdmafameknaaFg
import Derived.Test.YtopmdmafameknaaFh
import Derived.Test.YtopmdmafameknaaDw
namespace Go.Proofs.Ytopmdmafameknaa
open Go.RowKit

theorem quietE {P : Program} {f : FuncId} {args : Array Value} {w : World} {n : Nat} {v : Value}
    (h : Calls P f args (w.drewN n) fun e w' => e = .returned v ∧ w.drewN n = w') : Calls P f args (w.drewN n) fun e w'' => e = .returned v ∧ ∃ m, w'' = w.drewN m :=
  h.mono fun _ _ ⟨he, hm⟩ => ⟨he, n, hm.symm⟩
def sumSqF (a b c d : Nat) : Nat → Nat
  | 0 => 0
  | t + 1 => sumSqF a b c d t + selN a b c d t * selN a b c d t
theorem four_all {n : Nat} (h1 : 1 ≤ n) (h2 : n ≤ 100) : (∀ (k : Nat) (x : List Nat), (fourL n)[k]? = some x → ∃ a b c d, x = [a, b, c, d] ∧ (∀ t, t < 4 → 1 ≤ selN a b c d t ∧ selN a b c d t ≤ 20 ∧ selN a b c d t % 2 = 1) ∧ (∀ t, t < 3 → selN a b c d t ≤ selN a b c d (t + 1)) ∧ sumSqF a b c d 4 = 4 * n) ∧
    lexs (fourL n) = true ∧ ((fourL n).length ≠ 0 ↔ n % 2 = 1) := by
  have h := List.all_eq_true.1 found_chk n (List.mem_range.2 (by omega))
  simp only [Bool.or_eq_true, Bool.and_eq_true, beq_iff_eq, decide_eq_true_eq, List.all_eq_true] at h
  rcases h with h | ⟨⟨⟨h3, h4⟩, _⟩, h5⟩
  · omega
  · refine ⟨fun k x hx => ?_, h4, ?_⟩
    · obtain ⟨⟨⟨e1, e2⟩, e3⟩, e4⟩ := h3 x (List.mem_of_getElem? hx)
      match x, e1 with
      | [a, b, c, d], _ =>
        refine ⟨a, b, c, d, rfl, fun t ht => ?_, fun t ht => ?_, ?_⟩
        · have ea := e2 a (by simp)
          have eb := e2 b (by simp)
          have ec := e2 c (by simp)
          have ed := e2 d (by simp)
          match t, ht with
          | 0, _ => exact ⟨ea.1.1, ea.1.2, ea.2⟩
          | 1, _ => exact ⟨eb.1.1, eb.1.2, eb.2⟩
          | 2, _ => exact ⟨ec.1.1, ec.1.2, ec.2⟩
          | 3, _ => exact ⟨ed.1.1, ed.1.2, ed.2⟩
        · simp only [rise, Bool.and_eq_true, decide_eq_true_eq] at e3
          match t, ht with
          | 0, _ => exact e3.1
          | 1, _ => exact e3.2.1
          | 2, _ => exact e3.2.2.1
        · simp at e4
          simp [sumSqF, selN]; omega
    · constructor
      · intro q
        have hq : ((fourL n).length != 0) = true := by simpa using q
        rw [hq] at h5
        simpa using h5.symm
      · intro q
        have hq : (n % 2 == 1) = true := by simp [q]
        rw [hq] at h5
        simpa using h5
theorem sumSqF_le {a b c d : Nat} (h : ∀ t, t < 4 → selN a b c d t ≤ 20) : ∀ t, t ≤ 4 → sumSqF a b c d t ≤ 400 * t
  | 0, _ => Nat.le_refl _
  | t + 1, ht => by
    have := sumSqF_le h t (by omega)
    have := Nat.mul_le_mul (h t (by omega)) (h t (by omega))
    simp only [sumSqF]; omega
set_option maxHeartbeats 400000 in
theorem found_bad (n : Int) (h : n < 1 ∨ 100 < n) (w : World) : Calls Try.prog 15 #[.int .i64 n] w fun e w' => e = .returned (.bool true) ∧ Below w.heap.size w w' := by
  have HF := Lib.hid (fun W => Four_bad n h W)
  have HAw := Lib.hid (fun W => awake_any W)
  clear h
  go_enter Try.func15, Try.ntmps15
  go_wp2_with fail
  refine (HF.out _).mono ?_
  rintro e w1 ⟨rfl, hb1⟩
  have HB1 := Lib.hid hb1
  clear hb1
  go_wp2_with fail
  refine (HAw.out _).mono ?_
  rintro e w2 ⟨rfl, hb⟩
  have HB2 := Lib.hid (HB1.out.trans (hb.mono HB1.out.size))
  clear hb
  go_wp2_with fail
  go_ret
  exact ⟨rfl, HB2.out⟩

set_option maxRecDepth 100000 in
set_option maxHeartbeats 2000000 in
theorem found_m (n p0 p1 p2 p3 : Nat) (hn : n = 1 ∨ n = 3 ∨ n = 5) (hF : fndL n 4 [] = some [p0, p1, p2, p3]) (hs : seqsI n p0 p1 p2 p3 = true) (hg : goodB n p0 p1 p2 p3 = true) (w : World) : Calls Try.prog 15 #[.int .i64 (n : Nat)] w fun e w' => e = .returned (.bool true) ∧ Below w.heap.size w w' := by
  have h1 : 1 ≤ n := by omega
  have h2 : n ≤ 100 := by omega
  have hM : isM (n : Int) = true := by unfold isM; rcases hn with rfl | rfl | rfl <;> rfl
  have HFi := Lib.hid (fun W => Find_ok n p0 p1 p2 p3 h1 (by omega) hM hF W)
  have HG : Hid (∀ W, Calls Try.prog 43 #[.int .i64 (n : Nat), arr4 p0 p1 p2 p3] W fun e w' => e = .returned (.tuple #[.bool true, .int .i64 0]) ∧ Below W.heap.size W w') := Lib.hid (fun W => (Good_any n p0 p1 p2 p3 W).mono fun e w' h => by
    unfold GoodPost at h; rw [if_pos hs] at h
    simp only [Int.toNat_natCast] at h
    rw [hg] at h; exact h)
  have hodd : n % 2 = 1 := by omega
  unfold arr4 at HFi HG
  have HFo := Lib.hid (fun W => Four_ok n h1 h2 W)
  have HF4 := Lib.hid (fourL_four h1 h2)
  have hFl := fourL_len h1 h2
  have HAw := Lib.hid (fun W => awake_any W)
  obtain ⟨ha, hlex, hpar⟩ := four_all h1 h2
  have HAll := Lib.hid ha
  have HLex := Lib.hid (fun k x y => lexs_at (fourL n) k x y hlex)
  have HPar := Lib.hid hpar
  have HCmp := Lib.hid (fun v u a b W hv hu (hl : a.length = b.length) (hB : lexB a b = true) => compare_any v u a b W hv hu hl (fun k h _ => lexB_first a b k hB h) (lexB_ne a b hB))
  clear ha hlex hpar hM hF hs hg hn
  generalize fourL n = L at *
  go_enter Try.func15, Try.ntmps15
  go_wp2_with fail
  refine (HFo.out _).mono ?_
  rintro e w1 ⟨v, rfl, hv, hb1⟩
  obtain ⟨ao, cap, rfl, hcap, _, hx⟩ := hv.read HF4.out (by omega)
  have HX := Lib.hid hx
  have HB1 := Lib.hid hb1
  clear hv hb1 hx HFo HF4
  go_wp2_with fail
  go_loopw [27] (fun i wr => ∃ k : Nat, k ≤ L.length ∧ i = .int .i64 (k : Nat) ∧ Below w1.heap.size w1 wr) (fun i _ => L.length - (intOf i).toNat)
  case atStart => exact ⟨0, Nat.zero_le _, rfl, Below.refl _ _⟩
  case round =>
    obtain ⟨k, hk, rfl, hb⟩ := hrel
    have HB := Lib.hid hb
    clear hb
    by_cases hlt : k < L.length
    · obtain ⟨x, hxk⟩ : ∃ x, L[k]? = some x := ⟨L[k], by simp [hlt]⟩
      obtain ⟨a, b, c, d, rfl, hel, hri, hsq⟩ := HAll.out k x hxk
      obtain ⟨g, rfl, c0, c1, c2, c3⟩ := HX.out k _ hxk
      have HXk := Lib.hid hxk
      simp only [List.getD_cons_zero, List.getD_cons_succ] at c0 c1 c2 c3
      have c0 := ck c0 HB.out
      have c1 := ck c1 HB.out
      have c2 := ck c2 HB.out
      have c3 := ck c3 HB.out
      have HEl := Lib.hid hel
      have HRi := Lib.hid hri
      have HSq := Lib.hid hsq
      have HSl := Lib.hid (sumSqF_le (a := a) (b := b) (c := c) (d := d) (fun t ht => (hel t ht).2.1))
      have HIx : Hid (∀ k, k < 4 → ∀ W, (Instr.index 43 (.agg #[.int .i64 (a : Nat), .int .i64 (b : Nat), .int .i64 (c : Nat), .int .i64 (d : Nat)]) (.int .i64 (k : Nat))).run Try.prog W = .ok (.int .i64 (selN a b c d k : Nat)) W) := Lib.hid (fun k hk W => by rw [← sel_cast]; exact idx4 a b c d k hk W)
      have HBz : Hid (Below wr.heap.size wr (wr.alloc (.cells #[.int .i64 (a : Nat), .int .i64 (b : Nat), .int .i64 (c : Nat), .int .i64 (d : Nat)] 43))) := Lib.hid ((Below.refl _ _).alloc (Nat.le_refl _) _)
      have HZ := Lib.hid (Blk.new 43 wr #[.int .i64 (a : Nat), .int .i64 (b : Nat), .int .i64 (c : Nat), .int .i64 (d : Nat)])
      clear hxk hel hri hsq
      go_wp2_with fail
      clear c0 c1 c2 c3
      generalize wr.alloc (.cells #[.int .i64 (a : Nat), .int .i64 (b : Nat), .int .i64 (c : Nat), .int .i64 (d : Nat)] 43) = wz at *
      have HBw := Lib.hid (HB.out.trans (HBz.out.mono HB.out.size))
      have z0 : ∀ t, t < 4 → wz.cell? ⟨wr.heap.size, t, none⟩ = some (.int .i64 (selN a b c d t : Nat)) := fun t ht => by
        rw [HZ.out.cell]
        match t, ht with
        | 0, _ => rfl
        | 1, _ => rfl
        | 2, _ => rfl
        | 3, _ => rfl
      have HZc := Lib.hid z0
      clear z0
      go_loop [33, 7] (fun j s => ∃ t : Nat, t ≤ 4 ∧ j = .int .i64 (t : Nat) ∧ s = .int .i64 (sumSqF a b c d t : Nat)) (fun j _ => 4 - (intOf j).toNat)
      case atStart => exact ⟨0, Nat.zero_le _, rfl, rfl⟩
      case round =>
        obtain ⟨t, ht, rfl, rfl⟩ := hrel
        have hsl := HSl.out t ht
        by_cases ht4 : t < 4
        · have hix := HIx.out t ht4
          obtain ⟨y1, y20, yodd⟩ := HEl.out t ht4
          have HS : Hid (sumSqF a b c d (t + 1) = sumSqF a b c d t + selN a b c d t * selN a b c d t) := Lib.hid rfl
          have hprev : 0 < t → selN a b c d (t - 1) ≤ selN a b c d t := fun h0 => by
            have := HRi.out (t - 1) (by omega)
            rwa [show t - 1 + 1 = t by omega] at this
          have hcell : 0 < t → wz.cell? ⟨wr.heap.size, t - 1, none⟩ = some (.int .i64 (selN a b c d (t - 1) : Nat)) := fun h0 => HZc.out (t - 1) (by omega)
          have hyM : selN a b c d t * selN a b c d t ≤ 400 := Nat.mul_le_mul y20 y20
          obtain ⟨M, hMM⟩ : ∃ M, M = selN a b c d t * selN a b c d t := ⟨_, rfl⟩
          have hyy : ((selN a b c d t : Nat) : Int) * ((selN a b c d t : Nat) : Int) = (M : Nat) := by rw [hMM]; simp
          rw [← hMM] at HS hyM
          have hrem : Int.tmod ((selN a b c d t : Nat) : Int) 2 = 1 := by rw [Int.tmod_eq_emod_of_nonneg (by omega)]; omega
          clear hMM yodd
          generalize selN a b c d t = y at *
          generalize sumSqF a b c d t = S0 at *
          by_cases ht0 : 0 < t
          · have hprev := hprev ht0
            have hcell := hcell ht0
            obtain ⟨u, hu⟩ : ∃ u, u = t - 1 := ⟨_, rfl⟩
            have hut : (t : Int) - 1 = (u : Nat) := by omega
            rw [← hu] at hprev hcell
            have hu4 : u < 4 := by omega
            clear hu
            generalize selN a b c d u = z at *
            go_wp2_with fail
            go_round
            case rel => exact ⟨t + 1, by omega, by go_num, by rw [HS.out]; go_num⟩
            case measure => (first | (simp [intOf]; done) | (simp [intOf]; omega))
          · clear hprev hcell
            go_wp2_with fail
            go_round
            case rel => exact ⟨t + 1, by omega, by go_num, by rw [HS.out]; go_num⟩
            case measure => (first | (simp [intOf]; done) | (simp [intOf]; omega))
        · have ht' : t = 4 := by omega
          subst ht'
          rw [HSq.out]
          have h4n : (((4 * n : Nat) : Int) == 4 * (n : Int)) = true := beq_iff_eq.2 (by omega)
          clear hsl HSl HSq HRi HIx
          cases k with
          | zero =>
            go_wp2_with fail
            go_quiet (fail)
            go_wp2_with fail
            go_roundw
            case rel => exact ⟨1, by omega, by go_num, below_drewN HBw.out _⟩
            case measure => (first | (simp [intOf]; done) | (simp [intOf]; omega))
          | succ u =>
            obtain ⟨x2, hx2⟩ : ∃ x, L[u]? = some x := ⟨L[u], by simp⟩
            obtain ⟨a2, b2, c2, d2, rfl, hel2, _, _⟩ := HAll.out u x2 hx2
            obtain ⟨g', hg', q0, q1, q2, q3⟩ := HX.out u _ hx2
            cases hg'
            simp only [List.getD_cons_zero, List.getD_cons_succ] at q0 q1 q2 q3
            have hlx := HLex.out u _ _ hx2 HXk.out
            have r0 := ck (ck q0 HB.out) HBz.out
            have r1 := ck (ck q1 HB.out) HBz.out
            have r2 := ck (ck q2 HB.out) HBz.out
            have r3 := ck (ck q3 HB.out) HBz.out
            have hgs : g < wz.heap.size := World.block_lt_of_cell? wz _ r0
            have hN1 := nats_four hgs r0 r1 r2 r3 ⟨by have := (hel2 0 (by omega)).2.1; simp [selN] at this; omega, by have := (hel2 1 (by omega)).2.1; simp [selN] at this; omega, by have := (hel2 2 (by omega)).2.1; simp [selN] at this; omega, by have := (hel2 3 (by omega)).2.1; simp [selN] at this; omega⟩
            have hN2 := nats_four (o := 0) HZ.out.lt (HZc.out 0 (by omega)) (HZc.out 1 (by omega)) (HZc.out 2 (by omega)) (HZc.out 3 (by omega)) ⟨by have := (HEl.out 0 (by omega)).2.1; omega, by have := (HEl.out 1 (by omega)).2.1; omega, by have := (HEl.out 2 (by omega)).2.1; omega, by have := (HEl.out 3 (by omega)).2.1; omega⟩
            have HC := Lib.hid (fun m => HCmp.out _ _ [a2, b2, c2, d2] [a, b, c, d] (wz.drewN m) (hN1.below (below_drewN (Below.refl _ _) m) (Nat.le_refl _)) (hN2.below (below_drewN (Below.refl _ _) m) (Nat.le_refl _)) rfl hlx)
            have hu : ((u + 1 : Nat) : Int) - 1 = (u : Nat) := by omega
            clear hx2 hel2 q0 q1 q2 q3 hlx hN1 hN2
            go_wp2_with fail
            go_quiet ((go_at_call 59; exact quietE (HC.out _)))
            go_wp2_with fail
            go_roundw
            case rel => exact ⟨u + 2, by omega, by go_num, below_drewN HBw.out _⟩
            case measure => (first | (simp [intOf]; done) | (simp [intOf]; omega))
    · have hkk : k = L.length := by omega
      have HBo := Lib.hid (HB1.out.trans (HB.out.mono HB1.out.size))
      clear HAll HLex HX HCmp HB HB1 hkk
      have hL0 : 0 < L.length := Nat.pos_of_ne_zero (HPar.out.2 hodd)
      have hrem : Int.tmod (n : Int) 2 = 1 := by rw [Int.tmod_eq_emod_of_nonneg (by omega)]; omega
      clear HPar
      generalize L.length = ll at *
      go_wp2_with fail
      refine (HFi.out _).mono ?_
      rintro e w3 ⟨rfl, hb3⟩
      have HB3 := Lib.hid (HBo.out.trans (hb3.mono HBo.out.size))
      clear hb3
      go_wp2_with fail
      refine (HG.out _).mono ?_
      rintro e w4 ⟨rfl, hb4⟩
      have HB4 : Hid (Below w.heap.size w w4) := Lib.hid ((HB3.out.alloc HB3.out.size _).trans (hb4.mono (Nat.le_trans HB3.out.size (by simp))))
      clear hb4
      go_wp2_with fail
      refine (HAw.out _).mono ?_
      rintro e w5 ⟨rfl, hb5⟩
      have HB5 := Lib.hid (HB4.out.trans (hb5.mono HB4.out.size))
      clear hb5
      go_wp2_with fail
      go_ret
      exact ⟨rfl, HB5.out⟩

set_option maxRecDepth 100000 in
set_option maxHeartbeats 2000000 in
theorem found_no (n : Nat) (h1 : 1 ≤ n) (h2 : n ≤ 100) (hM : isM (n : Int) = false) (w : World) : Calls Try.prog 15 #[.int .i64 (n : Nat)] w fun e w' => e = .returned (.bool true) ∧ Below w.heap.size w w' := by
  have HFi := Lib.hid (fun W => Find_bad n hM W)
  unfold arr4 at HFi
  have HFo := Lib.hid (fun W => Four_ok n h1 h2 W)
  have HF4 := Lib.hid (fourL_four h1 h2)
  have hFl := fourL_len h1 h2
  have HAw := Lib.hid (fun W => awake_any W)
  obtain ⟨ha, hlex, hpar⟩ := four_all h1 h2
  have HAll := Lib.hid ha
  have HLex := Lib.hid (fun k x y => lexs_at (fourL n) k x y hlex)
  have HPar := Lib.hid hpar
  have HCmp := Lib.hid (fun v u a b W hv hu (hl : a.length = b.length) (hB : lexB a b = true) => compare_any v u a b W hv hu hl (fun k h _ => lexB_first a b k hB h) (lexB_ne a b hB))
  clear ha hlex hpar hM
  generalize fourL n = L at *
  go_enter Try.func15, Try.ntmps15
  go_wp2_with fail
  refine (HFo.out _).mono ?_
  rintro e w1 ⟨v, rfl, hv, hb1⟩
  obtain ⟨ao, cap, rfl, hcap, _, hx⟩ := hv.read HF4.out (by omega)
  have HX := Lib.hid hx
  have HB1 := Lib.hid hb1
  clear hv hb1 hx HFo HF4
  go_wp2_with fail
  go_loopw [27] (fun i wr => ∃ k : Nat, k ≤ L.length ∧ i = .int .i64 (k : Nat) ∧ Below w1.heap.size w1 wr) (fun i _ => L.length - (intOf i).toNat)
  case atStart => exact ⟨0, Nat.zero_le _, rfl, Below.refl _ _⟩
  case round =>
    obtain ⟨k, hk, rfl, hb⟩ := hrel
    have HB := Lib.hid hb
    clear hb
    by_cases hlt : k < L.length
    · obtain ⟨x, hxk⟩ : ∃ x, L[k]? = some x := ⟨L[k], by simp [hlt]⟩
      obtain ⟨a, b, c, d, rfl, hel, hri, hsq⟩ := HAll.out k x hxk
      obtain ⟨g, rfl, c0, c1, c2, c3⟩ := HX.out k _ hxk
      have HXk := Lib.hid hxk
      simp only [List.getD_cons_zero, List.getD_cons_succ] at c0 c1 c2 c3
      have c0 := ck c0 HB.out
      have c1 := ck c1 HB.out
      have c2 := ck c2 HB.out
      have c3 := ck c3 HB.out
      have HEl := Lib.hid hel
      have HRi := Lib.hid hri
      have HSq := Lib.hid hsq
      have HSl := Lib.hid (sumSqF_le (a := a) (b := b) (c := c) (d := d) (fun t ht => (hel t ht).2.1))
      have HIx : Hid (∀ k, k < 4 → ∀ W, (Instr.index 43 (.agg #[.int .i64 (a : Nat), .int .i64 (b : Nat), .int .i64 (c : Nat), .int .i64 (d : Nat)]) (.int .i64 (k : Nat))).run Try.prog W = .ok (.int .i64 (selN a b c d k : Nat)) W) := Lib.hid (fun k hk W => by rw [← sel_cast]; exact idx4 a b c d k hk W)
      have HBz : Hid (Below wr.heap.size wr (wr.alloc (.cells #[.int .i64 (a : Nat), .int .i64 (b : Nat), .int .i64 (c : Nat), .int .i64 (d : Nat)] 43))) := Lib.hid ((Below.refl _ _).alloc (Nat.le_refl _) _)
      have HZ := Lib.hid (Blk.new 43 wr #[.int .i64 (a : Nat), .int .i64 (b : Nat), .int .i64 (c : Nat), .int .i64 (d : Nat)])
      clear hxk hel hri hsq
      go_wp2_with fail
      clear c0 c1 c2 c3
      generalize wr.alloc (.cells #[.int .i64 (a : Nat), .int .i64 (b : Nat), .int .i64 (c : Nat), .int .i64 (d : Nat)] 43) = wz at *
      have HBw := Lib.hid (HB.out.trans (HBz.out.mono HB.out.size))
      have z0 : ∀ t, t < 4 → wz.cell? ⟨wr.heap.size, t, none⟩ = some (.int .i64 (selN a b c d t : Nat)) := fun t ht => by
        rw [HZ.out.cell]
        match t, ht with
        | 0, _ => rfl
        | 1, _ => rfl
        | 2, _ => rfl
        | 3, _ => rfl
      have HZc := Lib.hid z0
      clear z0
      go_loop [33, 7] (fun j s => ∃ t : Nat, t ≤ 4 ∧ j = .int .i64 (t : Nat) ∧ s = .int .i64 (sumSqF a b c d t : Nat)) (fun j _ => 4 - (intOf j).toNat)
      case atStart => exact ⟨0, Nat.zero_le _, rfl, rfl⟩
      case round =>
        obtain ⟨t, ht, rfl, rfl⟩ := hrel
        have hsl := HSl.out t ht
        by_cases ht4 : t < 4
        · have hix := HIx.out t ht4
          obtain ⟨y1, y20, yodd⟩ := HEl.out t ht4
          have HS : Hid (sumSqF a b c d (t + 1) = sumSqF a b c d t + selN a b c d t * selN a b c d t) := Lib.hid rfl
          have hprev : 0 < t → selN a b c d (t - 1) ≤ selN a b c d t := fun h0 => by
            have := HRi.out (t - 1) (by omega)
            rwa [show t - 1 + 1 = t by omega] at this
          have hcell : 0 < t → wz.cell? ⟨wr.heap.size, t - 1, none⟩ = some (.int .i64 (selN a b c d (t - 1) : Nat)) := fun h0 => HZc.out (t - 1) (by omega)
          have hyM : selN a b c d t * selN a b c d t ≤ 400 := Nat.mul_le_mul y20 y20
          obtain ⟨M, hMM⟩ : ∃ M, M = selN a b c d t * selN a b c d t := ⟨_, rfl⟩
          have hyy : ((selN a b c d t : Nat) : Int) * ((selN a b c d t : Nat) : Int) = (M : Nat) := by rw [hMM]; simp
          rw [← hMM] at HS hyM
          have hrem : Int.tmod ((selN a b c d t : Nat) : Int) 2 = 1 := by rw [Int.tmod_eq_emod_of_nonneg (by omega)]; omega
          clear hMM yodd
          generalize selN a b c d t = y at *
          generalize sumSqF a b c d t = S0 at *
          by_cases ht0 : 0 < t
          · have hprev := hprev ht0
            have hcell := hcell ht0
            obtain ⟨u, hu⟩ : ∃ u, u = t - 1 := ⟨_, rfl⟩
            have hut : (t : Int) - 1 = (u : Nat) := by omega
            rw [← hu] at hprev hcell
            have hu4 : u < 4 := by omega
            clear hu
            generalize selN a b c d u = z at *
            go_wp2_with fail
            go_round
            case rel => exact ⟨t + 1, by omega, by go_num, by rw [HS.out]; go_num⟩
            case measure => (first | (simp [intOf]; done) | (simp [intOf]; omega))
          · clear hprev hcell
            go_wp2_with fail
            go_round
            case rel => exact ⟨t + 1, by omega, by go_num, by rw [HS.out]; go_num⟩
            case measure => (first | (simp [intOf]; done) | (simp [intOf]; omega))
        · have ht' : t = 4 := by omega
          subst ht'
          rw [HSq.out]
          have h4n : (((4 * n : Nat) : Int) == 4 * (n : Int)) = true := beq_iff_eq.2 (by omega)
          clear hsl HSl HSq HRi HIx
          cases k with
          | zero =>
            go_wp2_with fail
            go_quiet (fail)
            go_wp2_with fail
            go_roundw
            case rel => exact ⟨1, by omega, by go_num, below_drewN HBw.out _⟩
            case measure => (first | (simp [intOf]; done) | (simp [intOf]; omega))
          | succ u =>
            obtain ⟨x2, hx2⟩ : ∃ x, L[u]? = some x := ⟨L[u], by simp⟩
            obtain ⟨a2, b2, c2, d2, rfl, hel2, _, _⟩ := HAll.out u x2 hx2
            obtain ⟨g', hg', q0, q1, q2, q3⟩ := HX.out u _ hx2
            cases hg'
            simp only [List.getD_cons_zero, List.getD_cons_succ] at q0 q1 q2 q3
            have hlx := HLex.out u _ _ hx2 HXk.out
            have r0 := ck (ck q0 HB.out) HBz.out
            have r1 := ck (ck q1 HB.out) HBz.out
            have r2 := ck (ck q2 HB.out) HBz.out
            have r3 := ck (ck q3 HB.out) HBz.out
            have hgs : g < wz.heap.size := World.block_lt_of_cell? wz _ r0
            have hN1 := nats_four hgs r0 r1 r2 r3 ⟨by have := (hel2 0 (by omega)).2.1; simp [selN] at this; omega, by have := (hel2 1 (by omega)).2.1; simp [selN] at this; omega, by have := (hel2 2 (by omega)).2.1; simp [selN] at this; omega, by have := (hel2 3 (by omega)).2.1; simp [selN] at this; omega⟩
            have hN2 := nats_four (o := 0) HZ.out.lt (HZc.out 0 (by omega)) (HZc.out 1 (by omega)) (HZc.out 2 (by omega)) (HZc.out 3 (by omega)) ⟨by have := (HEl.out 0 (by omega)).2.1; omega, by have := (HEl.out 1 (by omega)).2.1; omega, by have := (HEl.out 2 (by omega)).2.1; omega, by have := (HEl.out 3 (by omega)).2.1; omega⟩
            have HC := Lib.hid (fun m => HCmp.out _ _ [a2, b2, c2, d2] [a, b, c, d] (wz.drewN m) (hN1.below (below_drewN (Below.refl _ _) m) (Nat.le_refl _)) (hN2.below (below_drewN (Below.refl _ _) m) (Nat.le_refl _)) rfl hlx)
            have hu : ((u + 1 : Nat) : Int) - 1 = (u : Nat) := by omega
            clear hx2 hel2 q0 q1 q2 q3 hlx hN1 hN2
            go_wp2_with fail
            go_quiet ((go_at_call 59; exact quietE (HC.out _)))
            go_wp2_with fail
            go_roundw
            case rel => exact ⟨u + 2, by omega, by go_num, below_drewN HBw.out _⟩
            case measure => (first | (simp [intOf]; done) | (simp [intOf]; omega))
    · have hkk : k = L.length := by omega
      have HBo := Lib.hid (HB1.out.trans (HB.out.mono HB1.out.size))
      clear HAll HLex HX HCmp HB HB1 hkk
      by_cases hodd : n % 2 = 1
      · have hL0 : 0 < L.length := Nat.pos_of_ne_zero (HPar.out.2 hodd)
        have hrem : Int.tmod (n : Int) 2 = 1 := by rw [Int.tmod_eq_emod_of_nonneg (by omega)]; omega
        clear HPar
        generalize L.length = ll at *
        go_wp2_with fail
        refine (HFi.out _).mono ?_
        rintro e w3 ⟨rfl, hb3⟩
        have HB3 := Lib.hid (HBo.out.trans (hb3.mono HBo.out.size))
        clear hb3
        go_wp2_with fail
        refine (HAw.out _).mono ?_
        rintro e w5 ⟨rfl, hb5⟩
        have HB5 : Hid (Below w.heap.size w w5) := Lib.hid ((HB3.out.alloc HB3.out.size _).trans (hb5.mono (Nat.le_trans HB3.out.size (by simp))))
        clear hb5
        go_wp2_with fail
        go_ret
        exact ⟨rfl, HB5.out⟩
      · have hL0 : L.length = 0 := Decidable.not_not.1 (mt HPar.out.1 hodd)
        have hrem : Int.tmod (n : Int) 2 = 0 := by rw [Int.tmod_eq_emod_of_nonneg (by omega)]; omega
        clear HPar
        rw [hL0] at *
        go_wp2_with fail
        refine (HFi.out _).mono ?_
        rintro e w3 ⟨rfl, hb3⟩
        have HB3 := Lib.hid (HBo.out.trans (hb3.mono HBo.out.size))
        clear hb3
        go_wp2_with fail
        refine (HAw.out _).mono ?_
        rintro e w5 ⟨rfl, hb5⟩
        have HB5 : Hid (Below w.heap.size w w5) := Lib.hid ((HB3.out.alloc HB3.out.size _).trans (hb5.mono (Nat.le_trans HB3.out.size (by simp))))
        clear hb5
        go_wp2_with fail
        go_ret
        exact ⟨rfl, HB5.out⟩

theorem found_good : (seqsI (1 : Nat) (0 : Nat) (0 : Nat) (0 : Nat) (0 : Nat) = true ∧ goodB 1 0 0 0 0 = true) ∧ (seqsI (3 : Nat) (0 : Nat) (1 : Nat) (1 : Nat) (1 : Nat) = true ∧ goodB 3 0 1 1 1 = true) ∧ (seqsI (5 : Nat) (1 : Nat) (1 : Nat) (12 : Nat) (13 : Nat) = true ∧ goodB 5 1 1 12 13 = true) := by decide +kernel
/-- THE LAW SignsFound. -/
theorem signsFound_law (n : Int) (w : World) : Calls Try.prog 15 #[.int .i64 n] w fun e w' => e = .returned (.bool true) ∧ Below w.heap.size w w' := by
  by_cases h : n < 1 ∨ 100 < n
  · exact found_bad n h w
  · obtain ⟨m, rfl⟩ := Int.eq_ofNat_of_zero_le (show 0 ≤ n by omega)
    by_cases h1 : m = 1
    · subst h1; exact found_m 1 0 0 0 0 (.inl rfl) find_chk.1 found_good.1.1 found_good.1.2 w
    · by_cases h3 : m = 3
      · subst h3; exact found_m 3 0 1 1 1 (.inr (.inl rfl)) find_chk.2.1 found_good.2.1.1 found_good.2.1.2 w
      · by_cases h5 : m = 5
        · subst h5; exact found_m 5 1 1 12 13 (.inr (.inr rfl)) find_chk.2.2 found_good.2.2.1 found_good.2.2.2 w
        · exact found_no m (by omega) (by omega) (by unfold isM; simp; omega) w
end Go.Proofs.Ytopmdmafameknaa
