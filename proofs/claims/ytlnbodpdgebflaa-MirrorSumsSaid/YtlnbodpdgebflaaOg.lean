/- Coset -/
import Derived.Test.YtlnbodpdgebflaaOg1
namespace Go.Proofs.Ytlnbodpdgebflaa
open Go.RowKit

set_option maxHeartbeats 400000 in
theorem Coset_bad (k n : Int) (v : Value) (l : List Int) (m : Int) (w : World) (h : Ints w v l) (hb : Bad k n [l]) : Calls Try.prog 50 #[gV k n, v, .int .i64 m] w fun e w' => e = .returned (.tuple #[.slice none 0 0, .int .i64 2]) ∧ Below w.heap.size w w' := by
  obtain ⟨va, vc, rfl, _, _, _⟩ := h.open
  have HV := Lib.hid h
  clear h
  have HO := Lib.hid (fun v W h => open_bad k n v [l] W h (by simp) hb)
  clear hb
  go_enter Try.func50, Try.ntmps50
  go_wp2_with fail
  refine (HO.out _ _ (rows1 (blk_at (by simp)) ((HV.out.alloc _).alloc _))).mono ?_
  rintro e w1 ⟨rfl, hb1⟩
  have HB1 : Hid (Below w.heap.size w w1) := Lib.hid ((a2 w _ _).trans (hb1.mono (by simp; try omega)))
  clear hb1 HO
  go_wp2_with fail
  exact bodyPost_ret (results_tmp2 rfl _ _ _) rfl ⟨rfl, HB1.out⟩

set_option maxHeartbeats 1000000 in
theorem Coset_ok (g : Nat) (hg : g < 17) (v : Value) (l : List Int) (m : Nat) (hm : m < 2 ^ kM g) (w : World) (h : Ints w v l) (hw : wordB g l = true) : Calls Try.prog 50 #[gV (kd g) (nm g), v, .int .i64 (m : Nat)] w fun e w' => ∃ a c, e = .returned (.tuple #[.slice a (ln g (shB g m (folI g l))) c, .int .i64 0]) ∧ Nats w' (.slice a (ln g (shB g m (folI g l))) c) (wd g (shB g m (folI g l))) ∧ Below w.heap.size w w' := by
  have HMm := Lib.hid hm
  clear hm
  obtain ⟨va, vc, rfl, _, _, _⟩ := h.open
  have HV := Lib.hid h
  clear h
  have HO := Lib.hid (fun W b hc h => open1_ok g hg (v := .slice va l.length vc) (l := l) W b hc h hw)
  have hlt := folI_lt hg hw
  go_enter Try.func50, Try.ntmps50
  go_wp2_with fail
  refine (HO.out _ _ (blk_at (by simp)) ((HV.out.alloc _).alloc _)).mono ?_
  rintro e w1 ⟨T0, eb, eo, ec, rfl, hT, hx, hb1, hec⟩
  have HB1 : Hid (Below w.heap.size w w1) := Lib.hid ((a2 w _ _).trans (hb1.mono (by simp; try omega)))
  have HT := Lib.hid hT
  have hb0 := hb1
  clear hb1 HO hT
  have HG : Hid (Blk 28 w1 w.heap.size #[.int .u8 (kd g), .int .i64 (nm g)]) := Lib.hid ((hb0.block _ (by simp; try omega)).trans ((Blk.new _ _ _).alloc _))
  have HM := Lib.hid (fun W => mirrorsOf_any g hg W)
  have g0 := HG.out.at0.1
  have g1 := HG.out.at0.2
  clear hb0
  have hk4 := (tg hg).2.2.2.1
  go_wp2_with fail
  refine (HM.out _).mono ?_
  rintro e w2 ⟨rfl, hb2⟩
  have HB2 : Hid (Below w.heap.size w w2) := Lib.hid (HB1.out.trans (hb2.mono HB1.out.size))
  have HT2 := Lib.hid (HT.out.below hb2)
  have hx2 := ck hx hb2
  clear hb2 g0 g1 HM HG hx HT HB1
  have hm16 : m < 16 := by have h1 := HMm.out; have h2 : 2 ^ kM g ≤ 16 := Nat.pow_le_pow_right (n := 2) (by decide) hk4; omega
  have hm0 : ¬ ((m:Int) < 0) := by omega
  have hy2 := shB_lt hg m _ hlt
  obtain ⟨wb, cw, rb, cr, ws, R, C, ht⟩ := HT2.out.open hg
  have c0 := ht.c0
  have c1 := ht.c1
  have hcap := ht.cap
  obtain ⟨a, c, _, hc, hn, hlc⟩ := ht.word (shB g m (folI g l)) hy2
  have HN := Lib.hid hn
  have HSh := Lib.hid (fun n => shortest_any g m T0 hg hm16 (ln g (folI g l)) (folI g l) (w2.drewN n) rfl (HT2.out.drewN n) hlt)
  clear ht hn
  generalize hz : shB g m (folI g l) = z at *
  have HZ := Lib.hid hz
  clear hz
  generalize hy : folI g l = y at *
  have HY := Lib.hid hy
  clear hy
  generalize hkn : kM g = kn at *
  clear hkn
  have hd3 : IntKind.i64.wrap ((2:Int) ^ kn) = (2:Int) ^ kn := by have := pw_bd kn (by omega); exact i64_of (by omega) (by omega)
  have hml : ¬ ((2:Int) ^ kn ≤ (m:Int)) := by have h1 := HMm.out; have h2 := pw_cast kn; omega
  clear HMm
  go_wp2_with fail
  go_quiet ((go_at_call 84; exact quiet_eq (HSh.out _)))
  go_wp2_with fail
  refine bodyPost_ret (results_tmp2 rfl _ _ _) rfl ?_
  rw [HY.out, HZ.out]
  exact ⟨_, _, rfl, HN.out.below (below_drewN (Below.refl _ _) _) (Nat.le_refl _), below_drewN HB2.out _⟩

set_option maxHeartbeats 1000000 in
theorem Coset_out (g : Nat) (hg : g < 17) (v : Value) (l : List Int) (m : Int) (hm : m < 0 ∨ ((2 ^ kM g : Nat) : Int) ≤ m) (w : World) (h : Ints w v l) (hw : wordB g l = true) : Calls Try.prog 50 #[gV (kd g) (nm g), v, .int .i64 m] w fun e w' => e = .returned (.tuple #[.slice none 0 0, .int .i64 2]) ∧ Below w.heap.size w w' := by
  have HMm := Lib.hid hm
  clear hm
  obtain ⟨va, vc, rfl, _, _, _⟩ := h.open
  have HV := Lib.hid h
  clear h
  have HO := Lib.hid (fun W b hc h => open1_ok g hg (v := .slice va l.length vc) (l := l) W b hc h hw)
  have hlt := folI_lt hg hw
  go_enter Try.func50, Try.ntmps50
  go_wp2_with fail
  refine (HO.out _ _ (blk_at (by simp)) ((HV.out.alloc _).alloc _)).mono ?_
  rintro e w1 ⟨T0, eb, eo, ec, rfl, hT, hx, hb1, hec⟩
  have HB1 : Hid (Below w.heap.size w w1) := Lib.hid ((a2 w _ _).trans (hb1.mono (by simp; try omega)))
  have HT := Lib.hid hT
  have hb0 := hb1
  clear hb1 HO hT
  have HG : Hid (Blk 28 w1 w.heap.size #[.int .u8 (kd g), .int .i64 (nm g)]) := Lib.hid ((hb0.block _ (by simp; try omega)).trans ((Blk.new _ _ _).alloc _))
  have HM := Lib.hid (fun W => mirrorsOf_any g hg W)
  clear hb0
  have hk4 := (tg hg).2.2.2.1
  by_cases hm0 : m < 0
  · go_wp2_with fail
    exact bodyPost_ret (results_tmp2 rfl _ _ _) rfl ⟨rfl, HB1.out⟩
  · have g0 := HG.out.at0.1
    have g1 := HG.out.at0.2
    go_wp2_with fail
    refine (HM.out _).mono ?_
    rintro e w2 ⟨rfl, hb2⟩
    have HB2 : Hid (Below w.heap.size w w2) := Lib.hid (HB1.out.trans (hb2.mono HB1.out.size))
    clear hb2 HT g0 g1 HG
    generalize kM g = kn at *
    have hd3 : IntKind.i64.wrap ((2:Int) ^ kn) = (2:Int) ^ kn := by have := pw_bd kn (by omega); exact i64_of (by omega) (by omega)
    have hml : (2:Int) ^ kn ≤ m := by have h1 := HMm.out; have h2 := pw_cast kn; omega
    clear HMm
    go_wp2_with fail
    exact bodyPost_ret (results_tmp2 rfl _ _ _) rfl ⟨rfl, HB2.out⟩
end Go.Proofs.Ytlnbodpdgebflaa
