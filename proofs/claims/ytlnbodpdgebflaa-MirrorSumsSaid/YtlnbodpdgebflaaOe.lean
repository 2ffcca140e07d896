/- Falls, Below, Coset; Reverse and Back -/
import Derived.Test.YtlnbodpdgebflaaOd
import Derived.Test.YtlnbodpdgebflaaBi
namespace Go.Proofs.Ytlnbodpdgebflaa
open Go.RowKit

theorem quiet_lo {P : Program} {f : FuncId} {args : Array Value} {w : World} {n : Nat} {v : Value}
    (h : Calls P f args (w.drewN n) fun e w' => e = .returned v ∧ ∃ m, w' = (w.drewN n).drewN m) : Calls P f args (w.drewN n) fun e w'' => e = .returned v ∧ ∃ m, w'' = w.drewN m :=
  h.mono fun _ _ ⟨he, m, hm⟩ => ⟨he, n + m, by rw [hm]; exact World.drewN_drewN _ _ _⟩
/-- Does element x fall by mirror s? -/
def flB (g x s : Nat) : Bool := decide (ln g (rt g x s) < ln g x)
/-- The falls among the first k mirrors, as a set. -/
def flS (g x : Nat) : Nat → Nat
  | 0 => 0
  | k + 1 => if flB g x k then flS g x k ||| 2 ^ k else flS g x k
theorem flS_lt (g x k : Nat) : flS g x k < 2 ^ k := by
  induction k with
  | zero => exact Nat.one_pos
  | succ k ih =>
    unfold flS
    split
    · exact Nat.or_lt_two_pow (Nat.lt_of_lt_of_le ih (Nat.pow_le_pow_right (by decide) (by omega))) (Nat.pow_lt_pow_right (by decide) (by omega))
    · exact Nat.lt_of_lt_of_le ih (Nat.pow_le_pow_right (by decide) (by omega))

set_option maxHeartbeats 400000 in
theorem Falls_bad (k n : Int) (v : Value) (l : List Int) (w : World) (h : Ints w v l) (hb : Bad k n [l]) : Calls Try.prog 41 #[gV k n, v] w fun e w' => e = .returned (.tuple #[.int .i64 0, .int .i64 2]) ∧ Below w.heap.size w w' := by
  obtain ⟨va, vc, rfl, _, _, _⟩ := h.open
  have HV := Lib.hid h
  clear h
  have HO := Lib.hid (fun v W h => open_bad k n v [l] W h (by simp) hb)
  clear hb
  go_enter Try.func41, Try.ntmps41
  go_wp2_with fail
  refine (HO.out _ _ (rows1 (blk_at (by simp)) ((HV.out.alloc _).alloc _))).mono ?_
  rintro e w1 ⟨rfl, hb1⟩
  have HB1 : Hid (Below w.heap.size w w1) := Lib.hid ((a2 w _ _).trans (hb1.mono (by simp; try omega)))
  clear hb1 HO
  go_wp2_with fail
  exact bodyPost_ret (results_tmp2 rfl _ _ _) rfl ⟨rfl, HB1.out⟩

set_option maxHeartbeats 400000 in
theorem Falls_ok (g : Nat) (hg : g < 17) (v : Value) (l : List Int) (w : World) (h : Ints w v l) (hw : wordB g l = true) : Calls Try.prog 41 #[gV (kd g) (nm g), v] w fun e w' => e = .returned (.tuple #[.int .i64 (flS g (folI g l) (kM g) : Nat), .int .i64 0]) ∧ Below w.heap.size w w' := by
  obtain ⟨va, vc, rfl, _, _, _⟩ := h.open
  have HV := Lib.hid h
  clear h
  have HO := Lib.hid (fun W b hc h => open1_ok g hg (v := .slice va l.length vc) (l := l) W b hc h hw)
  have hlt := folI_lt hg hw
  go_enter Try.func41, Try.ntmps41
  go_wp2_with fail
  refine (HO.out _ _ (blk_at (by simp)) ((HV.out.alloc _).alloc _)).mono ?_
  rintro e w1 ⟨T0, eb, eo, ec, rfl, hT, hx, hb1, hec⟩
  have HB1 : Hid (Below w.heap.size w w1) := Lib.hid ((a2 w _ _).trans (hb1.mono (by simp; try omega)))
  have HT := Lib.hid hT
  have hb0 := hb1
  clear hb1 HO hT
  have HG : Hid (Blk 28 w1 w.heap.size #[.int .u8 (kd g), .int .i64 (nm g)]) := Lib.hid ((hb0.block _ (by simp; try omega)).trans ((Blk.new _ _ _).alloc _))
  have HM := Lib.hid (fun W => mirrorsOf_any g hg W)
  have g0 := HG.out.at0.1
  have g1 := HG.out.at0.2
  clear hb0
  have hk4 := (tg hg).2.2.2.1
  go_wp2_with fail
  refine (HM.out _).mono ?_
  rintro e w2 ⟨rfl, hb2⟩
  have HB2 : Hid (Below w.heap.size w w2) := Lib.hid (HB1.out.trans (hb2.mono HB1.out.size))
  have HT2 := Lib.hid (HT.out.below hb2)
  have hx2 := ck hx hb2
  clear hb2 g0 g1 HM HG hx
  have HFl := Lib.hid (fun s hs => falls_any g T0 (folI g l) s hg w2 HT2.out hlt hs)
  obtain ⟨T, hT⟩ : ∃ T, T = flS g (folI g l) (kM g) := ⟨_, rfl⟩
  have HTe := Lib.hid hT
  clear hT
  generalize hy : folI g l = y at *
  have HY := Lib.hid hy
  generalize hkn : kM g = kn at *
  have HK := Lib.hid hkn
  clear hy hkn
  go_wp2_with fail
  go_loopw [24, 9] (fun i a wr => ∃ k : Nat, k ≤ kn ∧ i = .int .i64 k ∧ a = .int .i64 (flS g y k : Nat) ∧ wr = w2) (fun i _ _ => kn - (intOf i).toNat)
  case atStart => exact ⟨0, Nat.zero_le _, rfl, rfl, rfl⟩
  case round =>
    obtain ⟨k, hk, rfl, rfl, rfl⟩ := hrel
    by_cases hl : k < kn
    · have HS : Hid (flS g y (k + 1) = if flB g y k then flS g y k ||| 2 ^ k else flS g y k) := Lib.hid rfl
      have hlt2 := flS_lt g y k
      have hp16 : 2 ^ k ≤ 16 := Nat.pow_le_pow_right (n := 2) (by decide) (show k ≤ 4 by omega)
      have HFk := Lib.hid (HFl.out k hl)
      have HFB : Hid (flB g y k = decide (ln g (rt g y k) < ln g y)) := Lib.hid rfl
      rw [← HFB.out] at HFk
      have hor : bits .or .i64 ((flS g y k : Nat) : Int) ((2:Int) ^ k) = ((flS g y k ||| 2 ^ k : Nat) : Int) := by rw [← pw_cast]; exact i64_or _ _ (by omega) (by omega)
      have hd3 : IntKind.i64.wrap ((2:Int) ^ k) = (2:Int) ^ k := by have := pw_bd k (by omega); exact i64_of (by omega) (by omega)
      clear HFB HFl
      generalize flS g y k = z at *
      cases hf : flB g y k with
      | true =>
        rw [hf] at HFk HS
        clear hf
        generalize z ||| 2 ^ k = z2 at *
        go_wp2_with fail
        refine HFk.out.mono ?_
        rintro e w3 ⟨rfl, rfl⟩
        go_wp2_with fail
        go_roundw
        case rel => exact ⟨k + 1, by omega, by go_num, by rw [HS.out]; rfl, trivial⟩
        case measure => simp [intOf]; omega
      | false =>
        rw [hf] at HFk HS
        clear hf
        go_wp2_with fail
        refine HFk.out.mono ?_
        rintro e w3 ⟨rfl, rfl⟩
        go_wp2_with fail
        go_roundw
        case rel => exact ⟨k + 1, by omega, by go_num, by rw [HS.out]; rfl, trivial⟩
        case measure => simp [intOf]; omega
    · obtain rfl : kn = k := by omega
      go_wp2_with fail
      refine bodyPost_ret (results_tmp2 rfl _ _ _) rfl ?_
      rw [HY.out, HK.out]
      exact ⟨rfl, HB2.out⟩

set_option maxHeartbeats 400000 in
theorem Below_bad (k n : Int) (v v' : Value) (l l' : List Int) (w : World) (h : Ints w v l) (h' : Ints w v' l') (hb : Bad k n [l, l']) : Calls Try.prog 46 #[gV k n, v, v'] w fun e w' => e = .returned (.tuple #[.bool false, .int .i64 2]) ∧ Below w.heap.size w w' := by
  obtain ⟨va, vc, rfl, _, _, _⟩ := h.open
  obtain ⟨va', vc', rfl, _, _, _⟩ := h'.open
  have HV := Lib.hid h
  have HV' := Lib.hid h'
  clear h h'
  have HO := Lib.hid (fun v W h => open_bad k n v [l, l'] W h (by simp) hb)
  clear hb
  go_enter Try.func46, Try.ntmps46
  go_wp2_with fail
  refine (HO.out _ _ (rows2 (blk_at (by simp)) ((HV.out.alloc _).alloc _) ((HV'.out.alloc _).alloc _))).mono ?_
  rintro e w1 ⟨rfl, hb1⟩
  have HB1 : Hid (Below w.heap.size w w1) := Lib.hid ((a2 w _ _).trans (hb1.mono (by simp; try omega)))
  clear hb1 HO
  go_wp2_with fail
  exact bodyPost_ret (results_tmp2 rfl _ _ _) rfl ⟨rfl, HB1.out⟩

set_option maxHeartbeats 400000 in
theorem Below_ok (g : Nat) (hg : g < 17) (v v' : Value) (l l' : List Int) (w : World) (h : Ints w v l) (h' : Ints w v' l') (hw : wordB g l = true) (hw' : wordB g l' = true) : Calls Try.prog 46 #[gV (kd g) (nm g), v, v'] w fun e w' => e = .returned (.tuple #[.bool (loB g (folI g l) (folI g l')), .int .i64 0]) ∧ Below w.heap.size w w' := by
  obtain ⟨va, vc, rfl, _, _, _⟩ := h.open
  obtain ⟨va', vc', rfl, _, _, _⟩ := h'.open
  have HV := Lib.hid h
  have HV' := Lib.hid h'
  clear h h'
  have HO := Lib.hid (fun W b hc h h' => open2_ok g hg (v := .slice va l.length vc) (v' := .slice va' l'.length vc') (l := l) (l' := l') W b hc h h' hw hw')
  have hlt := folI_lt hg hw
  have hlt' := folI_lt hg hw'
  go_enter Try.func46, Try.ntmps46
  go_wp2_with fail
  refine (HO.out _ _ (blk_at (by simp)) ((HV.out.alloc _).alloc _) ((HV'.out.alloc _).alloc _)).mono ?_
  rintro e w1 ⟨T0, eb, eo, ec, rfl, hT, hx, hx', hb1, hec⟩
  have HB1 : Hid (Below w.heap.size w w1) := Lib.hid ((a2 w _ _).trans (hb1.mono (by simp; try omega)))
  have HT := Lib.hid hT
  clear hb1 HO hT
  have HLo := Lib.hid (fun n => below_any g T0 (folI g l) (folI g l') hg (w1.drewN n) (HT.out.drewN n) hlt hlt')
  generalize hy : folI g l = y at *
  generalize hz : folI g l' = z at *
  have HY := Lib.hid hy
  have HZ := Lib.hid hz
  clear hy hz
  go_wp2_with fail
  go_quiet ((go_at_call 83; exact quiet_lo (HLo.out _)))
  go_wp2_with fail
  refine bodyPost_ret (results_tmp2 rfl _ _ _) rfl ?_
  rw [HY.out, HZ.out]
  exact ⟨rfl, below_drewN HB1.out _⟩
end Go.Proofs.Ytlnbodpdgebflaa
