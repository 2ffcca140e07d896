/- MirrorCounts -/
import Derived.Test.YtlnbodpdgebflaaKc
import Derived.Test.YtlnbodpdgebflaaQa
namespace Go.Proofs.Ytlnbodpdgebflaa
open Go.RowKit

theorem topK_succ (g k : Nat) : topK g (k + 1) = topK g k ++ [if kd g = 66 then 2 * (k + 1) - 1 else k + 1] := by simp [topK, List.range_succ]
theorem topK_len (g k : Nat) : (topK g k).length = k := by simp [topK]
theorem eqR_any (v v' : Value) (l : List Int) (W : World) (h : Ints W v l) (h' : Ints W v' l) : Calls Try.prog 28 #[v, v'] W fun e w' => e = .returned (.bool true) ∧ Below W.heap.size W w' := by
  have h1 := equal_any v v' l l W h h'
  rwa [eqB_refl] at h1
/-- A block of numbers, one of them made greater. -/
theorem adC_blk {W : World} {b p x : Nat} {xs : List Nat} (h : Blk 3 W b (ints (nats xs)).toArray) : Blk 3 (W.setCell ⟨b, p, none⟩ (.int .i64 ((xs.getD p 0 + x : Nat) : Int))) b (ints (nats (adC xs p x))).toArray := by
  have e : ((ints (nats xs)).toArray).setIfInBounds p (.int .i64 ((xs.getD p 0 + x : Nat) : Int)) = (ints (nats (adC xs p x))).toArray := by
    unfold adC ints nats
    simp [List.map_set]
  rw [← e]
  exact h.set _ _
theorem blk_getD {W : World} {b p : Nat} {xs : List Nat} (h : Blk 3 W b (ints (nats xs)).toArray) (hp : p < xs.length) : W.cell? ⟨b, p, none⟩ = some (.int .i64 (xs.getD p 0 : Nat)) := by
  rw [h.cell]
  simp [ints, nats, hp]
theorem blk_nats {W : World} {b n : Nat} {xs : List Nat} (h : Blk 3 W b (ints (nats xs)).toArray) (hl : xs.length = n) (hn : n ≤ 1000) (hx : ∀ x ∈ xs, x ≤ 120) : Nats W (.slice (some ⟨b, 0, none⟩) n n) xs := by
  subst hl
  refine ⟨⟨_, xs.length, by rw [ints_length, nats_length], by rw [ints_length, nats_length]; exact Nat.le_refl _, by rw [ints_length, nats_length]; omega, by unfold maxLen; omega, .inr ⟨b, 0, rfl, h.lt, fun j u hj => ?_⟩⟩, nats_I64 fun x hq => by have := hx x hq; omega⟩
  rw [Nat.zero_add, h.cell]
  simpa using hj
theorem run_makeZ (n : Nat) (hn : n ≤ 1000) (W : World) : (Instr.makeSlice 24 (.int .i64 n) (.int .i64 n)).run Try.prog W = .ok (.slice (some ⟨W.heap.size, 0, none⟩) n n) (W.alloc (.cells (ints (nats (List.replicate n 0))).toArray 3)) := by
  obtain ⟨i3, hi3, hz0, hz1, hz2⟩ := info_parts Try.info3
  have h := run_make (P := Try.prog) W 24 3 i3 (.int .i64 0) Try.underlying24 hi3 hz0 .i64 .i64 (n : Int) (n : Int) (by omega) (by omega) (by rw [hz2]; omega) (by omega)
  rw [h, hz1]
  simp only [Int.toNat_natCast]
  rw [mk_cells, show nats (List.replicate n 0) = List.replicate n 0 by simp [nats]]
/-- The block of what is made stays so under a name. -/
def zerC (n : Nat) : Array Value := (ints (nats (List.replicate n 0))).toArray

set_option maxRecDepth 100000 in
set_option maxHeartbeats 2000000 in
theorem counts_bad (k n : Int) (w : World) (hk : grpB k n = false) : Calls Try.prog 11 #[gV k n] w fun e w' => e = .returned (.bool true) ∧ Below w.heap.size w w' := by
  have HOf := Lib.hid (fun W => Of_any k n W)
  have HC := Lib.hid (fun W => Counts_bad k n W (.inl hk))
  have HAw := Lib.hid (fun W => awake_any W)
  clear hk
  go_enter Try.func11, Try.ntmps11
  go_wp2_with fail
  refine (HOf.out _).mono ?_
  rintro e w1 ⟨rfl, hb⟩
  have HG : Hid (Blk 23 w1 w.heap.size #[.int .u8 k, .int .i64 n]) := Lib.hid ((Blk.new _ _ _).below hb)
  have HB : Hid (Below w.heap.size w w1) := Lib.hid (bl1 hb)
  clear hb
  have g0 := HG.out.at0.1
  have g1 := HG.out.at0.2
  go_wp2_with fail
  clear g0 g1
  refine (HC.out _).mono ?_
  rintro e w2 ⟨rfl, hb⟩
  have HBn : Hid (Below w1.heap.size w1 w2) := Lib.hid (hb)
  have HG_n := Lib.hid (HG.out.below HBn.out)
  have HB_n := Lib.hid (HB.out.trans (HBn.out.mono HB.out.size))
  clear HG HB
  have HG := HG_n
  have HB := HB_n
  clear HG_n HB_n HBn hb
  have g0 := HG.out.at0.1
  have g1 := HG.out.at0.2
  go_wp2_with fail
  clear g0 g1
  refine (HAw.out _).mono ?_
  rintro e w3 ⟨rfl, hb⟩
  have HBn : Hid (Below w2.heap.size w2 w3) := Lib.hid (hb)
  have HG_n := Lib.hid (HG.out.below HBn.out)
  have HB_n := Lib.hid (HB.out.trans (HBn.out.mono HB.out.size))
  clear HG HB
  have HG := HG_n
  have HB := HB_n
  clear HG_n HB_n HBn hb
  have g0 := HG.out.at0.1
  have g1 := HG.out.at0.2
  go_wp2_with fail
  go_ret
  exact ⟨rfl, HB.out⟩

set_option maxRecDepth 100000 in
set_option maxHeartbeats 4000000 in
theorem counts_goodI (g : Nat) (hg : g < 17) (hk : kd g = 73) (w : World) : Calls Try.prog 11 #[gV (kd g) (nm g)] w fun e w' => e = .returned (.bool true) ∧ Below w.heap.size w w' := by
  have HOf := Lib.hid (fun W => Of_any 73 (nm g) W)
  have HVa := Lib.hid (fun W => Valid_any 73 (nm g) W)
  have hgk := grp_kn hg
  have HC := Lib.hid (fun W => Counts_ok g hg W)
  have hkI : ((kd g : Nat) : Int) = 73 := by rw [hk]; rfl
  rw [hkI] at hgk HC ⊢
  rw [hgk] at HVa
  have HAw := Lib.hid (fun W => awake_any W)
  have HEq := Lib.hid (fun v v' l W h h' => eqR_any v v' l W h h')
  obtain ⟨hc1, hc2, hc3, hc4, hc5⟩ := cts_ok hg
  have hl12 := (tx hg (show nE g - 1 < nE g by have := tE hg; omega)).2.1
  have hn12 := (tg hg).2.2.2.2.2.1
  have hn1 := (tg hg).2.2.2.2.1
  obtain ⟨q, hq⟩ : ∃ q, q = ln g (nE g - 1) + 1 := ⟨_, rfl⟩
  obtain ⟨cl, hcl⟩ : ∃ cl, cl = cntC g (nE g) q := ⟨_, rfl⟩
  rw [← hq] at HC hc1
  rw [← hcl] at HC hc1
  have hq1 : 1 ≤ q := by omega
  have hq30 : q ≤ 30 := by omega
  have hclen : cl.length = q := by rw [hcl]; simp [cntC]
  have HCLn := Lib.hid hclen
  have HCe := Lib.hid hc1
  have HRe := Lib.hid hc2
  have HTm := Lib.hid hc4
  have HTs := Lib.hid hc5
  have HCl := Lib.hid (fun v W h => clone2_any v (nats cl) W h)
  have HRv := Lib.hid (fun b c W h => reverse_any b (nats cl).length c (fun p => (nats cl).getD p 0) W h (by rw [nats_length, hclen]; exact hq1) (by rw [nats_length, hclen]; omega))
  have HLr : Hid ((nats cl).reverse = nats cl) := Lib.hid (by
    rw [hc1]
    have := congrArg nats hc2
    unfold nats at this ⊢
    rw [← List.map_reverse]; exact this)
  have HCb : Hid (∀ x ∈ nats cl, I64 x) := Lib.hid (by
    have h3 := (hc5 (topL g).length (Nat.le_refl _)).2.2.1
    rw [List.take_length, ← hc1] at h3
    exact nats_I64 fun x hx => by have := h3 x hx; omega)
  rw [nats_length, hclen] at HRv
  obtain ⟨i0, hi, hz0, hz1, hz2⟩ := info_parts Try.info3
  have hmk := fun n hn => run_makeZ n hn
  clear hcl hq hgk hkI hclen hc1 hc2 hc4 hc5 hl12
  go_enter Try.func11, Try.ntmps11
  go_wp2_with fail
  refine (HOf.out _).mono ?_
  rintro e w1 ⟨rfl, hb⟩
  have HG : Hid (Blk 23 w1 w.heap.size #[.int .u8 73, .int .i64 (nm g)]) := Lib.hid ((Blk.new _ _ _).below hb)
  have HB : Hid (Below w.heap.size w w1) := Lib.hid (bl1 hb)
  clear hb
  have g0 := HG.out.at0.1
  have g1 := HG.out.at0.2
  go_wp2_with fail
  clear g0 g1
  refine (HC.out _).mono ?_
  rintro e w2 ⟨ca, cc, rfl, hcn, hb⟩
  have HBn : Hid (Below w1.heap.size w1 w2) := Lib.hid (hb)
  have HG_n := Lib.hid (HG.out.below HBn.out)
  have HB_n := Lib.hid (HB.out.trans (HBn.out.mono HB.out.size))
  clear HG HB
  have HG := HG_n
  have HB := HB_n
  clear HG_n HB_n HBn hb
  have HCN := Lib.hid hcn
  clear hcn
  have g0 := HG.out.at0.1
  have g1 := HG.out.at0.2
  go_wp2_with fail
  clear g0 g1
  refine (HVa.out _).mono ?_
  rintro e w3 ⟨rfl, hb⟩
  have HBn : Hid (Below w2.heap.size w2 w3) := Lib.hid (hb)
  have HG_n := Lib.hid (HG.out.below HBn.out)
  have HCN_n := Lib.hid (HCN.out.below HBn.out (Nat.le_refl _))
  have HB_n := Lib.hid (HB.out.trans (HBn.out.mono HB.out.size))
  clear HG HCN HB
  have HG := HG_n
  have HCN := HCN_n
  have HB := HB_n
  clear HG_n HCN_n HB_n HBn hb
  have g0 := HG.out.at0.1
  have g1 := HG.out.at0.2
  go_wp2_with fail
  clear g0 g1
  refine (HCl.out _ _ HCN.out).mono ?_
  rintro e wc ⟨ao, c, rfl, ho, hcm, hbc⟩
  have hRI := rev_ints (l := nats cl) ho
  rw [nats_length, HCLn.out] at hRI ⊢
  rcases hRI with h0 | ⟨b, rfl, hBb, hcc, hR⟩
  · omega
  have HRs := Lib.hid hR
  clear ho hR
  go_wp2_with fail
  refine (HRv.out _ _ _ HRs.out).mono ?_
  rintro e wr0 ⟨⟨_, rfl⟩, i, hi1, hi2, hR2⟩
  have HTu : Hid (Ints wr0 (.slice (some ⟨b, 0, none⟩) q c) (nats cl)) := Lib.hid (by
    have h9 : Rst wc wr0 b (nats cl).length (fun p => (nats cl).getD p 0) i := by rw [nats_length, HCLn.out]; exact hR2
    have := h9.toInts (c := c) (by rw [nats_length, HCLn.out]; exact hi1) (by rw [nats_length, HCLn.out]; exact hq1) (by rw [nats_length, HCLn.out]; omega) (by rw [nats_length, HCLn.out]; exact hcc) hcm HCb.out
    rwa [nats_length, HCLn.out, HLr.out] at this)
  have HBr : Hid (Below w3.heap.size w3 wr0) := Lib.hid (hbc.trans (hR2.bel.mono hBb))
  have HG_n := Lib.hid (HG.out.below HBr.out)
  have HCN_n := Lib.hid (HCN.out.below HBr.out (Nat.le_refl _))
  have HB_n := Lib.hid (HB.out.trans (HBr.out.mono HB.out.size))
  clear HG HCN HB HRs hi1 hi2 hR2 hbc hcm HBr HCl HRv HLr HCb
  have HG := HG_n
  have HCN := HCN_n
  have HB := HB_n
  clear HG_n HCN_n HB_n
  go_wp2_with fail
  go_loopw [7] (fun s7 wr => ∃ k : Nat, 1 ≤ k ∧ k ≤ nm g + 1 ∧ s7 = .int .i64 k ∧ wr = wr0) (fun s7 _ => nm g + 1 - (intOf s7).toNat)
  case atStart => exact ⟨1, Nat.le_refl _, by omega, rfl, rfl⟩
  case round =>
    obtain ⟨k, hk1, hk2, rfl, rfl⟩ := hrel
    have g0 := HG.out.at0.1
    have g1 := HG.out.at0.2
    by_cases hl : k ≤ nm g
    · go_wp2_with fail
      go_roundw
      case rel => exact ⟨k + 1, by omega, by omega, by go_num, trivial⟩
      case measure => simp [intOf]; omega
    · have hd : ¬ (k : Int) ≤ (nm g : Int) := by omega
      have HT : Hid (topL g = [1, nm g - 1]) := Lib.hid (by unfold topL; rw [if_pos hk])
      have HTN : Hid (Nats (wr.alloc (.cells #[.int .i64 1, .int .i64 ((nm g : Int) - 1)] 3)) (.slice (some ⟨wr.heap.size, 0, none⟩) 2 2) (topL g)) := Lib.hid (by
        rw [HT.out]
        have e : ((nm g : Int) - 1) = ((nm g - 1 : Nat) : Int) := by omega
        rw [e]
        exact blk_nats (xs := [1, nm g - 1]) (Blk.new _ _ _) rfl (by omega) (fun x hx => by simp at hx; omega))
      have HTl : Hid ((topL g).length = 2) := Lib.hid (by rw [HT.out]; rfl)
      have hBa : Below wr.heap.size wr (wr.alloc (.cells #[.int .i64 1, .int .i64 ((nm g : Int) - 1)] 3)) := a1 _ _
      have HGa := Lib.hid (HG.out.below hBa)
      have HCNa := Lib.hid (HCN.out.below hBa (Nat.le_refl _))
      have HTua := Lib.hid (HTu.out.below hBa (Nat.le_refl _))
      have HBa := Lib.hid (HB.out.trans (hBa.mono HB.out.size))
      have hwi : IntKind.i64.wrap ((nm g : Int) - 1) = (nm g : Int) - 1 := IntWalk.i64_in _ (by omega)
      clear hBa HT HG HCN HTu HB
      go_wp2_with fail
      have hT4 : 2 ≤ 4 := by have := HTl.out; omega
      have hBw : Below (wr.alloc (.cells #[.int .i64 1, .int .i64 ((nm g : Int) - 1)] 3)).heap.size (wr.alloc (.cells #[.int .i64 1, .int .i64 ((nm g : Int) - 1)] 3)) ((wr.alloc (.cells #[.int .i64 1, .int .i64 ((nm g : Int) - 1)] 3)).alloc (.cells #[.int .i64 1] 3)) := a1 _ _
      have HW0 : Hid (Nats ((wr.alloc (.cells #[.int .i64 1, .int .i64 ((nm g : Int) - 1)] 3)).alloc (.cells #[.int .i64 1] 3)) (.slice (some ⟨wr.heap.size + 1, 0, none⟩) 1 1) (waC ((topL g).take 0))) := Lib.hid (blk_nats (xs := [1]) (blk_at (by simp)) rfl (by omega) (fun x hx => by simp at hx; omega))
      have HT0 := Lib.hid (HTN.out.below hBw (Nat.le_refl _))
      have HC0 := Lib.hid (HCNa.out.below hBw (Nat.le_refl _))
      have HU0 := Lib.hid (HTua.out.below hBw (Nat.le_refl _))
      have HB0 := Lib.hid (HBa.out.trans (hBw.mono HBa.out.size))
      clear hBw HTN HCNa HTua HBa
      go_loopw [69, 8] (fun i v W => ∃ t : Nat, t ≤ 2 ∧ i = .int .i64 t ∧ Nats W v (waC ((topL g).take t)) ∧ Nats W (.slice (some ⟨wr.heap.size, 0, none⟩) 2 2) (topL g) ∧ Nats W (.slice ca q cc) cl ∧ Ints W (.slice (some ⟨b, 0, none⟩) q c) (nats cl) ∧ Below w.heap.size w W) (fun i _ _ => 2 - (intOf i).toNat)
      case atStart => exact ⟨0, Nat.zero_le _, rfl, HW0.out, HT0.out, HC0.out, HU0.out, HB0.out⟩
      case round =>
        rename World => W2
        clear HW0 HT0 HC0 HU0 HB0
        obtain ⟨t, ht, rfl, hWa, hTo, hCn, hTu, hBb⟩ := hrel
        have HWa := Lib.hid hWa
        have HTo := Lib.hid hTo
        have HCn := Lib.hid hCn
        have HTu2 := Lib.hid hTu
        have HBb := Lib.hid hBb
        obtain ⟨va, vc, rfl, hvc, _, hvx⟩ := Nats.open hWa
        clear hWa hTo hCn hTu hBb
        obtain ⟨hs1, hs2, hs3, hs4⟩ := HTs.out t (by rw [HTl.out]; exact ht)
        by_cases hlt : t < 2
        · obtain ⟨_, _, e, htc, _, htx⟩ := Nats.open HTo.out
          simp only [Value.slice.injEq] at e
          obtain ⟨e1, -, e3⟩ := e
          subst e1 e3
          rw [HTl.out] at htc
          obtain ⟨tb, tof, e, hck⟩ := htx t (by rw [HTl.out]; exact hlt)
          have hkm : (topL g).getD t 0 ≤ 11 := HTm.out _ (natD_mem (by rw [HTl.out]; exact hlt))
          have HSn : Hid (waC ((topL g).take (t + 1)) = ouC (waC ((topL g).take t)) ((topL g).getD t 0) (waC ((topL g).take t)).length) := Lib.hid (by
            rw [natT_snoc' _ _ (by rw [HTl.out]; exact hlt), waC_snoc])
          have HBd := Lib.hid (hs4 (by rw [HTl.out]; exact hlt))
          have HVx := Lib.hid hvx
          clear hs4 hvx htx
          cases e
          generalize (topL g).getD t 0 = k at *
          obtain ⟨wt, hwt⟩ : ∃ wt, wt = waC ((topL g).take t) := ⟨_, rfl⟩
          rw [← hwt] at HWa HSn HBd HVx hs1 hs2 hs3 hvc ⊢
          clear hwt
          have hol := fun i => ouC_len wt k i
          have HOl := Lib.hid hol
          clear hol
          have HX3 := Lib.hid hs3
          obtain ⟨n, hn⟩ : ∃ n, n = wt.length := ⟨_, rfl⟩
          rw [← hn] at HOl HSn HBd HVx hs1 hs2 hvc ⊢
          have HNn := Lib.hid hn
          clear hn hs3
          obtain ⟨m, hm⟩ : ∃ m, m = n + k := ⟨_, rfl⟩
          have hm1 : m ≤ n + k := by omega
          have hm2 : n + k ≤ m := by omega
          have hmI : (n : Int) + (k : Int) = (m : Nat) := by omega
          have hmk1 := hmk m (by omega)
          rw [← hm] at HOl
          clear hm
          try simp only [Nat.zero_add] at hck
          go_wp2_with fail
          have HZ0 : Hid (Blk 3 (W2.alloc (.cells (ints (nats (List.replicate m 0))).toArray 3)) W2.heap.size (ints (nats (ouC wt k 0))).toArray) := Lib.hid (by
            have e : ouC wt k 0 = List.replicate m 0 := by
              have h9 := HOl.out 0
              unfold ouC at h9 ⊢
              simp only [List.range_zero, List.foldl_nil, List.length_replicate] at h9 ⊢
              rw [h9]
            rw [e]; exact Blk.new _ _ _)
          have HZB : Hid (Below W2.heap.size W2 (W2.alloc (.cells (ints (nats (List.replicate m 0))).toArray 3))) := Lib.hid (a1 _ _)
          clear hmk1 hck
          go_loopw [80] (fun i3 W3 => ∃ i : Nat, i ≤ n ∧ i3 = .int .i64 i ∧ Blk 3 W3 W2.heap.size (ints (nats (ouC wt k i))).toArray ∧ Below W2.heap.size W2 W3) (fun i3 _ => n - (intOf i3).toNat)
          case atStart => exact ⟨0, Nat.zero_le _, rfl, HZ0.out, HZB.out⟩
          case round =>
            rename World => W3
            clear HZ0 HZB
            obtain ⟨i, hi3, rfl, hK3, hB3⟩ := hrel
            have HK3 := Lib.hid hK3
            have HB3 := Lib.hid hB3
            clear hK3 hB3
            by_cases hin : i < n
            · obtain ⟨vb, vo, rfl, hvk⟩ := HVx.out i hin
              have hvk3 := ck hvk HB3.out
              have HBi := Lib.hid (fun j hj => HBd.out i hin j hj)
              have HOs := Lib.hid (ouC_succ wt k i)
              have hx120 : wt.getD i 0 ≤ 120 := HX3.out _ (natD_mem (by rw [← HNn.out]; exact hin))
              have HIl : Hid (∀ j, (inC (ouC wt k i) i (wt.getD i 0) j).length = m) := Lib.hid (fun j => by rw [inC_len, HOl.out])
              have HI0 : Hid (Blk 3 W3 W2.heap.size (ints (nats (inC (ouC wt k i) i (wt.getD i 0) 0))).toArray) := HK3
              have HIs := Lib.hid (fun j => inC_succ (ouC wt k i) i (wt.getD i 0) j)
              clear hvk
              generalize wt.getD i 0 = x at *
              generalize hoi : ouC wt k i = oi at *
              clear hoi HK3
              go_wp2_with fail
              go_loopw [87] (fun j4 W4 => ∃ j : Nat, j ≤ k + 1 ∧ j4 = .int .i64 j ∧ Blk 3 W4 W2.heap.size (ints (nats (inC oi i x j))).toArray ∧ Below W2.heap.size W2 W4) (fun j4 _ => k + 1 - (intOf j4).toNat)
              case atStart => exact ⟨0, Nat.zero_le _, rfl, HI0.out, HB3.out⟩
              case round =>
                rename World => W4
                clear HI0 HB3
                obtain ⟨j, hj, rfl, hK4, hB4⟩ := hrel
                have HK4 := Lib.hid hK4
                have HB4 := Lib.hid hB4
                clear hK4 hB4
                by_cases hjk : j < k + 1
                · have hlen := HIl.out j
                  have hij : i + j < m := by omega
                  have c4 := blk_getD HK4.out (p := i + j) (by rw [hlen]; exact hij)
                  have f4 := HK4.out.fr (i + j)
                  have hy : (inC oi i x j).getD (i + j) 0 ≤ 120 := HBi.out j (by omega) _ (natD_mem (by rw [hlen]; exact hij))
                  have HK5 : Hid (Blk 3 (W4.setCell ⟨W2.heap.size, i + j, none⟩ (.int .i64 (((inC oi i x j).getD (i + j) 0 + x : Nat) : Int))) W2.heap.size (ints (nats (inC oi i x (j + 1)))).toArray) := Lib.hid (by
                    rw [HIs.out j]; exact adC_blk HK4.out)
                  have HB5 : Hid (Below W2.heap.size W2 (W4.setCell ⟨W2.heap.size, i + j, none⟩ (.int .i64 (((inC oi i x j).getD (i + j) 0 + x : Nat) : Int)))) := Lib.hid (below_cell HB4.out (a := ⟨W2.heap.size, i + j, none⟩) (Nat.le_refl _) _)
                  generalize (inC oi i x j).getD (i + j) 0 = y at *
                  have hyx : (y : Int) + (x : Int) = ((y + x : Nat) : Int) := by omega
                  have hijI : (i : Int) + (j : Int) = ((i + j : Nat) : Int) := by omega
                  have hp1 : 0 ≤ i + j := Nat.zero_le _
                  generalize y + x = yx at *
                  generalize hp : i + j = p at *
                  clear hp
                  go_wp2_with fail
                  go_roundw
                  case rel => exact ⟨j + 1, by omega, by go_num, HK5.out, HB5.out⟩
                  case measure => simp [intOf]; omega
                · have hjj : j = k + 1 := by omega
                  have HK5 : Hid (Blk 3 W4 W2.heap.size (ints (nats (ouC wt k (i + 1)))).toArray) := Lib.hid (by rw [HOs.out, ← hjj]; exact HK4.out)
                  have hd4 : ¬ (j : Int) < (k : Int) + 1 := by omega
                  clear hjj
                  go_wp2_with fail
                  go_roundw
                  case rel => exact ⟨i + 1, by omega, by go_num, HK5.out, HB4.out⟩
                  case measure => simp [intOf]; omega
            · have hii : i = n := by omega
              have HN3 : Hid (Nats W3 (.slice (some ⟨W2.heap.size, 0, none⟩) m m) (waC ((topL g).take (t + 1)))) := Lib.hid (by
                have h9 := (HTs.out (t + 1) (by rw [HTl.out]; omega)).2.2.1
                rw [HSn.out] at h9 ⊢
                rw [← hii] at h9 ⊢
                exact blk_nats HK3.out (HOl.out i) (by omega) h9)
              clear hii
              go_wp2_with fail
              go_roundw
              case rel => exact ⟨t + 1, by omega, by go_num, HN3.out, HTo.out.below HB3.out (Nat.le_refl _), HCn.out.below HB3.out (Nat.le_refl _), HTu2.out.below HB3.out (Nat.le_refl _), HBb.out.trans (HB3.out.mono HBb.out.size)⟩
              case measure => simp [intOf]; omega
        · have htT : t = 2 := by omega
          have HWe : Hid (Nats W2 (.slice va (waC ((topL g).take t)).length vc) cl) := Lib.hid (by
            have e : (topL g).take t = topL g := by rw [htT, ← HTl.out, List.take_length]
            have h9 := HWa.out
            rw [e] at h9 ⊢
            rw [HCe.out]; exact h9)
          clear htT HWa
          generalize (waC ((topL g).take t)).length = wl at *
          go_wp2_with fail
          refine (HEq.out _ _ _ _ HCn.out HTu2.out).mono ?_
          rintro e W5 ⟨rfl, hb5⟩
          have HC5 := Lib.hid (HCn.out.below hb5 (Nat.le_refl _))
          have HW5 := Lib.hid (HWe.out.below hb5 (Nat.le_refl _))
          have HB5 := Lib.hid (HBb.out.trans (hb5.mono HBb.out.size))
          clear hb5
          go_wp2_with fail
          refine (HEq.out _ _ _ _ HC5.out HW5.out).mono ?_
          rintro e W6 ⟨rfl, hb6⟩
          have HB6 := Lib.hid (HB5.out.trans (hb6.mono HB5.out.size))
          clear hb6
          go_wp2_with fail
          refine (HAw.out _).mono ?_
          rintro e W7 ⟨rfl, hb7⟩
          have HB7 := Lib.hid (HB6.out.trans (hb7.mono HB6.out.size))
          clear hb7
          go_wp2_with fail
          go_ret
          exact ⟨rfl, HB7.out⟩

set_option maxRecDepth 100000 in
set_option maxHeartbeats 4000000 in
theorem counts_goodA (g : Nat) (hg : g < 17) (hk : kd g = 65) (w : World) : Calls Try.prog 11 #[gV (kd g) (nm g)] w fun e w' => e = .returned (.bool true) ∧ Below w.heap.size w w' := by
  have HOf := Lib.hid (fun W => Of_any 65 (nm g) W)
  have HVa := Lib.hid (fun W => Valid_any 65 (nm g) W)
  have hgk := grp_kn hg
  have HC := Lib.hid (fun W => Counts_ok g hg W)
  have hkI : ((kd g : Nat) : Int) = 65 := by rw [hk]; rfl
  rw [hkI] at hgk HC ⊢
  rw [hgk] at HVa
  have HAw := Lib.hid (fun W => awake_any W)
  have HEq := Lib.hid (fun v v' l W h h' => eqR_any v v' l W h h')
  obtain ⟨hc1, hc2, hc3, hc4, hc5⟩ := cts_ok hg
  have hl12 := (tx hg (show nE g - 1 < nE g by have := tE hg; omega)).2.1
  have hn12 := (tg hg).2.2.2.2.2.1
  have hn1 := (tg hg).2.2.2.2.1
  obtain ⟨q, hq⟩ : ∃ q, q = ln g (nE g - 1) + 1 := ⟨_, rfl⟩
  obtain ⟨cl, hcl⟩ : ∃ cl, cl = cntC g (nE g) q := ⟨_, rfl⟩
  rw [← hq] at HC hc1
  rw [← hcl] at HC hc1
  have hq1 : 1 ≤ q := by omega
  have hq30 : q ≤ 30 := by omega
  have hclen : cl.length = q := by rw [hcl]; simp [cntC]
  have HCLn := Lib.hid hclen
  have HCe := Lib.hid hc1
  have HRe := Lib.hid hc2
  have HTm := Lib.hid hc4
  have HTs := Lib.hid hc5
  have HCl := Lib.hid (fun v W h => clone2_any v (nats cl) W h)
  have HRv := Lib.hid (fun b c W h => reverse_any b (nats cl).length c (fun p => (nats cl).getD p 0) W h (by rw [nats_length, hclen]; exact hq1) (by rw [nats_length, hclen]; omega))
  have HLr : Hid ((nats cl).reverse = nats cl) := Lib.hid (by
    rw [hc1]
    have := congrArg nats hc2
    unfold nats at this ⊢
    rw [← List.map_reverse]; exact this)
  have HCb : Hid (∀ x ∈ nats cl, I64 x) := Lib.hid (by
    have h3 := (hc5 (topL g).length (Nat.le_refl _)).2.2.1
    rw [List.take_length, ← hc1] at h3
    exact nats_I64 fun x hx => by have := h3 x hx; omega)
  rw [nats_length, hclen] at HRv
  obtain ⟨i0, hi, hz0, hz1, hz2⟩ := info_parts Try.info3
  have hmk := fun n hn => run_makeZ n hn
  clear hcl hq hgk hkI hclen hc1 hc2 hc4 hc5 hl12
  go_enter Try.func11, Try.ntmps11
  go_wp2_with fail
  refine (HOf.out _).mono ?_
  rintro e w1 ⟨rfl, hb⟩
  have HG : Hid (Blk 23 w1 w.heap.size #[.int .u8 65, .int .i64 (nm g)]) := Lib.hid ((Blk.new _ _ _).below hb)
  have HB : Hid (Below w.heap.size w w1) := Lib.hid (bl1 hb)
  clear hb
  have g0 := HG.out.at0.1
  have g1 := HG.out.at0.2
  go_wp2_with fail
  clear g0 g1
  refine (HC.out _).mono ?_
  rintro e w2 ⟨ca, cc, rfl, hcn, hb⟩
  have HBn : Hid (Below w1.heap.size w1 w2) := Lib.hid (hb)
  have HG_n := Lib.hid (HG.out.below HBn.out)
  have HB_n := Lib.hid (HB.out.trans (HBn.out.mono HB.out.size))
  clear HG HB
  have HG := HG_n
  have HB := HB_n
  clear HG_n HB_n HBn hb
  have HCN := Lib.hid hcn
  clear hcn
  have g0 := HG.out.at0.1
  have g1 := HG.out.at0.2
  go_wp2_with fail
  clear g0 g1
  refine (HVa.out _).mono ?_
  rintro e w3 ⟨rfl, hb⟩
  have HBn : Hid (Below w2.heap.size w2 w3) := Lib.hid (hb)
  have HG_n := Lib.hid (HG.out.below HBn.out)
  have HCN_n := Lib.hid (HCN.out.below HBn.out (Nat.le_refl _))
  have HB_n := Lib.hid (HB.out.trans (HBn.out.mono HB.out.size))
  clear HG HCN HB
  have HG := HG_n
  have HCN := HCN_n
  have HB := HB_n
  clear HG_n HCN_n HB_n HBn hb
  have g0 := HG.out.at0.1
  have g1 := HG.out.at0.2
  go_wp2_with fail
  clear g0 g1
  refine (HCl.out _ _ HCN.out).mono ?_
  rintro e wc ⟨ao, c, rfl, ho, hcm, hbc⟩
  have hRI := rev_ints (l := nats cl) ho
  rw [nats_length, HCLn.out] at hRI ⊢
  rcases hRI with h0 | ⟨b, rfl, hBb, hcc, hR⟩
  · omega
  have HRs := Lib.hid hR
  clear ho hR
  go_wp2_with fail
  refine (HRv.out _ _ _ HRs.out).mono ?_
  rintro e wr0 ⟨⟨_, rfl⟩, i, hi1, hi2, hR2⟩
  have HTu : Hid (Ints wr0 (.slice (some ⟨b, 0, none⟩) q c) (nats cl)) := Lib.hid (by
    have h9 : Rst wc wr0 b (nats cl).length (fun p => (nats cl).getD p 0) i := by rw [nats_length, HCLn.out]; exact hR2
    have := h9.toInts (c := c) (by rw [nats_length, HCLn.out]; exact hi1) (by rw [nats_length, HCLn.out]; exact hq1) (by rw [nats_length, HCLn.out]; omega) (by rw [nats_length, HCLn.out]; exact hcc) hcm HCb.out
    rwa [nats_length, HCLn.out, HLr.out] at this)
  have HBr : Hid (Below w3.heap.size w3 wr0) := Lib.hid (hbc.trans (hR2.bel.mono hBb))
  have HG_n := Lib.hid (HG.out.below HBr.out)
  have HCN_n := Lib.hid (HCN.out.below HBr.out (Nat.le_refl _))
  have HB_n := Lib.hid (HB.out.trans (HBr.out.mono HB.out.size))
  clear HG HCN HB HRs hi1 hi2 hR2 hbc hcm HBr HCl HRv HLr HCb
  have HG := HG_n
  have HCN := HCN_n
  have HB := HB_n
  clear HG_n HCN_n HB_n
  go_wp2_with fail
  have HL0 : Hid (topL g = topK g (nm g)) := Lib.hid (by unfold topL; rw [if_neg (by rw [hk]; decide)])
  go_loopw [7, 6] (fun s7 s6 W1 => ∃ j k : Nat, j + 1 ≤ k ∧ k ≤ j + 1 ∧ j ≤ nm g ∧ s7 = .int .i64 k ∧ W1.ownsRow wr0.heap.size 3 1 s6 j (ints (nats (topK g j))) ∧ Below wr0.heap.size wr0 W1) (fun s7 _ _ => nm g + 1 - (intOf s7).toNat)
  case atStart => exact ⟨0, 1, by omega, by omega, by omega, rfl, World.ownsRow_nil _ _ _ _, Below.refl _ _⟩
  case round =>
    rename World => W1
    obtain ⟨j, k, hjk1, hjk2, hjn, rfl, hO, hB1⟩ := hrel
    obtain ⟨ta, tc, rfl⟩ := owns_form hO
    have HO := Lib.hid hO
    have HB1 := Lib.hid hB1
    clear hO hB1
    have HG1 := Lib.hid (HG.out.below HB1.out)
    have g0 := HG1.out.at0.1
    have g1 := HG1.out.at0.2
    have hW1 := HB1.out.size
    by_cases hl : k ≤ nm g
    · have HE : Hid (ints (nats (topK g (j + 1))) = ints (nats (topK g j)) ++ [.int .i64 (k : Nat)]) := Lib.hid (by
        rw [topK_succ, hk]
        have e : k = j + 1 := by omega
        subst e
        simp [ints, nats])
      go_wp2_with (first | (at_builtin; refine wpList_append_own _ rfl _ _ 24 rfl wr0.heap.size 3 i0 (.int .i64 0) 1 8 Try.underlying24 hi hz0 hz1 hz2 rfl (by decide) _ _ _ rfl (HO.out.alloc _) ⟨W1.heap.size, 0, none⟩ 1 1 [.int .i64 (k : Nat)] rfl rfl (newOne _ _ _) (oneInt _) (by unfold maxLen; omega) (by omega) (by simp; omega) ?_; intro v9 w9 hown9 hg9 _) | fail)
      have HO9 : Hid (w9.ownsRow wr0.heap.size 3 1 v9 (j + 1) (ints (nats (topK g (j + 1))))) := Lib.hid (by rw [HE.out]; exact hown9)
      have HB9 : Hid (Below wr0.heap.size wr0 w9) := Lib.hid ((HB1.out.alloc hW1 _).grown hg9 (by simp; omega) fun q e => (HO.out.lt q e).1)
      obtain ⟨a9, c9, rfl⟩ := owns_form hown9
      clear hown9 hg9
      go_roundw
      case rel => exact ⟨j + 1, k + 1, by omega, by omega, by omega, by go_num, HO9.out, HB9.out⟩
      case measure => simp [intOf]; omega
    · have hd : ¬ (k : Int) ≤ (nm g : Int) := by omega
      have hjj : j = nm g := by omega
      have HTN : Hid (Nats W1 (.slice ta j tc) (topL g)) := Lib.hid (by
        rw [HL0.out, ← hjj]
        refine Ints.of_owns (n := j) HO.out (by omega) (nats_I64 fun x hx => ?_)
        obtain ⟨i, hi, rfl⟩ := List.mem_map.1 hx
        have := List.mem_range.1 hi
        split <;> omega)
      have HTl : Hid ((topL g).length = j) := Lib.hid (by rw [HL0.out, topK_len, hjj])
      have hT4' : j ≤ 4 := by rw [← HTl.out]; exact hc3
      have HCNa := Lib.hid (HCN.out.below HB1.out (Nat.le_refl _))
      have HTua := Lib.hid (HTu.out.below HB1.out (Nat.le_refl _))
      have HBa := Lib.hid (HB.out.trans (HB1.out.mono HB.out.size))
      clear HG HCN HTu HB HO HL0 hjj
      go_wp2_with fail
      have hT4 : j ≤ 4 := by have := HTl.out; omega
      have hBw : Below W1.heap.size W1 (W1.alloc (.cells #[.int .i64 1] 3)) := a1 _ _
      have HW0 : Hid (Nats (W1.alloc (.cells #[.int .i64 1] 3)) (.slice (some ⟨W1.heap.size, 0, none⟩) 1 1) (waC ((topL g).take 0))) := Lib.hid (blk_nats (xs := [1]) (blk_at (by simp)) rfl (by omega) (fun x hx => by simp at hx; omega))
      have HT0 := Lib.hid (HTN.out.below hBw (Nat.le_refl _))
      have HC0 := Lib.hid (HCNa.out.below hBw (Nat.le_refl _))
      have HU0 := Lib.hid (HTua.out.below hBw (Nat.le_refl _))
      have HB0 := Lib.hid (HBa.out.trans (hBw.mono HBa.out.size))
      clear hBw HTN HCNa HTua HBa
      go_loopw [69, 8] (fun i v W => ∃ t : Nat, t ≤ j ∧ i = .int .i64 t ∧ Nats W v (waC ((topL g).take t)) ∧ Nats W (.slice ta j tc) (topL g) ∧ Nats W (.slice ca q cc) cl ∧ Ints W (.slice (some ⟨b, 0, none⟩) q c) (nats cl) ∧ Below w.heap.size w W) (fun i _ _ => j - (intOf i).toNat)
      case atStart => exact ⟨0, Nat.zero_le _, rfl, HW0.out, HT0.out, HC0.out, HU0.out, HB0.out⟩
      case round =>
        rename World => W2
        clear HW0 HT0 HC0 HU0 HB0
        obtain ⟨t, ht, rfl, hWa, hTo, hCn, hTu, hBb⟩ := hrel
        have HWa := Lib.hid hWa
        have HTo := Lib.hid hTo
        have HCn := Lib.hid hCn
        have HTu2 := Lib.hid hTu
        have HBb := Lib.hid hBb
        obtain ⟨va, vc, rfl, hvc, _, hvx⟩ := Nats.open hWa
        clear hWa hTo hCn hTu hBb
        obtain ⟨hs1, hs2, hs3, hs4⟩ := HTs.out t (by rw [HTl.out]; exact ht)
        by_cases hlt : t < j
        · obtain ⟨_, _, e, htc, _, htx⟩ := Nats.open HTo.out
          simp only [Value.slice.injEq] at e
          obtain ⟨e1, -, e3⟩ := e
          subst e1 e3
          rw [HTl.out] at htc
          obtain ⟨tb, tof, e, hck⟩ := htx t (by rw [HTl.out]; exact hlt)
          have hkm : (topL g).getD t 0 ≤ 11 := HTm.out _ (natD_mem (by rw [HTl.out]; exact hlt))
          have HSn : Hid (waC ((topL g).take (t + 1)) = ouC (waC ((topL g).take t)) ((topL g).getD t 0) (waC ((topL g).take t)).length) := Lib.hid (by
            rw [natT_snoc' _ _ (by rw [HTl.out]; exact hlt), waC_snoc])
          have HBd := Lib.hid (hs4 (by rw [HTl.out]; exact hlt))
          have HVx := Lib.hid hvx
          clear hs4 hvx htx
          cases e
          generalize (topL g).getD t 0 = k at *
          obtain ⟨wt, hwt⟩ : ∃ wt, wt = waC ((topL g).take t) := ⟨_, rfl⟩
          rw [← hwt] at HWa HSn HBd HVx hs1 hs2 hs3 hvc ⊢
          clear hwt
          have hol := fun i => ouC_len wt k i
          have HOl := Lib.hid hol
          clear hol
          have HX3 := Lib.hid hs3
          obtain ⟨n, hn⟩ : ∃ n, n = wt.length := ⟨_, rfl⟩
          rw [← hn] at HOl HSn HBd HVx hs1 hs2 hvc ⊢
          have HNn := Lib.hid hn
          clear hn hs3
          obtain ⟨m, hm⟩ : ∃ m, m = n + k := ⟨_, rfl⟩
          have hm1 : m ≤ n + k := by omega
          have hm2 : n + k ≤ m := by omega
          have hmI : (n : Int) + (k : Int) = (m : Nat) := by omega
          have hmk1 := hmk m (by omega)
          rw [← hm] at HOl
          clear hm
          try simp only [Nat.zero_add] at hck
          go_wp2_with fail
          have HZ0 : Hid (Blk 3 (W2.alloc (.cells (ints (nats (List.replicate m 0))).toArray 3)) W2.heap.size (ints (nats (ouC wt k 0))).toArray) := Lib.hid (by
            have e : ouC wt k 0 = List.replicate m 0 := by
              have h9 := HOl.out 0
              unfold ouC at h9 ⊢
              simp only [List.range_zero, List.foldl_nil, List.length_replicate] at h9 ⊢
              rw [h9]
            rw [e]; exact Blk.new _ _ _)
          have HZB : Hid (Below W2.heap.size W2 (W2.alloc (.cells (ints (nats (List.replicate m 0))).toArray 3))) := Lib.hid (a1 _ _)
          clear hmk1 hck
          go_loopw [80] (fun i3 W3 => ∃ i : Nat, i ≤ n ∧ i3 = .int .i64 i ∧ Blk 3 W3 W2.heap.size (ints (nats (ouC wt k i))).toArray ∧ Below W2.heap.size W2 W3) (fun i3 _ => n - (intOf i3).toNat)
          case atStart => exact ⟨0, Nat.zero_le _, rfl, HZ0.out, HZB.out⟩
          case round =>
            rename World => W3
            clear HZ0 HZB
            obtain ⟨i, hi3, rfl, hK3, hB3⟩ := hrel
            have HK3 := Lib.hid hK3
            have HB3 := Lib.hid hB3
            clear hK3 hB3
            by_cases hin : i < n
            · obtain ⟨vb, vo, rfl, hvk⟩ := HVx.out i hin
              have hvk3 := ck hvk HB3.out
              have HBi := Lib.hid (fun j hj => HBd.out i hin j hj)
              have HOs := Lib.hid (ouC_succ wt k i)
              have hx120 : wt.getD i 0 ≤ 120 := HX3.out _ (natD_mem (by rw [← HNn.out]; exact hin))
              have HIl : Hid (∀ j, (inC (ouC wt k i) i (wt.getD i 0) j).length = m) := Lib.hid (fun j => by rw [inC_len, HOl.out])
              have HI0 : Hid (Blk 3 W3 W2.heap.size (ints (nats (inC (ouC wt k i) i (wt.getD i 0) 0))).toArray) := HK3
              have HIs := Lib.hid (fun j => inC_succ (ouC wt k i) i (wt.getD i 0) j)
              clear hvk
              generalize wt.getD i 0 = x at *
              generalize hoi : ouC wt k i = oi at *
              clear hoi HK3
              go_wp2_with fail
              go_loopw [87] (fun j4 W4 => ∃ j : Nat, j ≤ k + 1 ∧ j4 = .int .i64 j ∧ Blk 3 W4 W2.heap.size (ints (nats (inC oi i x j))).toArray ∧ Below W2.heap.size W2 W4) (fun j4 _ => k + 1 - (intOf j4).toNat)
              case atStart => exact ⟨0, Nat.zero_le _, rfl, HI0.out, HB3.out⟩
              case round =>
                rename World => W4
                clear HI0 HB3
                obtain ⟨j, hj, rfl, hK4, hB4⟩ := hrel
                have HK4 := Lib.hid hK4
                have HB4 := Lib.hid hB4
                clear hK4 hB4
                by_cases hjk : j < k + 1
                · have hlen := HIl.out j
                  have hij : i + j < m := by omega
                  have c4 := blk_getD HK4.out (p := i + j) (by rw [hlen]; exact hij)
                  have f4 := HK4.out.fr (i + j)
                  have hy : (inC oi i x j).getD (i + j) 0 ≤ 120 := HBi.out j (by omega) _ (natD_mem (by rw [hlen]; exact hij))
                  have HK5 : Hid (Blk 3 (W4.setCell ⟨W2.heap.size, i + j, none⟩ (.int .i64 (((inC oi i x j).getD (i + j) 0 + x : Nat) : Int))) W2.heap.size (ints (nats (inC oi i x (j + 1)))).toArray) := Lib.hid (by
                    rw [HIs.out j]; exact adC_blk HK4.out)
                  have HB5 : Hid (Below W2.heap.size W2 (W4.setCell ⟨W2.heap.size, i + j, none⟩ (.int .i64 (((inC oi i x j).getD (i + j) 0 + x : Nat) : Int)))) := Lib.hid (below_cell HB4.out (a := ⟨W2.heap.size, i + j, none⟩) (Nat.le_refl _) _)
                  generalize (inC oi i x j).getD (i + j) 0 = y at *
                  have hyx : (y : Int) + (x : Int) = ((y + x : Nat) : Int) := by omega
                  have hijI : (i : Int) + (j : Int) = ((i + j : Nat) : Int) := by omega
                  have hp1 : 0 ≤ i + j := Nat.zero_le _
                  generalize y + x = yx at *
                  generalize hp : i + j = p at *
                  clear hp
                  go_wp2_with fail
                  go_roundw
                  case rel => exact ⟨j + 1, by omega, by go_num, HK5.out, HB5.out⟩
                  case measure => simp [intOf]; omega
                · have hjj : j = k + 1 := by omega
                  have HK5 : Hid (Blk 3 W4 W2.heap.size (ints (nats (ouC wt k (i + 1)))).toArray) := Lib.hid (by rw [HOs.out, ← hjj]; exact HK4.out)
                  have hd4 : ¬ (j : Int) < (k : Int) + 1 := by omega
                  clear hjj
                  go_wp2_with fail
                  go_roundw
                  case rel => exact ⟨i + 1, by omega, by go_num, HK5.out, HB4.out⟩
                  case measure => simp [intOf]; omega
            · have hii : i = n := by omega
              have HN3 : Hid (Nats W3 (.slice (some ⟨W2.heap.size, 0, none⟩) m m) (waC ((topL g).take (t + 1)))) := Lib.hid (by
                have h9 := (HTs.out (t + 1) (by rw [HTl.out]; omega)).2.2.1
                rw [HSn.out] at h9 ⊢
                rw [← hii] at h9 ⊢
                exact blk_nats HK3.out (HOl.out i) (by omega) h9)
              clear hii
              go_wp2_with fail
              go_roundw
              case rel => exact ⟨t + 1, by omega, by go_num, HN3.out, HTo.out.below HB3.out (Nat.le_refl _), HCn.out.below HB3.out (Nat.le_refl _), HTu2.out.below HB3.out (Nat.le_refl _), HBb.out.trans (HB3.out.mono HBb.out.size)⟩
              case measure => simp [intOf]; omega
        · have htT : t = j := by omega
          have HWe : Hid (Nats W2 (.slice va (waC ((topL g).take t)).length vc) cl) := Lib.hid (by
            have e : (topL g).take t = topL g := by rw [htT, ← HTl.out, List.take_length]
            have h9 := HWa.out
            rw [e] at h9 ⊢
            rw [HCe.out]; exact h9)
          clear htT HWa
          generalize (waC ((topL g).take t)).length = wl at *
          go_wp2_with fail
          refine (HEq.out _ _ _ _ HCn.out HTu2.out).mono ?_
          rintro e W5 ⟨rfl, hb5⟩
          have HC5 := Lib.hid (HCn.out.below hb5 (Nat.le_refl _))
          have HW5 := Lib.hid (HWe.out.below hb5 (Nat.le_refl _))
          have HB5 := Lib.hid (HBb.out.trans (hb5.mono HBb.out.size))
          clear hb5
          go_wp2_with fail
          refine (HEq.out _ _ _ _ HC5.out HW5.out).mono ?_
          rintro e W6 ⟨rfl, hb6⟩
          have HB6 := Lib.hid (HB5.out.trans (hb6.mono HB5.out.size))
          clear hb6
          go_wp2_with fail
          refine (HAw.out _).mono ?_
          rintro e W7 ⟨rfl, hb7⟩
          have HB7 := Lib.hid (HB6.out.trans (hb7.mono HB6.out.size))
          clear hb7
          go_wp2_with fail
          go_ret
          exact ⟨rfl, HB7.out⟩

set_option maxRecDepth 100000 in
set_option maxHeartbeats 4000000 in
theorem counts_goodB (g : Nat) (hg : g < 17) (hk : kd g = 66) (w : World) : Calls Try.prog 11 #[gV (kd g) (nm g)] w fun e w' => e = .returned (.bool true) ∧ Below w.heap.size w w' := by
  have HOf := Lib.hid (fun W => Of_any 66 (nm g) W)
  have HVa := Lib.hid (fun W => Valid_any 66 (nm g) W)
  have hgk := grp_kn hg
  have HC := Lib.hid (fun W => Counts_ok g hg W)
  have hkI : ((kd g : Nat) : Int) = 66 := by rw [hk]; rfl
  rw [hkI] at hgk HC ⊢
  rw [hgk] at HVa
  have HAw := Lib.hid (fun W => awake_any W)
  have HEq := Lib.hid (fun v v' l W h h' => eqR_any v v' l W h h')
  obtain ⟨hc1, hc2, hc3, hc4, hc5⟩ := cts_ok hg
  have hl12 := (tx hg (show nE g - 1 < nE g by have := tE hg; omega)).2.1
  have hn12 := (tg hg).2.2.2.2.2.1
  have hn1 := (tg hg).2.2.2.2.1
  obtain ⟨q, hq⟩ : ∃ q, q = ln g (nE g - 1) + 1 := ⟨_, rfl⟩
  obtain ⟨cl, hcl⟩ : ∃ cl, cl = cntC g (nE g) q := ⟨_, rfl⟩
  rw [← hq] at HC hc1
  rw [← hcl] at HC hc1
  have hq1 : 1 ≤ q := by omega
  have hq30 : q ≤ 30 := by omega
  have hclen : cl.length = q := by rw [hcl]; simp [cntC]
  have HCLn := Lib.hid hclen
  have HCe := Lib.hid hc1
  have HRe := Lib.hid hc2
  have HTm := Lib.hid hc4
  have HTs := Lib.hid hc5
  have HCl := Lib.hid (fun v W h => clone2_any v (nats cl) W h)
  have HRv := Lib.hid (fun b c W h => reverse_any b (nats cl).length c (fun p => (nats cl).getD p 0) W h (by rw [nats_length, hclen]; exact hq1) (by rw [nats_length, hclen]; omega))
  have HLr : Hid ((nats cl).reverse = nats cl) := Lib.hid (by
    rw [hc1]
    have := congrArg nats hc2
    unfold nats at this ⊢
    rw [← List.map_reverse]; exact this)
  have HCb : Hid (∀ x ∈ nats cl, I64 x) := Lib.hid (by
    have h3 := (hc5 (topL g).length (Nat.le_refl _)).2.2.1
    rw [List.take_length, ← hc1] at h3
    exact nats_I64 fun x hx => by have := h3 x hx; omega)
  rw [nats_length, hclen] at HRv
  obtain ⟨i0, hi, hz0, hz1, hz2⟩ := info_parts Try.info3
  have hmk := fun n hn => run_makeZ n hn
  clear hcl hq hgk hkI hclen hc1 hc2 hc4 hc5 hl12
  go_enter Try.func11, Try.ntmps11
  go_wp2_with fail
  refine (HOf.out _).mono ?_
  rintro e w1 ⟨rfl, hb⟩
  have HG : Hid (Blk 23 w1 w.heap.size #[.int .u8 66, .int .i64 (nm g)]) := Lib.hid ((Blk.new _ _ _).below hb)
  have HB : Hid (Below w.heap.size w w1) := Lib.hid (bl1 hb)
  clear hb
  have g0 := HG.out.at0.1
  have g1 := HG.out.at0.2
  go_wp2_with fail
  clear g0 g1
  refine (HC.out _).mono ?_
  rintro e w2 ⟨ca, cc, rfl, hcn, hb⟩
  have HBn : Hid (Below w1.heap.size w1 w2) := Lib.hid (hb)
  have HG_n := Lib.hid (HG.out.below HBn.out)
  have HB_n := Lib.hid (HB.out.trans (HBn.out.mono HB.out.size))
  clear HG HB
  have HG := HG_n
  have HB := HB_n
  clear HG_n HB_n HBn hb
  have HCN := Lib.hid hcn
  clear hcn
  have g0 := HG.out.at0.1
  have g1 := HG.out.at0.2
  go_wp2_with fail
  clear g0 g1
  refine (HVa.out _).mono ?_
  rintro e w3 ⟨rfl, hb⟩
  have HBn : Hid (Below w2.heap.size w2 w3) := Lib.hid (hb)
  have HG_n := Lib.hid (HG.out.below HBn.out)
  have HCN_n := Lib.hid (HCN.out.below HBn.out (Nat.le_refl _))
  have HB_n := Lib.hid (HB.out.trans (HBn.out.mono HB.out.size))
  clear HG HCN HB
  have HG := HG_n
  have HCN := HCN_n
  have HB := HB_n
  clear HG_n HCN_n HB_n HBn hb
  have g0 := HG.out.at0.1
  have g1 := HG.out.at0.2
  go_wp2_with fail
  clear g0 g1
  refine (HCl.out _ _ HCN.out).mono ?_
  rintro e wc ⟨ao, c, rfl, ho, hcm, hbc⟩
  have hRI := rev_ints (l := nats cl) ho
  rw [nats_length, HCLn.out] at hRI ⊢
  rcases hRI with h0 | ⟨b, rfl, hBb, hcc, hR⟩
  · omega
  have HRs := Lib.hid hR
  clear ho hR
  go_wp2_with fail
  refine (HRv.out _ _ _ HRs.out).mono ?_
  rintro e wr0 ⟨⟨_, rfl⟩, i, hi1, hi2, hR2⟩
  have HTu : Hid (Ints wr0 (.slice (some ⟨b, 0, none⟩) q c) (nats cl)) := Lib.hid (by
    have h9 : Rst wc wr0 b (nats cl).length (fun p => (nats cl).getD p 0) i := by rw [nats_length, HCLn.out]; exact hR2
    have := h9.toInts (c := c) (by rw [nats_length, HCLn.out]; exact hi1) (by rw [nats_length, HCLn.out]; exact hq1) (by rw [nats_length, HCLn.out]; omega) (by rw [nats_length, HCLn.out]; exact hcc) hcm HCb.out
    rwa [nats_length, HCLn.out, HLr.out] at this)
  have HBr : Hid (Below w3.heap.size w3 wr0) := Lib.hid (hbc.trans (hR2.bel.mono hBb))
  have HG_n := Lib.hid (HG.out.below HBr.out)
  have HCN_n := Lib.hid (HCN.out.below HBr.out (Nat.le_refl _))
  have HB_n := Lib.hid (HB.out.trans (HBr.out.mono HB.out.size))
  clear HG HCN HB HRs hi1 hi2 hR2 hbc hcm HBr HCl HRv HLr HCb
  have HG := HG_n
  have HCN := HCN_n
  have HB := HB_n
  clear HG_n HCN_n HB_n
  go_wp2_with fail
  have HL0 : Hid (topL g = topK g (nm g)) := Lib.hid (by unfold topL; rw [if_neg (by rw [hk]; decide)])
  go_loopw [7, 6] (fun s7 s6 W1 => ∃ j k : Nat, j + 1 ≤ k ∧ k ≤ j + 1 ∧ j ≤ nm g ∧ s7 = .int .i64 k ∧ W1.ownsRow wr0.heap.size 3 1 s6 j (ints (nats (topK g j))) ∧ Below wr0.heap.size wr0 W1) (fun s7 _ _ => nm g + 1 - (intOf s7).toNat)
  case atStart => exact ⟨0, 1, by omega, by omega, by omega, rfl, World.ownsRow_nil _ _ _ _, Below.refl _ _⟩
  case round =>
    rename World => W1
    obtain ⟨j, k, hjk1, hjk2, hjn, rfl, hO, hB1⟩ := hrel
    obtain ⟨ta, tc, rfl⟩ := owns_form hO
    have HO := Lib.hid hO
    have HB1 := Lib.hid hB1
    clear hO hB1
    have HG1 := Lib.hid (HG.out.below HB1.out)
    have g0 := HG1.out.at0.1
    have g1 := HG1.out.at0.2
    have hW1 := HB1.out.size
    by_cases hl : k ≤ nm g
    · have HE : Hid (ints (nats (topK g (j + 1))) = ints (nats (topK g j)) ++ [.int .i64 (2 * (k : Int) - 1)]) := Lib.hid (by
        rw [topK_succ, hk]
        have e : k = j + 1 := by omega
        subst e
        simp [ints, nats]; omega)
      go_wp2_with (first | (at_builtin; refine wpList_append_own _ rfl _ _ 24 rfl wr0.heap.size 3 i0 (.int .i64 0) 1 8 Try.underlying24 hi hz0 hz1 hz2 rfl (by decide) _ _ _ rfl (HO.out.alloc _) ⟨W1.heap.size, 0, none⟩ 1 1 [.int .i64 (2 * (k : Int) - 1)] rfl rfl (newOne _ _ _) (oneInt _) (by unfold maxLen; omega) (by omega) (by simp; omega) ?_; intro v9 w9 hown9 hg9 _) | fail)
      have HO9 : Hid (w9.ownsRow wr0.heap.size 3 1 v9 (j + 1) (ints (nats (topK g (j + 1))))) := Lib.hid (by rw [HE.out]; exact hown9)
      have HB9 : Hid (Below wr0.heap.size wr0 w9) := Lib.hid ((HB1.out.alloc hW1 _).grown hg9 (by simp; omega) fun q e => (HO.out.lt q e).1)
      obtain ⟨a9, c9, rfl⟩ := owns_form hown9
      clear hown9 hg9
      go_roundw
      case rel => exact ⟨j + 1, k + 1, by omega, by omega, by omega, by go_num, HO9.out, HB9.out⟩
      case measure => simp [intOf]; omega
    · have hd : ¬ (k : Int) ≤ (nm g : Int) := by omega
      have hjj : j = nm g := by omega
      have HTN : Hid (Nats W1 (.slice ta j tc) (topL g)) := Lib.hid (by
        rw [HL0.out, ← hjj]
        refine Ints.of_owns (n := j) HO.out (by omega) (nats_I64 fun x hx => ?_)
        obtain ⟨i, hi, rfl⟩ := List.mem_map.1 hx
        have := List.mem_range.1 hi
        split <;> omega)
      have HTl : Hid ((topL g).length = j) := Lib.hid (by rw [HL0.out, topK_len, hjj])
      have hT4' : j ≤ 4 := by rw [← HTl.out]; exact hc3
      have HCNa := Lib.hid (HCN.out.below HB1.out (Nat.le_refl _))
      have HTua := Lib.hid (HTu.out.below HB1.out (Nat.le_refl _))
      have HBa := Lib.hid (HB.out.trans (HB1.out.mono HB.out.size))
      clear HG HCN HTu HB HO HL0 hjj
      go_wp2_with fail
      have hT4 : j ≤ 4 := by have := HTl.out; omega
      have hBw : Below W1.heap.size W1 (W1.alloc (.cells #[.int .i64 1] 3)) := a1 _ _
      have HW0 : Hid (Nats (W1.alloc (.cells #[.int .i64 1] 3)) (.slice (some ⟨W1.heap.size, 0, none⟩) 1 1) (waC ((topL g).take 0))) := Lib.hid (blk_nats (xs := [1]) (blk_at (by simp)) rfl (by omega) (fun x hx => by simp at hx; omega))
      have HT0 := Lib.hid (HTN.out.below hBw (Nat.le_refl _))
      have HC0 := Lib.hid (HCNa.out.below hBw (Nat.le_refl _))
      have HU0 := Lib.hid (HTua.out.below hBw (Nat.le_refl _))
      have HB0 := Lib.hid (HBa.out.trans (hBw.mono HBa.out.size))
      clear hBw HTN HCNa HTua HBa
      go_loopw [69, 8] (fun i v W => ∃ t : Nat, t ≤ j ∧ i = .int .i64 t ∧ Nats W v (waC ((topL g).take t)) ∧ Nats W (.slice ta j tc) (topL g) ∧ Nats W (.slice ca q cc) cl ∧ Ints W (.slice (some ⟨b, 0, none⟩) q c) (nats cl) ∧ Below w.heap.size w W) (fun i _ _ => j - (intOf i).toNat)
      case atStart => exact ⟨0, Nat.zero_le _, rfl, HW0.out, HT0.out, HC0.out, HU0.out, HB0.out⟩
      case round =>
        rename World => W2
        clear HW0 HT0 HC0 HU0 HB0
        obtain ⟨t, ht, rfl, hWa, hTo, hCn, hTu, hBb⟩ := hrel
        have HWa := Lib.hid hWa
        have HTo := Lib.hid hTo
        have HCn := Lib.hid hCn
        have HTu2 := Lib.hid hTu
        have HBb := Lib.hid hBb
        obtain ⟨va, vc, rfl, hvc, _, hvx⟩ := Nats.open hWa
        clear hWa hTo hCn hTu hBb
        obtain ⟨hs1, hs2, hs3, hs4⟩ := HTs.out t (by rw [HTl.out]; exact ht)
        by_cases hlt : t < j
        · obtain ⟨_, _, e, htc, _, htx⟩ := Nats.open HTo.out
          simp only [Value.slice.injEq] at e
          obtain ⟨e1, -, e3⟩ := e
          subst e1 e3
          rw [HTl.out] at htc
          obtain ⟨tb, tof, e, hck⟩ := htx t (by rw [HTl.out]; exact hlt)
          have hkm : (topL g).getD t 0 ≤ 11 := HTm.out _ (natD_mem (by rw [HTl.out]; exact hlt))
          have HSn : Hid (waC ((topL g).take (t + 1)) = ouC (waC ((topL g).take t)) ((topL g).getD t 0) (waC ((topL g).take t)).length) := Lib.hid (by
            rw [natT_snoc' _ _ (by rw [HTl.out]; exact hlt), waC_snoc])
          have HBd := Lib.hid (hs4 (by rw [HTl.out]; exact hlt))
          have HVx := Lib.hid hvx
          clear hs4 hvx htx
          cases e
          generalize (topL g).getD t 0 = k at *
          obtain ⟨wt, hwt⟩ : ∃ wt, wt = waC ((topL g).take t) := ⟨_, rfl⟩
          rw [← hwt] at HWa HSn HBd HVx hs1 hs2 hs3 hvc ⊢
          clear hwt
          have hol := fun i => ouC_len wt k i
          have HOl := Lib.hid hol
          clear hol
          have HX3 := Lib.hid hs3
          obtain ⟨n, hn⟩ : ∃ n, n = wt.length := ⟨_, rfl⟩
          rw [← hn] at HOl HSn HBd HVx hs1 hs2 hvc ⊢
          have HNn := Lib.hid hn
          clear hn hs3
          obtain ⟨m, hm⟩ : ∃ m, m = n + k := ⟨_, rfl⟩
          have hm1 : m ≤ n + k := by omega
          have hm2 : n + k ≤ m := by omega
          have hmI : (n : Int) + (k : Int) = (m : Nat) := by omega
          have hmk1 := hmk m (by omega)
          rw [← hm] at HOl
          clear hm
          try simp only [Nat.zero_add] at hck
          go_wp2_with fail
          have HZ0 : Hid (Blk 3 (W2.alloc (.cells (ints (nats (List.replicate m 0))).toArray 3)) W2.heap.size (ints (nats (ouC wt k 0))).toArray) := Lib.hid (by
            have e : ouC wt k 0 = List.replicate m 0 := by
              have h9 := HOl.out 0
              unfold ouC at h9 ⊢
              simp only [List.range_zero, List.foldl_nil, List.length_replicate] at h9 ⊢
              rw [h9]
            rw [e]; exact Blk.new _ _ _)
          have HZB : Hid (Below W2.heap.size W2 (W2.alloc (.cells (ints (nats (List.replicate m 0))).toArray 3))) := Lib.hid (a1 _ _)
          clear hmk1 hck
          go_loopw [80] (fun i3 W3 => ∃ i : Nat, i ≤ n ∧ i3 = .int .i64 i ∧ Blk 3 W3 W2.heap.size (ints (nats (ouC wt k i))).toArray ∧ Below W2.heap.size W2 W3) (fun i3 _ => n - (intOf i3).toNat)
          case atStart => exact ⟨0, Nat.zero_le _, rfl, HZ0.out, HZB.out⟩
          case round =>
            rename World => W3
            clear HZ0 HZB
            obtain ⟨i, hi3, rfl, hK3, hB3⟩ := hrel
            have HK3 := Lib.hid hK3
            have HB3 := Lib.hid hB3
            clear hK3 hB3
            by_cases hin : i < n
            · obtain ⟨vb, vo, rfl, hvk⟩ := HVx.out i hin
              have hvk3 := ck hvk HB3.out
              have HBi := Lib.hid (fun j hj => HBd.out i hin j hj)
              have HOs := Lib.hid (ouC_succ wt k i)
              have hx120 : wt.getD i 0 ≤ 120 := HX3.out _ (natD_mem (by rw [← HNn.out]; exact hin))
              have HIl : Hid (∀ j, (inC (ouC wt k i) i (wt.getD i 0) j).length = m) := Lib.hid (fun j => by rw [inC_len, HOl.out])
              have HI0 : Hid (Blk 3 W3 W2.heap.size (ints (nats (inC (ouC wt k i) i (wt.getD i 0) 0))).toArray) := HK3
              have HIs := Lib.hid (fun j => inC_succ (ouC wt k i) i (wt.getD i 0) j)
              clear hvk
              generalize wt.getD i 0 = x at *
              generalize hoi : ouC wt k i = oi at *
              clear hoi HK3
              go_wp2_with fail
              go_loopw [87] (fun j4 W4 => ∃ j : Nat, j ≤ k + 1 ∧ j4 = .int .i64 j ∧ Blk 3 W4 W2.heap.size (ints (nats (inC oi i x j))).toArray ∧ Below W2.heap.size W2 W4) (fun j4 _ => k + 1 - (intOf j4).toNat)
              case atStart => exact ⟨0, Nat.zero_le _, rfl, HI0.out, HB3.out⟩
              case round =>
                rename World => W4
                clear HI0 HB3
                obtain ⟨j, hj, rfl, hK4, hB4⟩ := hrel
                have HK4 := Lib.hid hK4
                have HB4 := Lib.hid hB4
                clear hK4 hB4
                by_cases hjk : j < k + 1
                · have hlen := HIl.out j
                  have hij : i + j < m := by omega
                  have c4 := blk_getD HK4.out (p := i + j) (by rw [hlen]; exact hij)
                  have f4 := HK4.out.fr (i + j)
                  have hy : (inC oi i x j).getD (i + j) 0 ≤ 120 := HBi.out j (by omega) _ (natD_mem (by rw [hlen]; exact hij))
                  have HK5 : Hid (Blk 3 (W4.setCell ⟨W2.heap.size, i + j, none⟩ (.int .i64 (((inC oi i x j).getD (i + j) 0 + x : Nat) : Int))) W2.heap.size (ints (nats (inC oi i x (j + 1)))).toArray) := Lib.hid (by
                    rw [HIs.out j]; exact adC_blk HK4.out)
                  have HB5 : Hid (Below W2.heap.size W2 (W4.setCell ⟨W2.heap.size, i + j, none⟩ (.int .i64 (((inC oi i x j).getD (i + j) 0 + x : Nat) : Int)))) := Lib.hid (below_cell HB4.out (a := ⟨W2.heap.size, i + j, none⟩) (Nat.le_refl _) _)
                  generalize (inC oi i x j).getD (i + j) 0 = y at *
                  have hyx : (y : Int) + (x : Int) = ((y + x : Nat) : Int) := by omega
                  have hijI : (i : Int) + (j : Int) = ((i + j : Nat) : Int) := by omega
                  have hp1 : 0 ≤ i + j := Nat.zero_le _
                  generalize y + x = yx at *
                  generalize hp : i + j = p at *
                  clear hp
                  go_wp2_with fail
                  go_roundw
                  case rel => exact ⟨j + 1, by omega, by go_num, HK5.out, HB5.out⟩
                  case measure => simp [intOf]; omega
                · have hjj : j = k + 1 := by omega
                  have HK5 : Hid (Blk 3 W4 W2.heap.size (ints (nats (ouC wt k (i + 1)))).toArray) := Lib.hid (by rw [HOs.out, ← hjj]; exact HK4.out)
                  have hd4 : ¬ (j : Int) < (k : Int) + 1 := by omega
                  clear hjj
                  go_wp2_with fail
                  go_roundw
                  case rel => exact ⟨i + 1, by omega, by go_num, HK5.out, HB4.out⟩
                  case measure => simp [intOf]; omega
            · have hii : i = n := by omega
              have HN3 : Hid (Nats W3 (.slice (some ⟨W2.heap.size, 0, none⟩) m m) (waC ((topL g).take (t + 1)))) := Lib.hid (by
                have h9 := (HTs.out (t + 1) (by rw [HTl.out]; omega)).2.2.1
                rw [HSn.out] at h9 ⊢
                rw [← hii] at h9 ⊢
                exact blk_nats HK3.out (HOl.out i) (by omega) h9)
              clear hii
              go_wp2_with fail
              go_roundw
              case rel => exact ⟨t + 1, by omega, by go_num, HN3.out, HTo.out.below HB3.out (Nat.le_refl _), HCn.out.below HB3.out (Nat.le_refl _), HTu2.out.below HB3.out (Nat.le_refl _), HBb.out.trans (HB3.out.mono HBb.out.size)⟩
              case measure => simp [intOf]; omega
        · have htT : t = j := by omega
          have HWe : Hid (Nats W2 (.slice va (waC ((topL g).take t)).length vc) cl) := Lib.hid (by
            have e : (topL g).take t = topL g := by rw [htT, ← HTl.out, List.take_length]
            have h9 := HWa.out
            rw [e] at h9 ⊢
            rw [HCe.out]; exact h9)
          clear htT HWa
          generalize (waC ((topL g).take t)).length = wl at *
          go_wp2_with fail
          refine (HEq.out _ _ _ _ HCn.out HTu2.out).mono ?_
          rintro e W5 ⟨rfl, hb5⟩
          have HC5 := Lib.hid (HCn.out.below hb5 (Nat.le_refl _))
          have HW5 := Lib.hid (HWe.out.below hb5 (Nat.le_refl _))
          have HB5 := Lib.hid (HBb.out.trans (hb5.mono HBb.out.size))
          clear hb5
          go_wp2_with fail
          refine (HEq.out _ _ _ _ HC5.out HW5.out).mono ?_
          rintro e W6 ⟨rfl, hb6⟩
          have HB6 := Lib.hid (HB5.out.trans (hb6.mono HB5.out.size))
          clear hb6
          go_wp2_with fail
          refine (HAw.out _).mono ?_
          rintro e W7 ⟨rfl, hb7⟩
          have HB7 := Lib.hid (HB6.out.trans (hb7.mono HB6.out.size))
          clear hb7
          go_wp2_with fail
          go_ret
          exact ⟨rfl, HB7.out⟩

/-- THE LAW MirrorCounts. -/
theorem mirrorCounts_law (k n : Int) (w : World) : Calls Try.prog 11 #[gV k n] w fun e w' => e = .returned (.bool true) ∧ Below w.heap.size w w' := by
  by_cases hk : grpB k n = true
  · obtain ⟨g, hg, rfl, rfl⟩ := grp_of hk
    rcases kinds hg with ⟨h, _⟩ | ⟨h, _⟩ | ⟨h, _⟩
    · exact counts_goodA g hg h w
    · exact counts_goodB g hg h w
    · exact counts_goodI g hg h w
  · exact counts_bad k n w (Bool.eq_false_iff.2 hk)
end Go.Proofs.Ytlnbodpdgebflaa
