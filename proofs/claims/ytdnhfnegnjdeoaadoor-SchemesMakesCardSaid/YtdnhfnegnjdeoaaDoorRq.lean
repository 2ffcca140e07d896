/- the reference's Pairs -/
import Derived.Test.YtdnhfnegnjdeoaaDoorRt
namespace Go.Proofs.YtdnhfnegnjdeoaaDoor
open Go.RowKit Go.Shelf

def cells2 (p : Nat × Nat) : List Value := [.int .i64 (p.1 : Nat), .int .i64 (p.2 : Nat)]
def flat2 (ps : List (Nat × Nat)) : List Value := ps.flatMap cells2
theorem flat2_snoc (ps : List (Nat × Nat)) (p : Nat × Nat) : flat2 (ps ++ [p]) = flat2 ps ++ cells2 p := by simp [flat2]
theorem flat2_get (ps : List (Nat × Nat)) (k : Nat) (p : Nat × Nat) (h : ps[k]? = some p) : (flat2 ps)[k*2]? = some (.int .i64 (p.1 : Nat)) ∧ (flat2 ps)[k*2+1]? = some (.int .i64 (p.2 : Nat)) := by
  induction ps generalizing k with
  | nil => simp at h
  | cons a ps ih =>
    cases k with
    | zero => simp at h; subst h; simp [flat2, cells2]
    | succ k =>
      have := ih k (by simpa using h)
      have e : flat2 (a :: ps) = cells2 a ++ flat2 ps := by simp [flat2]
      rw [e]
      have l3 : (cells2 a).length = 2 := rfl
      rw [List.getElem?_append_right (by omega), List.getElem?_append_right (by omega), l3]
      rw [show (k+1)*2 - 2 = k*2 by omega, show (k+1)*2+1 - 2 = k*2+1 by omega]
      exact this
def qJ (a : Nat) : Nat → List (Nat × Nat)
  | 0 => []
  | d + 1 => qJ a d ++ [(a, a + 1 + d)]
def qI (n : Nat) : Nat → List (Nat × Nat)
  | 0 => []
  | a + 1 => qI n a ++ qJ a (n - (a + 1))
theorem Tryd.info88 : (Tryd.prog.info? 88).map (fun i => (i.zero, i.size, i.bytes)) = some (some (.agg #[.int .i64 0, .int .i64 0]), 2, 16) := by kernel_rfl
theorem newTwo (w : World) (x y : Value) (t : TypeId) : ∀ (j : Nat) (u : Value), [x, y][j]? = some u → (w.alloc (.cells #[x, y] t)).cell? ((⟨w.heap.size, 0, none⟩ : Addr).add j) = some u := by
  intro j u hj
  match j, hj with
  | 0, hj => simp at hj; subst hj; simp [Addr.add]
  | 1, hj => simp at hj; subst hj; simp [Addr.add]
theorem twoOne (p : Nat × Nat) : ∀ u ∈ cells2 p, u.oneCell' = true := by
  intro u hu; simp [cells2] at hu; rcases hu with rfl | rfl <;> rfl
theorem step2 {w wr w1 : World} {B m : Nat} {v : Value} {xs : List Value} {o : Obj} (hown : wr.ownsRow B 88 2 v m xs) (hnx : Below B w wr) (hB : B ≤ wr.heap.size) (hg : (wr.alloc o).grownBy w1 v.ownBlock) : Below B w w1 :=
  (hnx.alloc hB _).grown hg (by simp; omega) fun k hk => (hown.lt k hk).1
/-- A block of two numbers. -/
def C2 (w : World) (A : Nat) (x y : Nat) : Prop := w.heap[A]? = some (.cells #[.int .i64 (x : Nat), .int .i64 (y : Nat)] 88 (0, 0))
theorem C2.lt {w : World} {A x y : Nat} (h : C2 w A x y) : A < w.heap.size := lt_of_block h
theorem C2.c0 {w : World} {A x y : Nat} (h : C2 w A x y) : w.cell? ⟨A, 0, none⟩ = some (.int .i64 (x : Nat)) := by
  simp only [World.cell?, show w.heap[A]? = _ from h]; rfl
theorem C2.c1 {w : World} {A x y : Nat} (h : C2 w A x y) : w.cell? ⟨A, 1, none⟩ = some (.int .i64 (y : Nat)) := by
  simp only [World.cell?, show w.heap[A]? = _ from h]; rfl
theorem C2.new (w : World) (x y : Nat) : C2 (w.alloc (.cells #[.int .i64 (x : Nat), .int .i64 (y : Nat)] 88)) w.heap.size x y := heap_alloc_new w _
theorem C2.below {w w' : World} {A x y : Nat} (h : C2 w A x y) (hb : Below w.heap.size w w') : C2 w' A x y := (hb.block A h.lt).trans h
theorem C2.mod {w w' : World} {A x y g : Nat} (h : C2 w A x y) (hm : Mod (· = g) w w') (hg : A ≠ g) : C2 w' A x y := (hm.block A h.lt hg).trans h

def shareB (p q : Nat × Nat) : Bool := ((p.1 == q.1 || p.1 == q.2) || p.2 == q.1) || p.2 == q.2
def qP (n k : Nat) : Nat × Nat := (qI n n).getD k (0, 0)
def rpJ (n : Nat) (hs : List Nat) (i : Nat) : Nat → List Nat
  | 0 => hs
  | j + 1 => if shareB (qP n i) (qP n j) then tieL (rpJ n hs i j) i j else rpJ n hs i j
def rpI (n : Nat) : Nat → List Nat
  | 0 => List.replicate (qI n n).length 0
  | i + 1 => rpJ n (rpI n i) i i
theorem rpJ_ok {n N i : Nat} {hs : List Nat} (hN : N ≤ 16) (hi : i < N) (h : hs.length = N ∧ Bd hs) : ∀ j, j ≤ i → (rpJ n hs i j).length = N ∧ Bd (rpJ n hs i j)
  | 0, _ => h
  | j + 1, hj => by
    have := rpJ_ok (n := n) hN hi h j (by omega)
    unfold rpJ
    split
    · exact ⟨by rw [tieL_length]; exact this.1, tieL_bd this.2 (by omega) (by omega)⟩
    · exact this
theorem rpI_ok {n : Nat} (hN : (qI n n).length ≤ 16) : ∀ i, i ≤ (qI n n).length → (rpI n i).length = (qI n n).length ∧ Bd (rpI n i)
  | 0, _ => ⟨by simp [rpI], fun x hx => by rw [List.eq_of_mem_replicate hx]; decide⟩
  | i + 1, h => rpJ_ok hN (by omega) (rpI_ok hN i (by omega)) _ (Nat.le_refl _)
theorem rp_fin : ∀ n, n < 7 → 4 ≤ n → (qI n n).length ≤ 16 ∧ 1 ≤ (qI n n).length ∧ rpI n (qI n n).length = pairsL n ∧ (pairsL n).length = (qI n n).length := by decide +kernel
theorem q_len : ∀ n, n < 7 → ∀ a, a ≤ n → ∀ d, d ≤ n → (qI n a ++ qJ a d).length ≤ 100 := by decide +kernel
theorem eqYtdnhfnegnjdeoaaDoor (x y : Nat) : ((x:Int) == (y:Int)) = (x == y) := by
  by_cases h : x = y
  · subst h; rw [beq_self_eq_true, beq_self_eq_true]
  · rw [beq_eq_false_iff_ne.2 h, beq_eq_false_iff_ne.2 (fun e => h (Int.ofNat_inj.1 e))]

set_option maxRecDepth 100000 in
set_option maxHeartbeats 4000000 in
theorem rPairs_any (n : Nat) (w : World) (h4 : 4 ≤ n) (h6 : n ≤ 6) : Calls Tryd.prog 36 #[.int .i64 n] w fun e w' => ∃ v, e = .returned v ∧ Nats w' v (pairsL n) ∧ Below w.heap.size w w' := by
  obtain ⟨i0, hi0, hz0, hz1, hz2⟩ := info_parts Tryd.info88
  have HLEN := Lib.hid (fun a d ha hd => q_len n (by omega) a ha d hd)
  obtain ⟨hm16, hm1, hfin, hfl⟩ := rp_fin n (by omega) h4
  have HFIN := Lib.hid hfin
  have HFL := Lib.hid hfl
  have HROK := Lib.hid (fun i hi => rpI_ok (n := n) hm16 i hi)
  clear hfin hfl
  go_enter Tryd.func36, Tryd.ntmps36
  go_wp2_with fail
  go_loopw [3, 12] (fun s ii wr => ∃ a : Nat, a ≤ n ∧ ii = .int .i64 a ∧ wr.ownsRow w.heap.size 88 2 s (qI n a).length (flat2 (qI n a)) ∧ Below w.heap.size w wr) (fun _ ii _ => n - (intOf ii).toNat)
  case atStart => exact ⟨0, Nat.zero_le _, rfl, World.ownsRow_nil _ _ _ _, Below.refl _ _⟩
  case round =>
    obtain ⟨a, ha, rfl, hO, hb⟩ := hrel
    have HO := Lib.hid hO
    have HB := Lib.hid hb
    clear hO hb
    by_cases hat : a < n
    · have haI : (a:Int) < (n:Int) := by omega
      have h0 : Hid (qI n a = qI n a ++ qJ a 0) := Lib.hid (by rw [qJ, List.append_nil])
      go_wp2_with fail
      go_loopw [3, 5] (fun s bb wj => ∃ d : Nat, a + 1 + d ≤ n ∧ bb = .int .i64 (a + 1 + d : Nat) ∧ wj.ownsRow w.heap.size 88 2 s (qI n a ++ qJ a d).length (flat2 (qI n a ++ qJ a d)) ∧ Below w.heap.size w wj) (fun _ bb _ => n - (intOf bb).toNat)
      case atStart => exact ⟨0, by omega, by go_num, by rw [← h0.out]; exact HO.out, HB.out⟩
      case round =>
        clear HO HB
        obtain ⟨d, hd, rfl, hO, hb⟩ := hrel
        have HO := Lib.hid hO
        have HB := Lib.hid hb
        have hll := HLEN.out a d ha (by omega)
        obtain ⟨ao', c', rfl⟩ := owns_form hO
        clear hO hb
        by_cases hdt : a + 1 + d < n
        · have HST : Hid (qI n a ++ qJ a (d + 1) = (qI n a ++ qJ a d) ++ [(a, a + 1 + d)]) := Lib.hid (by rw [qJ, List.append_assoc])
          generalize qI n a ++ qJ a d = pl at *
          generalize hbd : a + 1 + d = bd at *
          have HBD := Lib.hid hbd
          clear hbd
          go_wp2_with (at_builtin; refine wpList_append_own _ rfl _ _ 87 rfl w.heap.size 88 i0 (.agg #[.int .i64 0, .int .i64 0]) 2 16 Tryd.underlying87 hi0 hz0 hz1 hz2 rfl (by decide) _ _ _ rfl (HO.out.alloc _) ⟨wr.heap.size, 0, none⟩ 1 1 (cells2 (a, bd)) rfl rfl (newTwo _ _ _ _) (twoOne _) (by unfold maxLen; omega) (by omega) (by have := HB.out.size; simp; omega) ?_)
          intro v' w1 hown' hgrow _
          have HB1 := Lib.hid (step2 HO.out HB.out HB.out.size hgrow)
          have HO1 : Hid (w1.ownsRow w.heap.size 88 2 v' (pl ++ [(a, bd)]).length (flat2 (pl ++ [(a, bd)]))) := Lib.hid (by
            rw [flat2_snoc, List.length_append]; exact hown')
          clear hown' hgrow
          go_wp2_with fail
          go_roundw
          case rel => exact ⟨d + 1, by have := HBD.out; omega, by have := HBD.out; go_num, by rw [HST.out]; exact HO1.out, HB1.out⟩
          case measure => simp [intOf]; omega
        · have hde : d = n - (a + 1) := by omega
          have HN : Hid (wr.ownsRow w.heap.size 88 2 (.slice ao' (qI n a ++ qJ a d).length c') (qI n (a + 1)).length (flat2 (qI n (a + 1)))) := Lib.hid (by
            have e : qI n (a + 1) = qI n a ++ qJ a d := by rw [qI, hde]
            rw [e]; exact HO.out)
          have hnt : ¬ (((a + 1 + d : Nat) : Int) < (n:Int)) := by omega
          clear hde HO hll
          go_wp2_with fail
          go_roundw
          case rel => exact ⟨a + 1, by omega, by go_num, HN.out, HB.out⟩
          case measure => simp [intOf]; omega
    · obtain rfl : a = n := by omega
      obtain ⟨m, hm⟩ : ∃ m, m = (qI a a).length := ⟨_, rfl⟩
      rw [← hm] at HO hm16 hm1 HFIN HFL HROK
      have HGET : Hid (∀ k, k < m → (qI a a)[k]? = some (qP a k)) := Lib.hid fun k hk => by
        rw [hm] at hk
        simp [qP, hk]
      have HR0 : Hid (rpI a 0 = List.replicate m 0) := Lib.hid (by rw [rpI, ← hm])
      obtain ⟨ao3, c3, rfl⟩ := owns_form HO.out
      obtain ⟨gl, rfl, hmc, hcells⟩ : ∃ gl, ao3 = some ⟨gl, 0, none⟩ ∧ m ≤ c3 ∧ ∀ k, k < m → wr.cell? ⟨gl, k*2, none⟩ = some (.int .i64 ((qP a k).1 : Nat)) ∧ wr.cell? ⟨gl, k*2+1, none⟩ = some (.int .i64 ((qP a k).2 : Nat)) := by
        obtain ⟨h1, h2⟩ := HO.out
        rcases h2 with ⟨_, h0⟩ | ⟨g, cap, cur, hv, _, hh, hc, _, hs, hx⟩
        · omega
        · simp only [Value.slice.injEq] at hv
          refine ⟨g, hv.1, by have := hv.2.2; omega, fun k hk => ?_⟩
          obtain ⟨f1, f2⟩ := flat2_get (qI a a) k _ (HGET.out k hk)
          rw [← hx] at f1 f2
          rw [List.getElem?_take_of_lt (by omega)] at f1 f2
          constructor
          · simp only [World.cell?, hh]; simpa using f1
          · simp only [World.cell?, hh]; simpa using f2
      have hmk := run_make22 m m (Nat.le_refl _) (by omega)
      have HCL := Lib.hid hcells
      have HZ : Hid (List.replicate m (0:Int) = nats (rpI a 0)) := Lib.hid (by rw [HR0.out]; exact zeros_nats m)
      have HBW := Lib.hid HB.out
      clear HO hcells hm HB
      go_wp2_with fail
      clear hmk
      go_loopw [34] (fun ii wi => ∃ i : Nat, i ≤ m ∧ ii = .int .i64 i ∧ NatBlk wi wr.heap.size (rpI a i) ∧ Below wr.heap.size wr wi) (fun ii _ => m - (intOf ii).toNat)
      case atStart => exact ⟨0, Nat.zero_le _, rfl, by rw [HZ.out]; exact NatBlk.start wr _, (Below.refl _ _).alloc (Nat.le_refl _) _⟩
      case round =>
        rename World => W9
        obtain ⟨i, hi, rfl, hN, hb⟩ := hrel
        have HN := Lib.hid hN
        have HB := Lib.hid hb
        by_cases hit : i < m
        · have HOK := Lib.hid (fun j hj => rpJ_ok (n := a) hm16 hit (HROK.out i hi) j hj)
          have HI1 : Hid (rpI a (i + 1) = rpJ a (rpI a i) i i) := rfl
          have h0 : Hid (rpI a i = rpJ a (rpI a i) i 0) := rfl
          obtain ⟨k1, k2⟩ := HCL.out i hit
          have k1' := ck k1 hb
          have k2' := ck k2 hb
          have hiI : (i:Int) < (m:Int) := by omega
          have hic : i ≤ c3 := by omega
          have hic2 : (i:Int) ≤ (c3:Int) := by omega
          have hi00 : (0:Int) ≤ (i:Int) := by omega
          have hba : Below wr.heap.size wr (W9.alloc (.cells #[.int .i64 ((qP a i).1 : Nat), .int .i64 ((qP a i).2 : Nat)] 88)) := hb.alloc hb.size _
          have HA := Lib.hid (C2.new W9 (qP a i).1 (qP a i).2)
          have HBa := Lib.hid hba
          have HNa := Lib.hid (hN.below ((Below.refl _ _).alloc (Nat.le_refl _) (.cells #[.int .i64 ((qP a i).1 : Nat), .int .i64 ((qP a i).2 : Nat)] 88)))
          have hne : W9.heap.size ≠ wr.heap.size := by have := lt_of_block hN; omega
          clear hN hb hba k1 k2
          generalize rpI a i = hs at *
          have HPI : Hid (qP a i = qP a i) := rfl
          obtain ⟨a1, ha1⟩ : ∃ a1, a1 = (qP a i).1 := ⟨_, rfl⟩
          obtain ⟨a2, ha2⟩ : ∃ a2, a2 = (qP a i).2 := ⟨_, rfl⟩
          rw [← ha1, ← ha2] at HA HBa HNa
          rw [← ha1] at k1'
          rw [← ha2] at k2'
          have HAA : Hid (a1 = (qP a i).1 ∧ a2 = (qP a i).2) := ⟨ha1, ha2⟩
          clear ha1 ha2 HPI
          go_wp2_with fail
          go_loopw [43] (fun jj wj => ∃ j : Nat, j ≤ i ∧ jj = .int .i64 j ∧ NatBlk wj wr.heap.size (rpJ a hs i j) ∧ C2 wj W9.heap.size a1 a2 ∧ Below wr.heap.size wr wj) (fun jj _ => i - (intOf jj).toNat)
          case atStart => exact ⟨0, Nat.zero_le _, rfl, HNa.out, HA.out, HBa.out⟩
          case round =>
            clear HNa HA HBa k1' k2' HN HB
            rename World => W8
            obtain ⟨j, hj, rfl, hN, hA, hb⟩ := hrel
            by_cases hjt : j < i
            · obtain ⟨hl, hbd⟩ := HOK.out j hj
              have HST : Hid (rpJ a hs i (j + 1) = if shareB (qP a i) (qP a j) then tieL (rpJ a hs i j) i j else rpJ a hs i j) := rfl
              obtain ⟨k1, k2⟩ := HCL.out j (by omega)
              obtain ⟨b1, hb1⟩ : ∃ b1, b1 = (qP a j).1 := ⟨_, rfl⟩
              obtain ⟨b2, hb2⟩ : ∃ b2, b2 = (qP a j).2 := ⟨_, rfl⟩
              rw [← hb1] at k1
              rw [← hb2] at k2
              have k1' := ck k1 hb
              have k2' := ck k2 hb
              have HSH : Hid (shareB (qP a i) (qP a j) = (((a1 == b1 || a1 == b2) || a2 == b1) || a2 == b2)) := Lib.hid (by rw [HAA.out.1, HAA.out.2, hb1, hb2]; rfl)
              have hal : Below W8.heap.size W8 (W8.alloc (.cells #[.int .i64 (b1 : Nat), .int .i64 (b2 : Nat)] 88)) := (Below.refl _ _).alloc (Nat.le_refl _) _
              have hA1 := hA.below hal
              have hA2 := C2.new W8 b1 b2
              have z0 := hA1.c0
              have z1 := hA1.c1
              have z2 := hA2.c0
              have z3 := hA2.c1
              have HA1 := Lib.hid hA1
              have HN1 := Lib.hid (hN.below hal)
              have HB1 := Lib.hid (hb.alloc hb.size (.cells #[.int .i64 (b1 : Nat), .int .i64 (b2 : Nat)] 88))
              have E11 := eqYtdnhfnegnjdeoaaDoor a1 b1
              have E12 := eqYtdnhfnegnjdeoaaDoor a1 b2
              have E21 := eqYtdnhfnegnjdeoaaDoor a2 b1
              have E22 := eqYtdnhfnegnjdeoaaDoor a2 b2
              have hjm : j < m := by omega
              clear hb1 hb2 k1 k2 hN hA hb hal hA1 hA2
              cases e11 : (a1 == b1) with
              | true =>
                rw [e11] at E11
                have HV : Hid (rpJ a hs i (j + 1) = tieL (rpJ a hs i j) i j) := Lib.hid (by rw [HST.out, if_pos (by rw [HSH.out]; simp [*])])
                have HC := Lib.hid (rtie_any _ _ m i j _ HN1.out hl hbd hit hjm hm16)
                clear HST HSH
                go_wp2_with fail
                refine HC.out.mono ?_
                rintro e w2 ⟨⟨rv, rfl⟩, hN2, hm2⟩
                have HN2 : Hid (NatBlk w2 wr.heap.size (rpJ a hs i (j + 1))) := Lib.hid (by rw [HV.out]; exact hN2)
                have HB2 := Lib.hid (HB1.out.trans (hm2.below HB1.out.size (fun k e => by omega)))
                have HA2 := Lib.hid (HA1.out.mod hm2 hne)
                clear hN2 hm2
                go_wp2_with fail
                go_roundw
                case rel => exact ⟨j + 1, by omega, by go_num, HN2.out, HA2.out, HB2.out⟩
                case measure => simp [intOf]; omega
              | false =>
                rw [e11] at E11
                cases e12 : (a1 == b2) with
                | true =>
                  rw [e12] at E12
                  have HV : Hid (rpJ a hs i (j + 1) = tieL (rpJ a hs i j) i j) := Lib.hid (by rw [HST.out, if_pos (by rw [HSH.out]; simp [*])])
                  have HC := Lib.hid (rtie_any _ _ m i j _ HN1.out hl hbd hit hjm hm16)
                  clear HST HSH
                  go_wp2_with fail
                  refine HC.out.mono ?_
                  rintro e w2 ⟨⟨rv, rfl⟩, hN2, hm2⟩
                  have HN2 : Hid (NatBlk w2 wr.heap.size (rpJ a hs i (j + 1))) := Lib.hid (by rw [HV.out]; exact hN2)
                  have HB2 := Lib.hid (HB1.out.trans (hm2.below HB1.out.size (fun k e => by omega)))
                  have HA2 := Lib.hid (HA1.out.mod hm2 hne)
                  clear hN2 hm2
                  go_wp2_with fail
                  go_roundw
                  case rel => exact ⟨j + 1, by omega, by go_num, HN2.out, HA2.out, HB2.out⟩
                  case measure => simp [intOf]; omega
                | false =>
                  rw [e12] at E12
                  cases e21 : (a2 == b1) with
                  | true =>
                    rw [e21] at E21
                    have HV : Hid (rpJ a hs i (j + 1) = tieL (rpJ a hs i j) i j) := Lib.hid (by rw [HST.out, if_pos (by rw [HSH.out]; simp [*])])
                    have HC := Lib.hid (rtie_any _ _ m i j _ HN1.out hl hbd hit hjm hm16)
                    clear HST HSH
                    go_wp2_with fail
                    refine HC.out.mono ?_
                    rintro e w2 ⟨⟨rv, rfl⟩, hN2, hm2⟩
                    have HN2 : Hid (NatBlk w2 wr.heap.size (rpJ a hs i (j + 1))) := Lib.hid (by rw [HV.out]; exact hN2)
                    have HB2 := Lib.hid (HB1.out.trans (hm2.below HB1.out.size (fun k e => by omega)))
                    have HA2 := Lib.hid (HA1.out.mod hm2 hne)
                    clear hN2 hm2
                    go_wp2_with fail
                    go_roundw
                    case rel => exact ⟨j + 1, by omega, by go_num, HN2.out, HA2.out, HB2.out⟩
                    case measure => simp [intOf]; omega
                  | false =>
                    rw [e21] at E21
                    cases e22 : (a2 == b2) with
                    | true =>
                      rw [e22] at E22
                      have HV : Hid (rpJ a hs i (j + 1) = tieL (rpJ a hs i j) i j) := Lib.hid (by rw [HST.out, if_pos (by rw [HSH.out]; simp [*])])
                      have HC := Lib.hid (rtie_any _ _ m i j _ HN1.out hl hbd hit hjm hm16)
                      clear HST HSH
                      go_wp2_with fail
                      refine HC.out.mono ?_
                      rintro e w2 ⟨⟨rv, rfl⟩, hN2, hm2⟩
                      have HN2 : Hid (NatBlk w2 wr.heap.size (rpJ a hs i (j + 1))) := Lib.hid (by rw [HV.out]; exact hN2)
                      have HB2 := Lib.hid (HB1.out.trans (hm2.below HB1.out.size (fun k e => by omega)))
                      have HA2 := Lib.hid (HA1.out.mod hm2 hne)
                      clear hN2 hm2
                      go_wp2_with fail
                      go_roundw
                      case rel => exact ⟨j + 1, by omega, by go_num, HN2.out, HA2.out, HB2.out⟩
                      case measure => simp [intOf]; omega
                    | false =>
                      rw [e22] at E22
                      have HV : Hid (rpJ a hs i (j + 1) = rpJ a hs i j) := Lib.hid (by rw [HST.out, if_neg (by rw [HSH.out]; simp [*])])
                      clear HST HSH
                      go_wp2_with fail
                      go_roundw
                      case rel => exact ⟨j + 1, by omega, by go_num, by rw [HV.out]; exact HN1.out, HA1.out, HB1.out⟩
                      case measure => simp [intOf]; omega
            · obtain rfl : j = i := by omega
              have HN2 : Hid (NatBlk W8 wr.heap.size (rpI a (j + 1))) := Lib.hid (by rw [HI1.out]; exact hN)
              have HB2 := Lib.hid hb
              clear hN hA hb
              go_wp2_with fail
              go_roundw
              case rel => exact ⟨j + 1, by omega, by go_num, HN2.out, HB2.out⟩
              case measure => simp [intOf]; omega
        · obtain rfl : i = m := by omega
          have HV : Hid (Nats W9 (.slice (some ⟨wr.heap.size, 0, none⟩) i i) (pairsL a)) := Lib.hid (by
            have h1 := hN
            rw [HFIN.out] at h1
            have := NatBlk.nats h1 (by rw [HFL.out]; omega) (fun z hz => by
              obtain ⟨x, _, rfl⟩ := List.mem_map.1 hz
              exact Nat.lt_of_lt_of_le (mk_lt _ _) (pw_nat _ (by unfold pairsL at HFL; have := HFL.out; rw [plant_length] at this; omega)).2)
            rwa [HFL.out] at this)
          have HB2 := Lib.hid (HBW.out.trans (hb.mono HBW.out.size))
          clear hN hb HN HB
          go_wp2_with fail
          go_ret
          exact ⟨_, rfl, HV.out, HB2.out⟩
end Go.Proofs.YtdnhfnegnjdeoaaDoor
