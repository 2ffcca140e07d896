/- the reference's tie, Squares and Grid -/
import Derived.Test.YtdnhfnegnjdeoaaDoorPa
namespace Go.Proofs.YtdnhfnegnjdeoaaDoor
open Go.RowKit Go.Shelf

def tieL (hs : List Nat) (i j : Nat) : List Nat := (hs.set i (hs.getD i 0 ||| 2 ^ j)).set j ((hs.set i (hs.getD i 0 ||| 2 ^ j)).getD j 0 ||| 2 ^ i)
theorem tieL_length (hs : List Nat) (i j : Nat) : (tieL hs i j).length = hs.length := by simp [tieL]
def Bd (hs : List Nat) : Prop := ∀ x ∈ hs, x < 65536
theorem Bd.get {hs : List Nat} (h : Bd hs) (k : Nat) : hs.getD k 0 < 65536 := by
  by_cases hk : k < hs.length
  · exact h _ (natD_mem hk)
  · rw [getD_over (by omega)]; decide
theorem Bd.set {hs : List Nat} (h : Bd hs) (k : Nat) {x : Nat} (hx : x < 65536) : Bd (hs.set k x) := fun y hy => by
  rcases List.mem_or_eq_of_mem_set hy with h' | rfl
  · exact h y h'
  · exact hx
theorem or_lt {x j : Nat} (hx : x < 65536) (hj : j < 16) : x ||| 2 ^ j < 65536 := Nat.or_lt_two_pow (n := 16) hx (Nat.pow_lt_pow_right (by decide) hj)
theorem tieL_bd {hs : List Nat} (h : Bd hs) {i j : Nat} (hi : i < 16) (hj : j < 16) : Bd (tieL hs i j) := by
  have h1 := h.set i (or_lt (h.get i) hj)
  exact h1.set j (or_lt (h1.get j) hi)

set_option maxRecDepth 100000 in
set_option maxHeartbeats 1000000 in
theorem rtie_any (hs : List Nat) (g n i j : Nat) (w : World) (hN : NatBlk w g hs) (hl : hs.length = n) (hb : Bd hs) (hi : i < n) (hj : j < n) (hn : n ≤ 16) :
    Calls Tryd.prog 77 #[.slice (some ⟨g, 0, none⟩) n n, .int .i64 i, .int .i64 j] w fun e w' => (∃ v, e = .returned v) ∧ NatBlk w' g (tieL hs i j) ∧ Mod (· = g) w w' := by
  obtain ⟨c1, f1⟩ := hN.cell (k := i) (by omega)
  have hx1 := hb.get i
  have o1 := or_pw (hs.getD i 0) j hx1 (by omega)
  have hb1 := hb.set i (or_lt hx1 (show j < 16 by omega))
  have HN1 : Hid (NatBlk (w.drew.setCell ⟨g, i, none⟩ (.int .i64 (hs.getD i 0 ||| 2 ^ j : Nat))) g (hs.set i (hs.getD i 0 ||| 2 ^ j))) := Lib.hid (NatBlk.set (w := w.drew) hN i _)
  have HM1 : Hid (Mod (· = g) w (w.drew.setCell ⟨g, i, none⟩ (.int .i64 (hs.getD i 0 ||| 2 ^ j : Nat)))) := Lib.hid ((Mod.refl (· = g) w).drew.setCell (.inl rfl) _)
  obtain ⟨c2, f2⟩ := HN1.out.cell (k := j) (by rw [List.length_set]; omega)
  have hx2 := hb1.get j
  have o2 := or_pw ((hs.set i (hs.getD i 0 ||| 2 ^ j)).getD j 0) i hx2 (by omega)
  have i0 : (0:Int) ≤ (i:Int) := by omega
  have i1 : (i:Int) < (n:Int) := by omega
  have j0 : (0:Int) ≤ (j:Int) := by omega
  have j1 : (j:Int) < (n:Int) := by omega
  have w1 : IntKind.i64.wrap ((2:Int) ^ j) = (2:Int) ^ j := by have := pw_nat j (by omega); rw [← pw_cast]; exact i64_of (by omega) (by omega)
  have w2 : IntKind.i64.wrap ((2:Int) ^ i) = (2:Int) ^ i := by have := pw_nat i (by omega); rw [← pw_cast]; exact i64_of (by omega) (by omega)
  have i16 : i ≤ 16 := by omega
  have j16 : j ≤ 16 := by omega
  have HT : Hid (tieL hs i j = (hs.set i (hs.getD i 0 ||| 2 ^ j)).set j ((hs.set i (hs.getD i 0 ||| 2 ^ j)).getD j 0 ||| 2 ^ i)) := rfl
  clear hN hb hx1 hx2 hb1
  generalize hs.getD i 0 ||| 2 ^ j = x1 at *
  generalize hs.set i x1 = hs1 at *
  generalize hs1.getD j 0 ||| 2 ^ i = x2 at *
  generalize hs1.getD j 0 = y2 at *
  generalize hs.getD i 0 = y1 at *
  have HN2 : Hid (∀ w2 : World, NatBlk w2 g hs1 → NatBlk (w2.setCell ⟨g, j, none⟩ (.int .i64 (x2 : Nat))) g (hs1.set j x2)) := Lib.hid fun w2 h => h.set j _
  go_enter Tryd.func77, Tryd.ntmps77
  go_wp2_with fail
  go_cut [9] (fun _ wx => wx = w.drew.setCell ⟨g, i, none⟩ (.int .i64 (x1 : Nat)))
  case first =>
    clear c2 f2
    go_region_with (fail)
    all_goals (go_wp2_with fail; go_meet; rfl)
  case rest =>
    subst hcut
    clear c1 f1
    generalize w.drew.setCell ⟨g, i, none⟩ (.int .i64 (x1 : Nat)) = W1 at *
    go_wp2_with fail
    have HNF : Hid (NatBlk (W1.drew.setCell ⟨g, j, none⟩ (.int .i64 (x2 : Nat))) g (tieL hs i j)) := Lib.hid (by rw [HT.out]; exact HN2.out W1.drew HN1.out)
    have HMF : Hid (Mod (· = g) w (W1.drew.setCell ⟨g, j, none⟩ (.int .i64 (x2 : Nat)))) := Lib.hid (HM1.out.drew.setCell (.inl rfl) _)
    go_region_with (fail)
    all_goals
      go_wp2
      exact ⟨rfl, _, results_none rfl _ _ _, ⟨_, rfl⟩, HNF.out, HMF.out⟩

def rsqJ (p : Nat) (hs : List Nat) (i : Nat) : Nat → List Nat
  | 0 => hs
  | y + 1 => tieL (rsqJ p hs i y) i ((i + (y + 1) * (y + 1)) % p)
def rsqI (p : Nat) : Nat → List Nat
  | 0 => List.replicate p 0
  | i + 1 => rsqJ p (rsqI p i) i (p - 1)
theorem rsqJ_ok {p i : Nat} {hs : List Nat} (hp : p ≤ 16) (hi : i < p) (h : hs.length = p ∧ Bd hs) : ∀ y, (rsqJ p hs i y).length = p ∧ Bd (rsqJ p hs i y)
  | 0 => h
  | y + 1 => by
    have := rsqJ_ok hp hi h y
    have hm : (i + (y + 1) * (y + 1)) % p < p := Nat.mod_lt _ (by omega)
    exact ⟨by rw [rsqJ, tieL_length]; exact this.1, tieL_bd this.2 (by omega) (by omega)⟩
theorem rsqI_ok {p : Nat} (hp : p ≤ 16) : ∀ i, i ≤ p → (rsqI p i).length = p ∧ Bd (rsqI p i)
  | 0, _ => ⟨by simp [rsqI], fun x hx => by rw [List.eq_of_mem_replicate hx]; decide⟩
  | i + 1, h => rsqJ_ok hp (by omega) (rsqI_ok hp i (by omega)) _
theorem zeros_nats (n : Nat) : List.replicate n (0:Int) = nats (List.replicate n 0) := by simp [nats]

theorem rsq5 : rsqI 5 5 = squaresL 5 := by decide +kernel
set_option maxRecDepth 100000 in
set_option maxHeartbeats 2000000 in
theorem rSquares5_any (w : World) : Calls Tryd.prog 35 #[.int .i64 5] w fun e w' => ∃ v, e = .returned v ∧ Nats w' v (squaresL 5) ∧ Below w.heap.size w w' := by
  have hmk : ∀ W : World, (Instr.makeSlice 22 (.int .i64 5) (.int .i64 5)).run Tryd.prog W = .ok (.slice (some ⟨W.heap.size, 0, none⟩) 5 5) (W.alloc (.cells (ints (List.replicate 5 0)).toArray 3)) := run_make22 5 5 (Nat.le_refl _) (by decide)
  have HZ : Hid (List.replicate 5 (0:Int) = nats (rsqI 5 0)) := Lib.hid (zeros_nats 5)
  go_enter Tryd.func35, Tryd.ntmps35
  go_wp2_with fail
  clear hmk
  go_loopw [9] (fun ii wr => ∃ i : Nat, i ≤ 5 ∧ ii = .int .i64 i ∧ NatBlk wr w.heap.size (rsqI 5 i) ∧ Below w.heap.size w wr) (fun ii _ => 5 - (intOf ii).toNat)
  case atStart => exact ⟨0, Nat.zero_le _, rfl, by have h := NatBlk.start w (rsqI 5 0); rw [← HZ.out] at h; exact h, (Below.refl _ _).alloc (Nat.le_refl _) _⟩
  case round =>
    obtain ⟨i, hi, rfl, hN, hb⟩ := hrel
    have HN := Lib.hid hN
    have HB := Lib.hid hb
    clear hN hb
    by_cases hit : i < 5
    · have HOK := Lib.hid (rsqJ_ok (p := 5) (by decide) hit (rsqI_ok (by decide) i hi))
      have HI1 : Hid (rsqI 5 (i + 1) = rsqJ 5 (rsqI 5 i) i 4) := rfl
      have h0 : Hid (rsqI 5 i = rsqJ 5 (rsqI 5 i) i 0) := rfl
      generalize rsqI 5 i = hs at *
      have hiI : (i:Int) < 5 := by omega
      go_wp2_with fail
      go_loopw [5] (fun xx wj => ∃ y : Nat, y + 1 ≤ 5 ∧ xx = .int .i64 ((y:Int) + 1) ∧ NatBlk wj w.heap.size (rsqJ 5 hs i y) ∧ Below w.heap.size w wj) (fun xx _ => 5 - (intOf xx).toNat)
      case atStart => exact ⟨0, by decide, rfl, HN.out, HB.out⟩
      case round =>
        clear HN HB
        obtain ⟨y, hy, rfl, hN, hb⟩ := hrel
        have HN := Lib.hid hN
        have HB := Lib.hid hb
        clear hN hb
        by_cases hyt : y + 1 < 5
        · obtain ⟨x, hx⟩ : ∃ x, x = y + 1 := ⟨_, rfl⟩
          have hxc : (y:Int) + 1 = (x:Int) := by omega
          have HST : Hid (rsqJ 5 hs i x = tieL (rsqJ 5 hs i y) i ((i + x * x) % 5)) := Lib.hid (by rw [hx]; rfl)
          obtain ⟨hl, hbd⟩ := HOK.out y
          have hxx : x * x ≤ 13 * 13 := Nat.mul_le_mul (by omega) (by omega)
          have hmc : (x:Int) * x = ((x * x : Nat) : Int) := by simp
          have hac : (i:Int) + (x:Int) * x = ((i + x * x : Nat) : Int) := by rw [hmc]; rfl
          have w0 : wrap64 ((x:Int) * x) = (x:Int) * x := by rw [hmc]; exact wrap_in (by omega) (by omega)
          have w1 : wrap64 ((i:Int) + (x:Int) * x) = (i:Int) + (x:Int) * x := by rw [hac]; exact wrap_in (by omega) (by omega)
          have d3 : ((i:Int) + (x:Int) * x).tmod 5 = (((i + x * x) % 5 : Nat) : Int) := by rw [hac]; rfl
          have d4 : ((i:Int) + (x:Int) * x) % 5 = (((i + x * x) % 5 : Nat) : Int) := by rw [hac]; rfl
          have hm : (i + x * x) % 5 < 5 := Nat.mod_lt _ (by decide)
          have hge : (0:Int) ≤ (i:Int) + (x:Int) * x := by rw [hac]; omega
          have hge2 : (0:Int) ≤ (x:Int) * x := by rw [hmc]; omega
          have HC := Lib.hid (rtie_any _ _ 5 i ((i + x * x) % 5) wr HN.out hl hbd hit hm (by decide))
          have hlt2 : (x:Int) < 5 := by omega
          have hxb : x < 5 := by omega
          rw [hxc]
          clear hxx hmc hac hx hxc hyt hy hl hbd
          generalize (i + x * x) % 5 = m at *
          go_wp2_with fail
          refine HC.out.mono ?_
          rintro e w2 ⟨⟨rv, rfl⟩, hN2, hm2⟩
          have HN2 : Hid (NatBlk w2 w.heap.size (rsqJ 5 hs i x)) := Lib.hid (by rw [HST.out]; exact hN2)
          have HB2 := Lib.hid (HB.out.trans (hm2.below HB.out.size (fun k e => by omega)))
          clear hN2 hm2
          go_wp2_with fail
          go_roundw
          case rel => exact ⟨x, by omega, by go_num, HN2.out, HB2.out⟩
          case measure => simp [intOf]; omega
        · obtain rfl : y = 4 := by omega
          rw [← HI1.out] at HN
          go_wp2_with fail
          go_roundw
          case rel => exact ⟨i + 1, by omega, by go_num, HN.out, HB.out⟩
          case measure => simp [intOf]; omega
    · obtain rfl : i = 5 := by omega
      rw [rsq5] at HN
      have HV : Hid (Nats wr (.slice (some ⟨w.heap.size, 0, none⟩) 5 5) (squaresL 5)) := Lib.hid (by
        have hle : (squaresL 5).length = 5 := by unfold squaresL; rw [plant_length]
        have := NatBlk.nats HN.out (by rw [hle]; decide) (fun z hz => by
          obtain ⟨i, _, rfl⟩ := List.mem_map.1 hz
          exact Nat.lt_of_lt_of_le (mk_lt _ _) (pw_nat 5 (by decide)).2)
        rwa [hle] at this)
      clear HN
      go_wp2_with fail
      go_ret
      exact ⟨_, rfl, HV.out, HB.out⟩

theorem rsq13 : rsqI 13 13 = squaresL 13 := by decide +kernel
set_option maxRecDepth 100000 in
set_option maxHeartbeats 2000000 in
theorem rSquares13_any (w : World) : Calls Tryd.prog 35 #[.int .i64 13] w fun e w' => ∃ v, e = .returned v ∧ Nats w' v (squaresL 13) ∧ Below w.heap.size w w' := by
  have hmk : ∀ W : World, (Instr.makeSlice 22 (.int .i64 13) (.int .i64 13)).run Tryd.prog W = .ok (.slice (some ⟨W.heap.size, 0, none⟩) 13 13) (W.alloc (.cells (ints (List.replicate 13 0)).toArray 3)) := run_make22 13 13 (Nat.le_refl _) (by decide)
  have HZ : Hid (List.replicate 13 (0:Int) = nats (rsqI 13 0)) := Lib.hid (zeros_nats 13)
  go_enter Tryd.func35, Tryd.ntmps35
  go_wp2_with fail
  clear hmk
  go_loopw [9] (fun ii wr => ∃ i : Nat, i ≤ 13 ∧ ii = .int .i64 i ∧ NatBlk wr w.heap.size (rsqI 13 i) ∧ Below w.heap.size w wr) (fun ii _ => 13 - (intOf ii).toNat)
  case atStart => exact ⟨0, Nat.zero_le _, rfl, by have h := NatBlk.start w (rsqI 13 0); rw [← HZ.out] at h; exact h, (Below.refl _ _).alloc (Nat.le_refl _) _⟩
  case round =>
    obtain ⟨i, hi, rfl, hN, hb⟩ := hrel
    have HN := Lib.hid hN
    have HB := Lib.hid hb
    clear hN hb
    by_cases hit : i < 13
    · have HOK := Lib.hid (rsqJ_ok (p := 13) (by decide) hit (rsqI_ok (by decide) i hi))
      have HI1 : Hid (rsqI 13 (i + 1) = rsqJ 13 (rsqI 13 i) i 12) := rfl
      have h0 : Hid (rsqI 13 i = rsqJ 13 (rsqI 13 i) i 0) := rfl
      generalize rsqI 13 i = hs at *
      have hiI : (i:Int) < 13 := by omega
      go_wp2_with fail
      go_loopw [5] (fun xx wj => ∃ y : Nat, y + 1 ≤ 13 ∧ xx = .int .i64 ((y:Int) + 1) ∧ NatBlk wj w.heap.size (rsqJ 13 hs i y) ∧ Below w.heap.size w wj) (fun xx _ => 13 - (intOf xx).toNat)
      case atStart => exact ⟨0, by decide, rfl, HN.out, HB.out⟩
      case round =>
        clear HN HB
        obtain ⟨y, hy, rfl, hN, hb⟩ := hrel
        have HN := Lib.hid hN
        have HB := Lib.hid hb
        clear hN hb
        by_cases hyt : y + 1 < 13
        · obtain ⟨x, hx⟩ : ∃ x, x = y + 1 := ⟨_, rfl⟩
          have hxc : (y:Int) + 1 = (x:Int) := by omega
          have HST : Hid (rsqJ 13 hs i x = tieL (rsqJ 13 hs i y) i ((i + x * x) % 13)) := Lib.hid (by rw [hx]; rfl)
          obtain ⟨hl, hbd⟩ := HOK.out y
          have hxx : x * x ≤ 13 * 13 := Nat.mul_le_mul (by omega) (by omega)
          have hmc : (x:Int) * x = ((x * x : Nat) : Int) := by simp
          have hac : (i:Int) + (x:Int) * x = ((i + x * x : Nat) : Int) := by rw [hmc]; rfl
          have w0 : wrap64 ((x:Int) * x) = (x:Int) * x := by rw [hmc]; exact wrap_in (by omega) (by omega)
          have w1 : wrap64 ((i:Int) + (x:Int) * x) = (i:Int) + (x:Int) * x := by rw [hac]; exact wrap_in (by omega) (by omega)
          have d3 : ((i:Int) + (x:Int) * x).tmod 13 = (((i + x * x) % 13 : Nat) : Int) := by rw [hac]; rfl
          have d4 : ((i:Int) + (x:Int) * x) % 13 = (((i + x * x) % 13 : Nat) : Int) := by rw [hac]; rfl
          have hm : (i + x * x) % 13 < 13 := Nat.mod_lt _ (by decide)
          have hge : (0:Int) ≤ (i:Int) + (x:Int) * x := by rw [hac]; omega
          have hge2 : (0:Int) ≤ (x:Int) * x := by rw [hmc]; omega
          have HC := Lib.hid (rtie_any _ _ 13 i ((i + x * x) % 13) wr HN.out hl hbd hit hm (by decide))
          have hlt2 : (x:Int) < 13 := by omega
          have hxb : x < 13 := by omega
          rw [hxc]
          clear hxx hmc hac hx hxc hyt hy hl hbd
          generalize (i + x * x) % 13 = m at *
          go_wp2_with fail
          refine HC.out.mono ?_
          rintro e w2 ⟨⟨rv, rfl⟩, hN2, hm2⟩
          have HN2 : Hid (NatBlk w2 w.heap.size (rsqJ 13 hs i x)) := Lib.hid (by rw [HST.out]; exact hN2)
          have HB2 := Lib.hid (HB.out.trans (hm2.below HB.out.size (fun k e => by omega)))
          clear hN2 hm2
          go_wp2_with fail
          go_roundw
          case rel => exact ⟨x, by omega, by go_num, HN2.out, HB2.out⟩
          case measure => simp [intOf]; omega
        · obtain rfl : y = 12 := by omega
          rw [← HI1.out] at HN
          go_wp2_with fail
          go_roundw
          case rel => exact ⟨i + 1, by omega, by go_num, HN.out, HB.out⟩
          case measure => simp [intOf]; omega
    · obtain rfl : i = 13 := by omega
      rw [rsq13] at HN
      have HV : Hid (Nats wr (.slice (some ⟨w.heap.size, 0, none⟩) 13 13) (squaresL 13)) := Lib.hid (by
        have hle : (squaresL 13).length = 13 := by unfold squaresL; rw [plant_length]
        have := NatBlk.nats HN.out (by rw [hle]; decide) (fun z hz => by
          obtain ⟨i, _, rfl⟩ := List.mem_map.1 hz
          exact Nat.lt_of_lt_of_le (mk_lt _ _) (pw_nat 13 (by decide)).2)
        rwa [hle] at this)
      clear HN
      go_wp2_with fail
      go_ret
      exact ⟨_, rfl, HV.out, HB.out⟩

def rgrJ (n : Nat) (hs : List Nat) (i : Nat) : Nat → List Nat
  | 0 => hs
  | j + 1 => if gridF n i j then tieL (rgrJ n hs i j) i j else rgrJ n hs i j
def rgrI (n : Nat) : Nat → List Nat
  | 0 => List.replicate (n * n) 0
  | i + 1 => rgrJ n (rgrI n i) i i
theorem rgrJ_ok {n N i : Nat} {hs : List Nat} (hN : N ≤ 16) (hi : i < N) (h : hs.length = N ∧ Bd hs) : ∀ j, j ≤ i → (rgrJ n hs i j).length = N ∧ Bd (rgrJ n hs i j)
  | 0, _ => h
  | j + 1, hj => by
    have := rgrJ_ok (n := n) hN hi h j (by omega)
    unfold rgrJ
    split
    · exact ⟨by rw [tieL_length]; exact this.1, tieL_bd this.2 (by omega) (by omega)⟩
    · exact this
theorem rgrI_ok {n : Nat} (hN : n * n ≤ 16) : ∀ i, i ≤ n * n → (rgrI n i).length = n * n ∧ Bd (rgrI n i)
  | 0, _ => ⟨by simp [rgrI], fun x hx => by rw [List.eq_of_mem_replicate hx]; decide⟩
  | i + 1, h => rgrJ_ok hN (by omega) (rgrI_ok hN i (by omega)) _ (Nat.le_refl _)

theorem rgr2 : rgrI 2 4 = gridL 2 := by decide +kernel
set_option maxRecDepth 100000 in
set_option maxHeartbeats 2000000 in
theorem rGrid2_any (w : World) : Calls Tryd.prog 37 #[.int .i64 2] w fun e w' => ∃ v, e = .returned v ∧ Nats w' v (gridL 2) ∧ Below w.heap.size w w' := by
  have hmk : ∀ W : World, (Instr.makeSlice 22 (.int .i64 4) (.int .i64 4)).run Tryd.prog W = .ok (.slice (some ⟨W.heap.size, 0, none⟩) 4 4) (W.alloc (.cells (ints (List.replicate 4 0)).toArray 3)) := run_make22 4 4 (Nat.le_refl _) (by decide)
  have HZ : Hid (List.replicate 4 (0:Int) = nats (rgrI 2 0)) := Lib.hid (zeros_nats 4)
  go_enter Tryd.func37, Tryd.ntmps37
  go_wp2_with fail
  clear hmk
  go_loopw [12] (fun ii wr => ∃ i : Nat, i ≤ 4 ∧ ii = .int .i64 i ∧ NatBlk wr w.heap.size (rgrI 2 i) ∧ Below w.heap.size w wr) (fun ii _ => 4 - (intOf ii).toNat)
  case atStart => exact ⟨0, Nat.zero_le _, rfl, by have h := NatBlk.start w (rgrI 2 0); rw [← HZ.out] at h; exact h, (Below.refl _ _).alloc (Nat.le_refl _) _⟩
  case round =>
    obtain ⟨i, hi, rfl, hN, hb⟩ := hrel
    have HN := Lib.hid hN
    have HB := Lib.hid hb
    clear hN hb
    by_cases hit : i < 4
    · have HOK := Lib.hid (fun j hj => rgrJ_ok (n := 2) (N := 4) (by decide) hit (rgrI_ok (n := 2) (by decide) i hi) j hj)
      have HI1 : Hid (rgrI 2 (i + 1) = rgrJ 2 (rgrI 2 i) i i) := rfl
      have h0 : Hid (rgrI 2 i = rgrJ 2 (rgrI 2 i) i 0) := rfl
      generalize rgrI 2 i = hs at *
      have hiI : (i:Int) < 4 := by omega
      go_wp2_with fail
      go_loopw [16] (fun jj wj => ∃ j : Nat, j ≤ i ∧ jj = .int .i64 j ∧ NatBlk wj w.heap.size (rgrJ 2 hs i j) ∧ Below w.heap.size w wj) (fun jj _ => i - (intOf jj).toNat)
      case atStart => exact ⟨0, Nat.zero_le _, rfl, HN.out, HB.out⟩
      case round =>
        clear HN HB
        obtain ⟨j, hj, rfl, hN, hb⟩ := hrel
        have HN := Lib.hid hN
        have HB := Lib.hid hb
        clear hN hb
        by_cases hjt : j < i
        · obtain ⟨hl, hbd⟩ := HOK.out j hj
          have HST : Hid (rgrJ 2 hs i (j + 1) = if gridF 2 i j then tieL (rgrJ 2 hs i j) i j else rgrJ 2 hs i j) := rfl
          have HNd := Lib.hid (fun nq : Nat => (HN.out : NatBlk (wr.drewN nq) w.heap.size (rgrJ 2 hs i j)))
          have HF : Hid (gridF 2 i j = (decide (i / 2 = j / 2) || decide (i % 2 = j % 2))) := rfl
          have d1 : (i:Int).tdiv 2 = ((i / 2 : Nat) : Int) := rfl
          have d2 : (j:Int).tdiv 2 = ((j / 2 : Nat) : Int) := rfl
          have e1 : (i:Int) / 2 = ((i / 2 : Nat) : Int) := rfl
          have e2 : (j:Int) / 2 = ((j / 2 : Nat) : Int) := rfl
          have d3 : (i:Int).tmod 2 = ((i % 2 : Nat) : Int) := rfl
          have d4 : (j:Int).tmod 2 = ((j % 2 : Nat) : Int) := rfl
          have e3 : (i:Int) % 2 = ((i % 2 : Nat) : Int) := rfl
          have e4 : (j:Int) % 2 = ((j % 2 : Nat) : Int) := rfl
          have g1 : i / 2 ≤ 16 := by omega
          have g2 : j / 2 ≤ 16 := by omega
          have g3 : i % 2 ≤ 16 := by omega
          have g4 : j % 2 ≤ 16 := by omega
          generalize i / 2 = a at *
          generalize j / 2 = b at *
          generalize i % 2 = c at *
          generalize j % 2 = d at *
          have w1 : IntKind.i64.wrap (a : Int) = a := IntWalk.i64_in _ (by omega)
          have w2 : IntKind.i64.wrap (b : Int) = b := IntWalk.i64_in _ (by omega)
          have w3 : IntKind.i64.wrap (c : Int) = c := IntWalk.i64_in _ (by omega)
          have w4 : IntKind.i64.wrap (d : Int) = d := IntWalk.i64_in _ (by omega)
          by_cases h1 : a = b
          · have q1 : ((a:Int) == (b:Int)) = true := by rw [h1]; exact beq_self_eq_true _
            have HV : Hid (rgrJ 2 hs i (j + 1) = tieL (rgrJ 2 hs i j) i j) := Lib.hid (by rw [HST.out, if_pos (by rw [HF.out, decide_eq_true h1, Bool.true_or])])
            clear HF HST h1
            go_wp2_with fail
            go_quiet (fail)
            have HB1 := Lib.hid (below_drewN HB.out nq)
            have HC := Lib.hid (rtie_any _ _ 4 i j (wr.drewN nq) (HNd.out nq) hl hbd hit (by omega) (by decide))
            generalize wr.drewN nq = W1 at *
            go_wp2_with fail
            refine HC.out.mono ?_
            rintro e w2 ⟨⟨rv, rfl⟩, hN2, hm2⟩
            have HN2 : Hid (NatBlk w2 w.heap.size (rgrJ 2 hs i (j + 1))) := Lib.hid (by rw [HV.out]; exact hN2)
            have HB2 := Lib.hid (HB1.out.trans (hm2.below HB1.out.size (fun k e => by omega)))
            clear hN2 hm2
            go_wp2_with fail
            go_roundw
            case rel => exact ⟨j + 1, by omega, by go_num, HN2.out, HB2.out⟩
            case measure => simp [intOf]; omega
          · by_cases h2 : c = d
            · have q1 : ((a:Int) == (b:Int)) = false := beq_eq_false_iff_ne.2 fun h => h1 (Int.ofNat_inj.1 h)
              have q2 : ((c:Int) == (d:Int)) = true := by rw [h2]; exact beq_self_eq_true _
              have HV : Hid (rgrJ 2 hs i (j + 1) = tieL (rgrJ 2 hs i j) i j) := Lib.hid (by rw [HST.out, if_pos (by rw [HF.out, decide_eq_true h2, Bool.or_true])])
              clear HF HST h1 h2
              go_wp2_with fail
              go_quiet (fail)
              have HB1 := Lib.hid (below_drewN HB.out nq)
              have HC := Lib.hid (rtie_any _ _ 4 i j (wr.drewN nq) (HNd.out nq) hl hbd hit (by omega) (by decide))
              generalize wr.drewN nq = W1 at *
              go_wp2_with fail
              refine HC.out.mono ?_
              rintro e w2 ⟨⟨rv, rfl⟩, hN2, hm2⟩
              have HN2 : Hid (NatBlk w2 w.heap.size (rgrJ 2 hs i (j + 1))) := Lib.hid (by rw [HV.out]; exact hN2)
              have HB2 := Lib.hid (HB1.out.trans (hm2.below HB1.out.size (fun k e => by omega)))
              clear hN2 hm2
              go_wp2_with fail
              go_roundw
              case rel => exact ⟨j + 1, by omega, by go_num, HN2.out, HB2.out⟩
              case measure => simp [intOf]; omega
            · have q1 : ((a:Int) == (b:Int)) = false := beq_eq_false_iff_ne.2 fun h => h1 (Int.ofNat_inj.1 h)
              have q2 : ((c:Int) == (d:Int)) = false := beq_eq_false_iff_ne.2 fun h => h2 (Int.ofNat_inj.1 h)
              have HV : Hid (rgrJ 2 hs i (j + 1) = rgrJ 2 hs i j) := Lib.hid (by rw [HST.out, if_neg (by rw [HF.out, decide_eq_false h1, decide_eq_false h2]; simp)])
              clear HF HST h1 h2
              go_wp2_with fail
              go_quiet (fail)
              have HB1 := Lib.hid (below_drewN HB.out nq)
              go_wp2_with fail
              go_roundw
              case rel => exact ⟨j + 1, by omega, by go_num, by rw [HV.out]; exact HNd.out nq, HB1.out⟩
              case measure => simp [intOf]; omega
        · obtain rfl : j = i := by omega
          rw [← HI1.out] at HN
          go_wp2_with fail
          go_roundw
          case rel => exact ⟨j + 1, by omega, by go_num, HN.out, HB.out⟩
          case measure => simp [intOf]; omega
    · obtain rfl : i = 4 := by omega
      rw [rgr2] at HN
      have HV : Hid (Nats wr (.slice (some ⟨w.heap.size, 0, none⟩) 4 4) (gridL 2)) := Lib.hid (by
        have hle : (gridL 2).length = 4 := by unfold gridL; rw [plant_length]
        have := NatBlk.nats HN.out (by rw [hle]; decide) (fun z hz => by
          obtain ⟨i, _, rfl⟩ := List.mem_map.1 hz
          exact Nat.lt_of_lt_of_le (mk_lt _ _) (pw_nat 4 (by decide)).2)
        rwa [hle] at this)
      clear HN
      go_wp2_with fail
      go_ret
      exact ⟨_, rfl, HV.out, HB.out⟩

theorem rgr3 : rgrI 3 9 = gridL 3 := by decide +kernel
set_option maxRecDepth 100000 in
set_option maxHeartbeats 2000000 in
theorem rGrid3_any (w : World) : Calls Tryd.prog 37 #[.int .i64 3] w fun e w' => ∃ v, e = .returned v ∧ Nats w' v (gridL 3) ∧ Below w.heap.size w w' := by
  have hmk : ∀ W : World, (Instr.makeSlice 22 (.int .i64 9) (.int .i64 9)).run Tryd.prog W = .ok (.slice (some ⟨W.heap.size, 0, none⟩) 9 9) (W.alloc (.cells (ints (List.replicate 9 0)).toArray 3)) := run_make22 9 9 (Nat.le_refl _) (by decide)
  have HZ : Hid (List.replicate 9 (0:Int) = nats (rgrI 3 0)) := Lib.hid (zeros_nats 9)
  go_enter Tryd.func37, Tryd.ntmps37
  go_wp2_with fail
  clear hmk
  go_loopw [12] (fun ii wr => ∃ i : Nat, i ≤ 9 ∧ ii = .int .i64 i ∧ NatBlk wr w.heap.size (rgrI 3 i) ∧ Below w.heap.size w wr) (fun ii _ => 9 - (intOf ii).toNat)
  case atStart => exact ⟨0, Nat.zero_le _, rfl, by have h := NatBlk.start w (rgrI 3 0); rw [← HZ.out] at h; exact h, (Below.refl _ _).alloc (Nat.le_refl _) _⟩
  case round =>
    obtain ⟨i, hi, rfl, hN, hb⟩ := hrel
    have HN := Lib.hid hN
    have HB := Lib.hid hb
    clear hN hb
    by_cases hit : i < 9
    · have HOK := Lib.hid (fun j hj => rgrJ_ok (n := 3) (N := 9) (by decide) hit (rgrI_ok (n := 3) (by decide) i hi) j hj)
      have HI1 : Hid (rgrI 3 (i + 1) = rgrJ 3 (rgrI 3 i) i i) := rfl
      have h0 : Hid (rgrI 3 i = rgrJ 3 (rgrI 3 i) i 0) := rfl
      generalize rgrI 3 i = hs at *
      have hiI : (i:Int) < 9 := by omega
      go_wp2_with fail
      go_loopw [16] (fun jj wj => ∃ j : Nat, j ≤ i ∧ jj = .int .i64 j ∧ NatBlk wj w.heap.size (rgrJ 3 hs i j) ∧ Below w.heap.size w wj) (fun jj _ => i - (intOf jj).toNat)
      case atStart => exact ⟨0, Nat.zero_le _, rfl, HN.out, HB.out⟩
      case round =>
        clear HN HB
        obtain ⟨j, hj, rfl, hN, hb⟩ := hrel
        have HN := Lib.hid hN
        have HB := Lib.hid hb
        clear hN hb
        by_cases hjt : j < i
        · obtain ⟨hl, hbd⟩ := HOK.out j hj
          have HST : Hid (rgrJ 3 hs i (j + 1) = if gridF 3 i j then tieL (rgrJ 3 hs i j) i j else rgrJ 3 hs i j) := rfl
          have HNd := Lib.hid (fun nq : Nat => (HN.out : NatBlk (wr.drewN nq) w.heap.size (rgrJ 3 hs i j)))
          have HF : Hid (gridF 3 i j = (decide (i / 3 = j / 3) || decide (i % 3 = j % 3))) := rfl
          have d1 : (i:Int).tdiv 3 = ((i / 3 : Nat) : Int) := rfl
          have d2 : (j:Int).tdiv 3 = ((j / 3 : Nat) : Int) := rfl
          have e1 : (i:Int) / 3 = ((i / 3 : Nat) : Int) := rfl
          have e2 : (j:Int) / 3 = ((j / 3 : Nat) : Int) := rfl
          have d3 : (i:Int).tmod 3 = ((i % 3 : Nat) : Int) := rfl
          have d4 : (j:Int).tmod 3 = ((j % 3 : Nat) : Int) := rfl
          have e3 : (i:Int) % 3 = ((i % 3 : Nat) : Int) := rfl
          have e4 : (j:Int) % 3 = ((j % 3 : Nat) : Int) := rfl
          have g1 : i / 3 ≤ 16 := by omega
          have g2 : j / 3 ≤ 16 := by omega
          have g3 : i % 3 ≤ 16 := by omega
          have g4 : j % 3 ≤ 16 := by omega
          generalize i / 3 = a at *
          generalize j / 3 = b at *
          generalize i % 3 = c at *
          generalize j % 3 = d at *
          have w1 : IntKind.i64.wrap (a : Int) = a := IntWalk.i64_in _ (by omega)
          have w2 : IntKind.i64.wrap (b : Int) = b := IntWalk.i64_in _ (by omega)
          have w3 : IntKind.i64.wrap (c : Int) = c := IntWalk.i64_in _ (by omega)
          have w4 : IntKind.i64.wrap (d : Int) = d := IntWalk.i64_in _ (by omega)
          by_cases h1 : a = b
          · have q1 : ((a:Int) == (b:Int)) = true := by rw [h1]; exact beq_self_eq_true _
            have HV : Hid (rgrJ 3 hs i (j + 1) = tieL (rgrJ 3 hs i j) i j) := Lib.hid (by rw [HST.out, if_pos (by rw [HF.out, decide_eq_true h1, Bool.true_or])])
            clear HF HST h1
            go_wp2_with fail
            go_quiet (fail)
            have HB1 := Lib.hid (below_drewN HB.out nq)
            have HC := Lib.hid (rtie_any _ _ 9 i j (wr.drewN nq) (HNd.out nq) hl hbd hit (by omega) (by decide))
            generalize wr.drewN nq = W1 at *
            go_wp2_with fail
            refine HC.out.mono ?_
            rintro e w2 ⟨⟨rv, rfl⟩, hN2, hm2⟩
            have HN2 : Hid (NatBlk w2 w.heap.size (rgrJ 3 hs i (j + 1))) := Lib.hid (by rw [HV.out]; exact hN2)
            have HB2 := Lib.hid (HB1.out.trans (hm2.below HB1.out.size (fun k e => by omega)))
            clear hN2 hm2
            go_wp2_with fail
            go_roundw
            case rel => exact ⟨j + 1, by omega, by go_num, HN2.out, HB2.out⟩
            case measure => simp [intOf]; omega
          · by_cases h2 : c = d
            · have q1 : ((a:Int) == (b:Int)) = false := beq_eq_false_iff_ne.2 fun h => h1 (Int.ofNat_inj.1 h)
              have q2 : ((c:Int) == (d:Int)) = true := by rw [h2]; exact beq_self_eq_true _
              have HV : Hid (rgrJ 3 hs i (j + 1) = tieL (rgrJ 3 hs i j) i j) := Lib.hid (by rw [HST.out, if_pos (by rw [HF.out, decide_eq_true h2, Bool.or_true])])
              clear HF HST h1 h2
              go_wp2_with fail
              go_quiet (fail)
              have HB1 := Lib.hid (below_drewN HB.out nq)
              have HC := Lib.hid (rtie_any _ _ 9 i j (wr.drewN nq) (HNd.out nq) hl hbd hit (by omega) (by decide))
              generalize wr.drewN nq = W1 at *
              go_wp2_with fail
              refine HC.out.mono ?_
              rintro e w2 ⟨⟨rv, rfl⟩, hN2, hm2⟩
              have HN2 : Hid (NatBlk w2 w.heap.size (rgrJ 3 hs i (j + 1))) := Lib.hid (by rw [HV.out]; exact hN2)
              have HB2 := Lib.hid (HB1.out.trans (hm2.below HB1.out.size (fun k e => by omega)))
              clear hN2 hm2
              go_wp2_with fail
              go_roundw
              case rel => exact ⟨j + 1, by omega, by go_num, HN2.out, HB2.out⟩
              case measure => simp [intOf]; omega
            · have q1 : ((a:Int) == (b:Int)) = false := beq_eq_false_iff_ne.2 fun h => h1 (Int.ofNat_inj.1 h)
              have q2 : ((c:Int) == (d:Int)) = false := beq_eq_false_iff_ne.2 fun h => h2 (Int.ofNat_inj.1 h)
              have HV : Hid (rgrJ 3 hs i (j + 1) = rgrJ 3 hs i j) := Lib.hid (by rw [HST.out, if_neg (by rw [HF.out, decide_eq_false h1, decide_eq_false h2]; simp)])
              clear HF HST h1 h2
              go_wp2_with fail
              go_quiet (fail)
              have HB1 := Lib.hid (below_drewN HB.out nq)
              go_wp2_with fail
              go_roundw
              case rel => exact ⟨j + 1, by omega, by go_num, by rw [HV.out]; exact HNd.out nq, HB1.out⟩
              case measure => simp [intOf]; omega
        · obtain rfl : j = i := by omega
          rw [← HI1.out] at HN
          go_wp2_with fail
          go_roundw
          case rel => exact ⟨j + 1, by omega, by go_num, HN.out, HB.out⟩
          case measure => simp [intOf]; omega
    · obtain rfl : i = 9 := by omega
      rw [rgr3] at HN
      have HV : Hid (Nats wr (.slice (some ⟨w.heap.size, 0, none⟩) 9 9) (gridL 3)) := Lib.hid (by
        have hle : (gridL 3).length = 9 := by unfold gridL; rw [plant_length]
        have := NatBlk.nats HN.out (by rw [hle]; decide) (fun z hz => by
          obtain ⟨i, _, rfl⟩ := List.mem_map.1 hz
          exact Nat.lt_of_lt_of_le (mk_lt _ _) (pw_nat 9 (by decide)).2)
        rwa [hle] at this)
      clear HN
      go_wp2_with fail
      go_ret
      exact ⟨_, rfl, HV.out, HB.out⟩

theorem rgr4 : rgrI 4 16 = gridL 4 := by decide +kernel
set_option maxRecDepth 100000 in
set_option maxHeartbeats 2000000 in
theorem rGrid4_any (w : World) : Calls Tryd.prog 37 #[.int .i64 4] w fun e w' => ∃ v, e = .returned v ∧ Nats w' v (gridL 4) ∧ Below w.heap.size w w' := by
  have hmk : ∀ W : World, (Instr.makeSlice 22 (.int .i64 16) (.int .i64 16)).run Tryd.prog W = .ok (.slice (some ⟨W.heap.size, 0, none⟩) 16 16) (W.alloc (.cells (ints (List.replicate 16 0)).toArray 3)) := run_make22 16 16 (Nat.le_refl _) (by decide)
  have HZ : Hid (List.replicate 16 (0:Int) = nats (rgrI 4 0)) := Lib.hid (zeros_nats 16)
  go_enter Tryd.func37, Tryd.ntmps37
  go_wp2_with fail
  clear hmk
  go_loopw [12] (fun ii wr => ∃ i : Nat, i ≤ 16 ∧ ii = .int .i64 i ∧ NatBlk wr w.heap.size (rgrI 4 i) ∧ Below w.heap.size w wr) (fun ii _ => 16 - (intOf ii).toNat)
  case atStart => exact ⟨0, Nat.zero_le _, rfl, by have h := NatBlk.start w (rgrI 4 0); rw [← HZ.out] at h; exact h, (Below.refl _ _).alloc (Nat.le_refl _) _⟩
  case round =>
    obtain ⟨i, hi, rfl, hN, hb⟩ := hrel
    have HN := Lib.hid hN
    have HB := Lib.hid hb
    clear hN hb
    by_cases hit : i < 16
    · have HOK := Lib.hid (fun j hj => rgrJ_ok (n := 4) (N := 16) (by decide) hit (rgrI_ok (n := 4) (by decide) i hi) j hj)
      have HI1 : Hid (rgrI 4 (i + 1) = rgrJ 4 (rgrI 4 i) i i) := rfl
      have h0 : Hid (rgrI 4 i = rgrJ 4 (rgrI 4 i) i 0) := rfl
      generalize rgrI 4 i = hs at *
      have hiI : (i:Int) < 16 := by omega
      go_wp2_with fail
      go_loopw [16] (fun jj wj => ∃ j : Nat, j ≤ i ∧ jj = .int .i64 j ∧ NatBlk wj w.heap.size (rgrJ 4 hs i j) ∧ Below w.heap.size w wj) (fun jj _ => i - (intOf jj).toNat)
      case atStart => exact ⟨0, Nat.zero_le _, rfl, HN.out, HB.out⟩
      case round =>
        clear HN HB
        obtain ⟨j, hj, rfl, hN, hb⟩ := hrel
        have HN := Lib.hid hN
        have HB := Lib.hid hb
        clear hN hb
        by_cases hjt : j < i
        · obtain ⟨hl, hbd⟩ := HOK.out j hj
          have HST : Hid (rgrJ 4 hs i (j + 1) = if gridF 4 i j then tieL (rgrJ 4 hs i j) i j else rgrJ 4 hs i j) := rfl
          have HNd := Lib.hid (fun nq : Nat => (HN.out : NatBlk (wr.drewN nq) w.heap.size (rgrJ 4 hs i j)))
          have HF : Hid (gridF 4 i j = (decide (i / 4 = j / 4) || decide (i % 4 = j % 4))) := rfl
          have d1 : (i:Int).tdiv 4 = ((i / 4 : Nat) : Int) := rfl
          have d2 : (j:Int).tdiv 4 = ((j / 4 : Nat) : Int) := rfl
          have e1 : (i:Int) / 4 = ((i / 4 : Nat) : Int) := rfl
          have e2 : (j:Int) / 4 = ((j / 4 : Nat) : Int) := rfl
          have d3 : (i:Int).tmod 4 = ((i % 4 : Nat) : Int) := rfl
          have d4 : (j:Int).tmod 4 = ((j % 4 : Nat) : Int) := rfl
          have e3 : (i:Int) % 4 = ((i % 4 : Nat) : Int) := rfl
          have e4 : (j:Int) % 4 = ((j % 4 : Nat) : Int) := rfl
          have g1 : i / 4 ≤ 16 := by omega
          have g2 : j / 4 ≤ 16 := by omega
          have g3 : i % 4 ≤ 16 := by omega
          have g4 : j % 4 ≤ 16 := by omega
          generalize i / 4 = a at *
          generalize j / 4 = b at *
          generalize i % 4 = c at *
          generalize j % 4 = d at *
          have w1 : IntKind.i64.wrap (a : Int) = a := IntWalk.i64_in _ (by omega)
          have w2 : IntKind.i64.wrap (b : Int) = b := IntWalk.i64_in _ (by omega)
          have w3 : IntKind.i64.wrap (c : Int) = c := IntWalk.i64_in _ (by omega)
          have w4 : IntKind.i64.wrap (d : Int) = d := IntWalk.i64_in _ (by omega)
          by_cases h1 : a = b
          · have q1 : ((a:Int) == (b:Int)) = true := by rw [h1]; exact beq_self_eq_true _
            have HV : Hid (rgrJ 4 hs i (j + 1) = tieL (rgrJ 4 hs i j) i j) := Lib.hid (by rw [HST.out, if_pos (by rw [HF.out, decide_eq_true h1, Bool.true_or])])
            clear HF HST h1
            go_wp2_with fail
            go_quiet (fail)
            have HB1 := Lib.hid (below_drewN HB.out nq)
            have HC := Lib.hid (rtie_any _ _ 16 i j (wr.drewN nq) (HNd.out nq) hl hbd hit (by omega) (by decide))
            generalize wr.drewN nq = W1 at *
            go_wp2_with fail
            refine HC.out.mono ?_
            rintro e w2 ⟨⟨rv, rfl⟩, hN2, hm2⟩
            have HN2 : Hid (NatBlk w2 w.heap.size (rgrJ 4 hs i (j + 1))) := Lib.hid (by rw [HV.out]; exact hN2)
            have HB2 := Lib.hid (HB1.out.trans (hm2.below HB1.out.size (fun k e => by omega)))
            clear hN2 hm2
            go_wp2_with fail
            go_roundw
            case rel => exact ⟨j + 1, by omega, by go_num, HN2.out, HB2.out⟩
            case measure => simp [intOf]; omega
          · by_cases h2 : c = d
            · have q1 : ((a:Int) == (b:Int)) = false := beq_eq_false_iff_ne.2 fun h => h1 (Int.ofNat_inj.1 h)
              have q2 : ((c:Int) == (d:Int)) = true := by rw [h2]; exact beq_self_eq_true _
              have HV : Hid (rgrJ 4 hs i (j + 1) = tieL (rgrJ 4 hs i j) i j) := Lib.hid (by rw [HST.out, if_pos (by rw [HF.out, decide_eq_true h2, Bool.or_true])])
              clear HF HST h1 h2
              go_wp2_with fail
              go_quiet (fail)
              have HB1 := Lib.hid (below_drewN HB.out nq)
              have HC := Lib.hid (rtie_any _ _ 16 i j (wr.drewN nq) (HNd.out nq) hl hbd hit (by omega) (by decide))
              generalize wr.drewN nq = W1 at *
              go_wp2_with fail
              refine HC.out.mono ?_
              rintro e w2 ⟨⟨rv, rfl⟩, hN2, hm2⟩
              have HN2 : Hid (NatBlk w2 w.heap.size (rgrJ 4 hs i (j + 1))) := Lib.hid (by rw [HV.out]; exact hN2)
              have HB2 := Lib.hid (HB1.out.trans (hm2.below HB1.out.size (fun k e => by omega)))
              clear hN2 hm2
              go_wp2_with fail
              go_roundw
              case rel => exact ⟨j + 1, by omega, by go_num, HN2.out, HB2.out⟩
              case measure => simp [intOf]; omega
            · have q1 : ((a:Int) == (b:Int)) = false := beq_eq_false_iff_ne.2 fun h => h1 (Int.ofNat_inj.1 h)
              have q2 : ((c:Int) == (d:Int)) = false := beq_eq_false_iff_ne.2 fun h => h2 (Int.ofNat_inj.1 h)
              have HV : Hid (rgrJ 4 hs i (j + 1) = rgrJ 4 hs i j) := Lib.hid (by rw [HST.out, if_neg (by rw [HF.out, decide_eq_false h1, decide_eq_false h2]; simp)])
              clear HF HST h1 h2
              go_wp2_with fail
              go_quiet (fail)
              have HB1 := Lib.hid (below_drewN HB.out nq)
              go_wp2_with fail
              go_roundw
              case rel => exact ⟨j + 1, by omega, by go_num, by rw [HV.out]; exact HNd.out nq, HB1.out⟩
              case measure => simp [intOf]; omega
        · obtain rfl : j = i := by omega
          rw [← HI1.out] at HN
          go_wp2_with fail
          go_roundw
          case rel => exact ⟨j + 1, by omega, by go_num, HN.out, HB.out⟩
          case measure => simp [intOf]; omega
    · obtain rfl : i = 16 := by omega
      rw [rgr4] at HN
      have HV : Hid (Nats wr (.slice (some ⟨w.heap.size, 0, none⟩) 16 16) (gridL 4)) := Lib.hid (by
        have hle : (gridL 4).length = 16 := by unfold gridL; rw [plant_length]
        have := NatBlk.nats HN.out (by rw [hle]; decide) (fun z hz => by
          obtain ⟨i, _, rfl⟩ := List.mem_map.1 hz
          exact Nat.lt_of_lt_of_le (mk_lt _ _) (pw_nat 16 (by decide)).2)
        rwa [hle] at this)
      clear HN
      go_wp2_with fail
      go_ret
      exact ⟨_, rfl, HV.out, HB.out⟩
end Go.Proofs.YtdnhfnegnjdeoaaDoor
