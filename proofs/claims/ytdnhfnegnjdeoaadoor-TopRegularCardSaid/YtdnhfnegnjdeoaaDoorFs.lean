/- Squares and Grid -/
import Derived.Test.YtdnhfnegnjdeoaaDoorPl
namespace Go.Proofs.YtdnhfnegnjdeoaaDoor
open Go.RowKit Go.Shelf

/-- A box with one number. -/
def B1 (w : World) (B : Nat) (x : Int) : Prop := w.heap[B]? = some (.cells #[.int .i64 x] 3 (0, 0))
theorem B1.lt {w : World} {B : Nat} {x : Int} (h : B1 w B x) : B < w.heap.size := lt_of_block h
theorem B1.cell {w : World} {B : Nat} {x : Int} (h : B1 w B x) : w.cell? ⟨B, 0, none⟩ = some (.int .i64 x) := by
  simp only [World.cell?, show w.heap[B]? = _ from h]; rfl
theorem B1.fr {w : World} {B : Nat} {x : Int} (h : B1 w B x) : w.frozen? ⟨B, 0, none⟩ = false := by
  simp [World.frozen?, show w.heap[B]? = _ from h]
theorem B1.below {w w' : World} {B : Nat} {x : Int} (h : B1 w B x) (hb : Below w.heap.size w w') : B1 w' B x := (hb.block B h.lt).trans h
theorem B1.new (w : World) (x : Int) : B1 (w.alloc (.cells #[.int .i64 x] 3)) w.heap.size x := heap_alloc_new w _
theorem B1.set {w : World} {B : Nat} {x : Int} (h : B1 w B x) (y : Int) : B1 (w.setCell ⟨B, 0, none⟩ (.int .i64 y)) B y := heap_set_at (k := 0) (show w.heap[B]? = _ from h) (.int .i64 y)
theorem B1.other {w : World} {B C : Nat} {x : Int} (h : B1 w B x) (hB : B ≠ C) (k : Nat) (v : Value) : B1 (w.setCell ⟨C, k, none⟩ v) B x := (Below.heap_setCell _ _ _ _ hB).trans h

def sqK (p : Nat) : Nat → Nat
  | 0 => 0
  | y + 1 => sqK p y ||| 2 ^ ((y + 1) * (y + 1) % p)
def sqF (p i j : Nat) : Bool := (sqK p (p - 1)).testBit ((i + p - j) % p)
def squaresL (p : Nat) : List Nat := plantL p (offD (sqF p))
def gridF (n i j : Nat) : Bool := decide (i / n = j / n) || decide (i % n = j % n)
def gridL (n : Nat) : List Nat := plantL (n * n) (offD (gridF n))
theorem sqK_lt (p y : Nat) (hp : 0 < p) (hp2 : p ≤ 13) : sqK p y < 8192 := by
  induction y with
  | zero => show 0 < 8192; decide
  | succ y ih =>
    have : (y + 1) * (y + 1) % p < p := Nat.mod_lt _ hp
    exact Nat.or_lt_two_pow (n := 13) ih (Nat.pow_lt_pow_right (by decide) (by omega))

set_option maxHeartbeats 1000000 in
theorem sqc5_any (i j Bs Bp : Nat) (w : World) (hs : B1 w Bs (sqK 5 4 : Nat)) (hp : B1 w Bp 5) (hi : i < 5) (hj : j < 5) :
    Calls Tryd.prog 73 #[.int .i64 i, .int .i64 j, .pointer (some ⟨Bs, 0, none⟩), .pointer (some ⟨Bp, 0, none⟩)] w fun e w' => e = .returned (.bool (sqF 5 i j)) ∧ Below w.heap.size w w' := by
  have hlt := sqK_lt 5 4 (by decide) (by decide)
  have HF : Hid (sqF 5 i j = (sqK 5 4).testBit ((i + 5 - j) % 5)) := rfl
  have c1 := hs.cell
  have c2 := hp.cell
  have hkj : (i:Int) - j + 5 = ((i + 5 - j : Nat) : Int) := by omega
  have d3 : ((i:Int) - j + 5).tmod 5 = (((i + 5 - j) % 5 : Nat) : Int) := by rw [hkj]; rfl
  have d4 : ((i:Int) - j + 5) % 5 = (((i + 5 - j) % 5 : Nat) : Int) := by rw [hkj]; rfl
  have hm : (i + 5 - j) % 5 ≤ 16 := by omega
  clear hkj hs hp
  generalize (i + 5 - j) % 5 = m at *
  generalize sqK 5 4 = s at *
  have HH := Lib.hid (fun w => has_any s m w hm)
  have w1 : IntKind.i64.wrap ((i:Int) - j) = (i:Int) - j := IntWalk.i64_in _ (by omega)
  have w3 : IntKind.i64.wrap ((i:Int) - j + 5) = (i:Int) - j + 5 := IntWalk.i64_in _ (by omega)
  have w4 : IntKind.i64.wrap (m : Int) = m := IntWalk.i64_in _ (by omega)
  go_enter Tryd.func73, Tryd.ntmps73
  go_wp2_with fail
  go_quiet ((go_at_call 74; exact quiet_eq (HH.out _)))
  go_wp2
  go_ret
  exact ⟨ret_bool HF.out.symm, below_drewN (Below.refl _ _) _⟩

set_option maxRecDepth 100000 in
set_option maxHeartbeats 2000000 in
theorem Squares5_any (w : World) : Calls Tryd.prog 32 #[.int .i64 5] w fun e w' => ∃ v, e = .returned (.tuple #[v, .int .i64 0]) ∧ Nats w' v (squaresL 5) ∧ Below w.heap.size w w' := by
  have hb0 := (Below.refl w.heap.size w).alloc (Nat.le_refl _) (.cells #[.int .i64 5] 3)
  have hp0 := B1.new w 5
  have hs0 : (w.alloc (.cells #[.int .i64 5] 3)).heap.size = w.heap.size + 1 := World.size_alloc _ _
  have hs1 := B1.new (w.alloc (.cells #[.int .i64 5] 3)) 0
  rw [hs0] at hs1
  have hp1 := hp0.below ((Below.refl _ _).alloc (Nat.le_refl _) (.cells #[.int .i64 0] 3))
  have hb1 := hb0.alloc (by omega) (.cells #[.int .i64 0] 3)
  have HP := Lib.hid hp1
  have HS := Lib.hid hs1
  have HB := Lib.hid hb1
  have c0 := hp0.cell
  clear hb0 hp0 hs0 hs1 hp1 hb1
  go_enter Tryd.func32, Tryd.ntmps32
  go_wp2_with fail
  go_loopw [5] (fun xx wr => ∃ y : Nat, y + 1 ≤ 5 ∧ xx = .int .i64 ((y:Int) + 1) ∧ B1 wr w.heap.size 5 ∧ B1 wr (w.heap.size + 1) (sqK 5 y : Nat) ∧ Below w.heap.size w wr) (fun xx _ => 5 - (intOf xx).toNat)
  case atStart => exact ⟨0, by decide, rfl, HP.out, HS.out, HB.out⟩
  case round =>
    clear HP HS HB
    obtain ⟨y, hy, rfl, hP, hS, hb⟩ := hrel
    have HB := Lib.hid hb
    have HP := Lib.hid hP
    have HS := Lib.hid hS
    have c1 := hP.cell
    have c2 := hS.cell
    have f2 := hS.fr
    by_cases hlt : y + 1 < 5
    · have hsq := sqK_lt 5 y (by decide) (by decide)
      obtain ⟨x, hx⟩ : ∃ x, x = y + 1 := ⟨_, rfl⟩
      have hxc : (y:Int) + 1 = (x:Int) := by omega
      have HSN : Hid (sqK 5 x = sqK 5 y ||| 2 ^ (x * x % 5)) := Lib.hid (by rw [hx]; rfl)
      have hxx : x * x ≤ 13 * 13 := Nat.mul_le_mul (by omega) (by omega)
      have hmc : (x:Int) * x = ((x * x : Nat) : Int) := by simp
      have w0 : IntKind.i64.wrap ((x:Int) * x) = (x:Int) * x := by rw [hmc]; exact IntWalk.i64_in _ (by omega)
      have d3 : ((x:Int) * x).tmod 5 = ((x * x % 5 : Nat) : Int) := by rw [hmc]; rfl
      have d4 : ((x:Int) * x) % 5 = ((x * x % 5 : Nat) : Int) := by rw [hmc]; rfl
      have hm : x * x % 5 ≤ 16 := by omega
      have hm0 : (0:Int) ≤ (x:Int) * x := by rw [hmc]; omega
      have hpm := pw_nat (x * x % 5) hm
      have hp4 : 2 ^ (x * x % 5) ≤ 4096 := (Nat.pow_le_pow_right (by decide) (by omega) : 2 ^ (x * x % 5) ≤ 2 ^ 12)
      have hor : bits .or .i64 ((sqK 5 y : Nat) : Int) ((2:Int) ^ (x * x % 5)) = ((sqK 5 y ||| 2 ^ (x * x % 5) : Nat) : Int) := by rw [← pw_cast]; exact i64_or _ _ (by omega) (by omega)
      have w1 : IntKind.i64.wrap ((2:Int) ^ (x * x % 5)) = (2:Int) ^ (x * x % 5) := by rw [← pw_cast]; exact i64_of (by omega) (by omega)
      have hlt2 : (x:Int) < 5 := by omega
      have hxb : x < 5 := by omega
      rw [hxc]
      clear hb hP hS hxx hpm hp4 hmc hx hxc hlt hy
      generalize x * x % 5 = m at *
      generalize hq : sqK 5 y ||| 2 ^ m = q at *
      clear hq
      generalize sqK 5 y = s at *
      have w2 : IntKind.i64.wrap (m : Int) = m := IntWalk.i64_in _ (by omega)
      go_wp2_with fail
      go_region_with (fail)
      all_goals
        go_wp2_with fail
        go_roundw
        case rel => exact ⟨x, by omega, by go_num, HP.out.other (B := w.heap.size) (C := w.heap.size + 1) (by omega) 0 _, by rw [HSN.out]; exact HS.out.set _, (HB.out.setCell (p := ⟨w.heap.size + 1, 0, none⟩) (by simp) _).drew⟩
        case measure => simp [intOf]; omega
    · obtain rfl : y = 4 := by omega
      have HT : Hid (Tells 73 #[.pointer (some ⟨w.heap.size + 1, 0, none⟩), .pointer (some ⟨w.heap.size, 0, none⟩)] 5 (sqF 5) wr) := Lib.hid ⟨enters_of Tryd.func73 (by kernel_rfl) rfl, fun i j w' hi hj _ hb' => sqc5_any i j _ _ w' (HS.out.below hb') (HP.out.below hb') hi hj⟩
      have HC := Lib.hid (tie_any 5 73 _ (sqF 5) wr (by decide) HT.out)
      have HLE : Hid ((squaresL 5).length = 5) := Lib.hid (by unfold squaresL; rw [plant_length])
      have H16 : Hid (∀ z ∈ squaresL 5, z < 65536) := Lib.hid (by
        intro z hz
        obtain ⟨i, _, rfl⟩ := List.mem_map.1 hz
        exact Nat.lt_of_lt_of_le (mk_lt _ _) (pw_nat 5 (by decide)).2)
      clear hb hP hS
      go_wp2_with fail
      refine HC.out.mono ?_
      rintro e w2 ⟨rfl, hN, hb2⟩
      have HN := Lib.hid (NatBlk.nats (hs := squaresL 5) hN (by rw [HLE.out]; decide) H16.out)
      rw [HLE.out] at HN
      have HB2 := Lib.hid (HB.out.trans (hb2.mono HB.out.size))
      clear hN hb2
      go_wp2_with fail
      go_ret2
      exact ⟨_, rfl, HN.out, HB2.out⟩

set_option maxHeartbeats 1000000 in
theorem sqc13_any (i j Bs Bp : Nat) (w : World) (hs : B1 w Bs (sqK 13 12 : Nat)) (hp : B1 w Bp 13) (hi : i < 13) (hj : j < 13) :
    Calls Tryd.prog 73 #[.int .i64 i, .int .i64 j, .pointer (some ⟨Bs, 0, none⟩), .pointer (some ⟨Bp, 0, none⟩)] w fun e w' => e = .returned (.bool (sqF 13 i j)) ∧ Below w.heap.size w w' := by
  have hlt := sqK_lt 13 12 (by decide) (by decide)
  have HF : Hid (sqF 13 i j = (sqK 13 12).testBit ((i + 13 - j) % 13)) := rfl
  have c1 := hs.cell
  have c2 := hp.cell
  have hkj : (i:Int) - j + 13 = ((i + 13 - j : Nat) : Int) := by omega
  have d3 : ((i:Int) - j + 13).tmod 13 = (((i + 13 - j) % 13 : Nat) : Int) := by rw [hkj]; rfl
  have d4 : ((i:Int) - j + 13) % 13 = (((i + 13 - j) % 13 : Nat) : Int) := by rw [hkj]; rfl
  have hm : (i + 13 - j) % 13 ≤ 16 := by omega
  clear hkj hs hp
  generalize (i + 13 - j) % 13 = m at *
  generalize sqK 13 12 = s at *
  have HH := Lib.hid (fun w => has_any s m w hm)
  have w1 : IntKind.i64.wrap ((i:Int) - j) = (i:Int) - j := IntWalk.i64_in _ (by omega)
  have w3 : IntKind.i64.wrap ((i:Int) - j + 13) = (i:Int) - j + 13 := IntWalk.i64_in _ (by omega)
  have w4 : IntKind.i64.wrap (m : Int) = m := IntWalk.i64_in _ (by omega)
  go_enter Tryd.func73, Tryd.ntmps73
  go_wp2_with fail
  go_quiet ((go_at_call 74; exact quiet_eq (HH.out _)))
  go_wp2
  go_ret
  exact ⟨ret_bool HF.out.symm, below_drewN (Below.refl _ _) _⟩

set_option maxRecDepth 100000 in
set_option maxHeartbeats 2000000 in
theorem Squares13_any (w : World) : Calls Tryd.prog 32 #[.int .i64 13] w fun e w' => ∃ v, e = .returned (.tuple #[v, .int .i64 0]) ∧ Nats w' v (squaresL 13) ∧ Below w.heap.size w w' := by
  have hb0 := (Below.refl w.heap.size w).alloc (Nat.le_refl _) (.cells #[.int .i64 13] 3)
  have hp0 := B1.new w 13
  have hs0 : (w.alloc (.cells #[.int .i64 13] 3)).heap.size = w.heap.size + 1 := World.size_alloc _ _
  have hs1 := B1.new (w.alloc (.cells #[.int .i64 13] 3)) 0
  rw [hs0] at hs1
  have hp1 := hp0.below ((Below.refl _ _).alloc (Nat.le_refl _) (.cells #[.int .i64 0] 3))
  have hb1 := hb0.alloc (by omega) (.cells #[.int .i64 0] 3)
  have HP := Lib.hid hp1
  have HS := Lib.hid hs1
  have HB := Lib.hid hb1
  have c0 := hp0.cell
  clear hb0 hp0 hs0 hs1 hp1 hb1
  go_enter Tryd.func32, Tryd.ntmps32
  go_wp2_with fail
  go_loopw [5] (fun xx wr => ∃ y : Nat, y + 1 ≤ 13 ∧ xx = .int .i64 ((y:Int) + 1) ∧ B1 wr w.heap.size 13 ∧ B1 wr (w.heap.size + 1) (sqK 13 y : Nat) ∧ Below w.heap.size w wr) (fun xx _ => 13 - (intOf xx).toNat)
  case atStart => exact ⟨0, by decide, rfl, HP.out, HS.out, HB.out⟩
  case round =>
    clear HP HS HB
    obtain ⟨y, hy, rfl, hP, hS, hb⟩ := hrel
    have HB := Lib.hid hb
    have HP := Lib.hid hP
    have HS := Lib.hid hS
    have c1 := hP.cell
    have c2 := hS.cell
    have f2 := hS.fr
    by_cases hlt : y + 1 < 13
    · have hsq := sqK_lt 13 y (by decide) (by decide)
      obtain ⟨x, hx⟩ : ∃ x, x = y + 1 := ⟨_, rfl⟩
      have hxc : (y:Int) + 1 = (x:Int) := by omega
      have HSN : Hid (sqK 13 x = sqK 13 y ||| 2 ^ (x * x % 13)) := Lib.hid (by rw [hx]; rfl)
      have hxx : x * x ≤ 13 * 13 := Nat.mul_le_mul (by omega) (by omega)
      have hmc : (x:Int) * x = ((x * x : Nat) : Int) := by simp
      have w0 : IntKind.i64.wrap ((x:Int) * x) = (x:Int) * x := by rw [hmc]; exact IntWalk.i64_in _ (by omega)
      have d3 : ((x:Int) * x).tmod 13 = ((x * x % 13 : Nat) : Int) := by rw [hmc]; rfl
      have d4 : ((x:Int) * x) % 13 = ((x * x % 13 : Nat) : Int) := by rw [hmc]; rfl
      have hm : x * x % 13 ≤ 16 := by omega
      have hm0 : (0:Int) ≤ (x:Int) * x := by rw [hmc]; omega
      have hpm := pw_nat (x * x % 13) hm
      have hp4 : 2 ^ (x * x % 13) ≤ 4096 := (Nat.pow_le_pow_right (by decide) (by omega) : 2 ^ (x * x % 13) ≤ 2 ^ 12)
      have hor : bits .or .i64 ((sqK 13 y : Nat) : Int) ((2:Int) ^ (x * x % 13)) = ((sqK 13 y ||| 2 ^ (x * x % 13) : Nat) : Int) := by rw [← pw_cast]; exact i64_or _ _ (by omega) (by omega)
      have w1 : IntKind.i64.wrap ((2:Int) ^ (x * x % 13)) = (2:Int) ^ (x * x % 13) := by rw [← pw_cast]; exact i64_of (by omega) (by omega)
      have hlt2 : (x:Int) < 13 := by omega
      have hxb : x < 13 := by omega
      rw [hxc]
      clear hb hP hS hxx hpm hp4 hmc hx hxc hlt hy
      generalize x * x % 13 = m at *
      generalize hq : sqK 13 y ||| 2 ^ m = q at *
      clear hq
      generalize sqK 13 y = s at *
      have w2 : IntKind.i64.wrap (m : Int) = m := IntWalk.i64_in _ (by omega)
      go_wp2_with fail
      go_region_with (fail)
      all_goals
        go_wp2_with fail
        go_roundw
        case rel => exact ⟨x, by omega, by go_num, HP.out.other (B := w.heap.size) (C := w.heap.size + 1) (by omega) 0 _, by rw [HSN.out]; exact HS.out.set _, (HB.out.setCell (p := ⟨w.heap.size + 1, 0, none⟩) (by simp) _).drew⟩
        case measure => simp [intOf]; omega
    · obtain rfl : y = 12 := by omega
      have HT : Hid (Tells 73 #[.pointer (some ⟨w.heap.size + 1, 0, none⟩), .pointer (some ⟨w.heap.size, 0, none⟩)] 13 (sqF 13) wr) := Lib.hid ⟨enters_of Tryd.func73 (by kernel_rfl) rfl, fun i j w' hi hj _ hb' => sqc13_any i j _ _ w' (HS.out.below hb') (HP.out.below hb') hi hj⟩
      have HC := Lib.hid (tie_any 13 73 _ (sqF 13) wr (by decide) HT.out)
      have HLE : Hid ((squaresL 13).length = 13) := Lib.hid (by unfold squaresL; rw [plant_length])
      have H16 : Hid (∀ z ∈ squaresL 13, z < 65536) := Lib.hid (by
        intro z hz
        obtain ⟨i, _, rfl⟩ := List.mem_map.1 hz
        exact Nat.lt_of_lt_of_le (mk_lt _ _) (pw_nat 13 (by decide)).2)
      clear hb hP hS
      go_wp2_with fail
      refine HC.out.mono ?_
      rintro e w2 ⟨rfl, hN, hb2⟩
      have HN := Lib.hid (NatBlk.nats (hs := squaresL 13) hN (by rw [HLE.out]; decide) H16.out)
      rw [HLE.out] at HN
      have HB2 := Lib.hid (HB.out.trans (hb2.mono HB.out.size))
      clear hN hb2
      go_wp2_with fail
      go_ret2
      exact ⟨_, rfl, HN.out, HB2.out⟩

set_option maxHeartbeats 400000 in
theorem Squares_bad (p : Int) (w : World) (h5 : p ≠ 5) (h13 : p ≠ 13) : Calls Tryd.prog 32 #[.int .i64 p] w fun e w' => e = .returned (.tuple #[.slice none 0 0, .int .i64 2]) ∧ Below w.heap.size w w' := by
  have hb0 := (Below.refl w.heap.size w).alloc (Nat.le_refl _) (.cells #[.int .i64 p] 3)
  have c0 := (B1.new w p).cell
  have q1 : (p != 5) = true := by simpa using h5
  have q2 : (p != 13) = true := by simpa using h13
  clear h5 h13
  go_enter Tryd.func32, Tryd.ntmps32
  go_wp2_with fail
  go_ret2
  exact ⟨rfl, hb0⟩

set_option maxHeartbeats 1000000 in
theorem grc2_any (i j Bn : Nat) (w : World) (hn : B1 w Bn 2) (hi : i < 4) (hj : j < 4) :
    Calls Tryd.prog 76 #[.int .i64 i, .int .i64 j, .pointer (some ⟨Bn, 0, none⟩)] w fun e w' => e = .returned (.bool (gridF 2 i j)) ∧ Below w.heap.size w w' := by
  have HF : Hid (gridF 2 i j = (decide (i / 2 = j / 2) || decide (i % 2 = j % 2))) := rfl
  have c1 := hn.cell
  have d1 : (i:Int).tdiv 2 = ((i / 2 : Nat) : Int) := rfl
  have d2 : (j:Int).tdiv 2 = ((j / 2 : Nat) : Int) := rfl
  have e1 : (i:Int) / 2 = ((i / 2 : Nat) : Int) := rfl
  have e2 : (j:Int) / 2 = ((j / 2 : Nat) : Int) := rfl
  have d3 : (i:Int).tmod 2 = ((i % 2 : Nat) : Int) := rfl
  have d4 : (j:Int).tmod 2 = ((j % 2 : Nat) : Int) := rfl
  have e3 : (i:Int) % 2 = ((i % 2 : Nat) : Int) := rfl
  have e4 : (j:Int) % 2 = ((j % 2 : Nat) : Int) := rfl
  have g1 : i / 2 ≤ 16 := by omega
  have g2 : j / 2 ≤ 16 := by omega
  have g3 : i % 2 ≤ 16 := by omega
  have g4 : j % 2 ≤ 16 := by omega
  clear hn
  generalize i / 2 = a at *
  generalize j / 2 = b at *
  generalize i % 2 = c at *
  generalize j % 2 = d at *
  have w1 : IntKind.i64.wrap (a : Int) = a := IntWalk.i64_in _ (by omega)
  have w2 : IntKind.i64.wrap (b : Int) = b := IntWalk.i64_in _ (by omega)
  have w3 : IntKind.i64.wrap (c : Int) = c := IntWalk.i64_in _ (by omega)
  have w4 : IntKind.i64.wrap (d : Int) = d := IntWalk.i64_in _ (by omega)
  by_cases h1 : a = b
  · have q1 : ((a:Int) == (b:Int)) = true := by rw [h1]; exact beq_self_eq_true _
    have HV : Hid (gridF 2 i j = true) := Lib.hid (by rw [HF.out, decide_eq_true h1, Bool.true_or])
    clear HF h1
    go_enter Tryd.func76, Tryd.ntmps76
    go_wp2_with fail
    go_quiet (fail)
    go_wp2
    go_ret
    exact ⟨ret_bool (by rw [HV.out]), below_drewN (Below.refl _ _) _⟩
  · have q1 : ((a:Int) == (b:Int)) = false := beq_eq_false_iff_ne.2 fun h => h1 (Int.ofNat_inj.1 h)
    have HV : Hid (gridF 2 i j = ((c:Int) == (d:Int))) := Lib.hid (by
      rw [HF.out, decide_eq_false h1, Bool.false_or]
      by_cases e : c = d
      · rw [decide_eq_true e, e]; exact (beq_self_eq_true _).symm
      · rw [decide_eq_false e]; exact (beq_eq_false_iff_ne.2 fun h => e (Int.ofNat_inj.1 h)).symm)
    clear HF h1
    go_enter Tryd.func76, Tryd.ntmps76
    go_wp2_with fail
    go_quiet (fail)
    go_wp2
    go_ret
    exact ⟨ret_bool (by rw [HV.out]), below_drewN (Below.refl _ _) _⟩

set_option maxHeartbeats 1000000 in
theorem Grid2_any (w : World) : Calls Tryd.prog 34 #[.int .i64 2] w fun e w' => ∃ v, e = .returned (.tuple #[v, .int .i64 0]) ∧ Nats w' v (gridL 2) ∧ Below w.heap.size w w' := by
  have hb0 := (Below.refl w.heap.size w).alloc (Nat.le_refl _) (.cells #[.int .i64 2] 3)
  have hn := B1.new w 2
  have c0 := hn.cell
  have HT : Hid (Tells 76 #[.pointer (some ⟨w.heap.size, 0, none⟩)] 4 (gridF 2) (w.alloc (.cells #[.int .i64 2] 3))) := Lib.hid ⟨enters_of Tryd.func76 (by kernel_rfl) rfl, fun i j w' hi hj _ hb' => grc2_any i j _ w' (hn.below hb') hi hj⟩
  have HC := Lib.hid (tie_any 4 76 _ (gridF 2) _ (by decide) HT.out)
  have HLE : Hid ((gridL 2).length = 4) := Lib.hid (by unfold gridL; rw [plant_length])
  have H16 : Hid (∀ z ∈ gridL 2, z < 65536) := Lib.hid (by
    intro z hz
    obtain ⟨i, _, rfl⟩ := List.mem_map.1 hz
    exact Nat.lt_of_lt_of_le (mk_lt _ _) (pw_nat 4 (by decide)).2)
  have HB := Lib.hid hb0
  clear hn hb0
  go_enter Tryd.func34, Tryd.ntmps34
  go_wp2_with fail
  refine HC.out.mono ?_
  rintro e w2 ⟨rfl, hN, hb2⟩
  have HN := Lib.hid (NatBlk.nats (hs := gridL 2) hN (by rw [HLE.out]; decide) H16.out)
  rw [HLE.out, World.size_alloc] at HN
  have HB2 := Lib.hid (HB.out.trans (hb2.mono HB.out.size))
  clear hN hb2
  go_wp2_with fail
  go_ret2
  exact ⟨_, rfl, HN.out, HB2.out⟩

set_option maxHeartbeats 1000000 in
theorem grc3_any (i j Bn : Nat) (w : World) (hn : B1 w Bn 3) (hi : i < 9) (hj : j < 9) :
    Calls Tryd.prog 76 #[.int .i64 i, .int .i64 j, .pointer (some ⟨Bn, 0, none⟩)] w fun e w' => e = .returned (.bool (gridF 3 i j)) ∧ Below w.heap.size w w' := by
  have HF : Hid (gridF 3 i j = (decide (i / 3 = j / 3) || decide (i % 3 = j % 3))) := rfl
  have c1 := hn.cell
  have d1 : (i:Int).tdiv 3 = ((i / 3 : Nat) : Int) := rfl
  have d2 : (j:Int).tdiv 3 = ((j / 3 : Nat) : Int) := rfl
  have e1 : (i:Int) / 3 = ((i / 3 : Nat) : Int) := rfl
  have e2 : (j:Int) / 3 = ((j / 3 : Nat) : Int) := rfl
  have d3 : (i:Int).tmod 3 = ((i % 3 : Nat) : Int) := rfl
  have d4 : (j:Int).tmod 3 = ((j % 3 : Nat) : Int) := rfl
  have e3 : (i:Int) % 3 = ((i % 3 : Nat) : Int) := rfl
  have e4 : (j:Int) % 3 = ((j % 3 : Nat) : Int) := rfl
  have g1 : i / 3 ≤ 16 := by omega
  have g2 : j / 3 ≤ 16 := by omega
  have g3 : i % 3 ≤ 16 := by omega
  have g4 : j % 3 ≤ 16 := by omega
  clear hn
  generalize i / 3 = a at *
  generalize j / 3 = b at *
  generalize i % 3 = c at *
  generalize j % 3 = d at *
  have w1 : IntKind.i64.wrap (a : Int) = a := IntWalk.i64_in _ (by omega)
  have w2 : IntKind.i64.wrap (b : Int) = b := IntWalk.i64_in _ (by omega)
  have w3 : IntKind.i64.wrap (c : Int) = c := IntWalk.i64_in _ (by omega)
  have w4 : IntKind.i64.wrap (d : Int) = d := IntWalk.i64_in _ (by omega)
  by_cases h1 : a = b
  · have q1 : ((a:Int) == (b:Int)) = true := by rw [h1]; exact beq_self_eq_true _
    have HV : Hid (gridF 3 i j = true) := Lib.hid (by rw [HF.out, decide_eq_true h1, Bool.true_or])
    clear HF h1
    go_enter Tryd.func76, Tryd.ntmps76
    go_wp2_with fail
    go_quiet (fail)
    go_wp2
    go_ret
    exact ⟨ret_bool (by rw [HV.out]), below_drewN (Below.refl _ _) _⟩
  · have q1 : ((a:Int) == (b:Int)) = false := beq_eq_false_iff_ne.2 fun h => h1 (Int.ofNat_inj.1 h)
    have HV : Hid (gridF 3 i j = ((c:Int) == (d:Int))) := Lib.hid (by
      rw [HF.out, decide_eq_false h1, Bool.false_or]
      by_cases e : c = d
      · rw [decide_eq_true e, e]; exact (beq_self_eq_true _).symm
      · rw [decide_eq_false e]; exact (beq_eq_false_iff_ne.2 fun h => e (Int.ofNat_inj.1 h)).symm)
    clear HF h1
    go_enter Tryd.func76, Tryd.ntmps76
    go_wp2_with fail
    go_quiet (fail)
    go_wp2
    go_ret
    exact ⟨ret_bool (by rw [HV.out]), below_drewN (Below.refl _ _) _⟩

set_option maxHeartbeats 1000000 in
theorem Grid3_any (w : World) : Calls Tryd.prog 34 #[.int .i64 3] w fun e w' => ∃ v, e = .returned (.tuple #[v, .int .i64 0]) ∧ Nats w' v (gridL 3) ∧ Below w.heap.size w w' := by
  have hb0 := (Below.refl w.heap.size w).alloc (Nat.le_refl _) (.cells #[.int .i64 3] 3)
  have hn := B1.new w 3
  have c0 := hn.cell
  have HT : Hid (Tells 76 #[.pointer (some ⟨w.heap.size, 0, none⟩)] 9 (gridF 3) (w.alloc (.cells #[.int .i64 3] 3))) := Lib.hid ⟨enters_of Tryd.func76 (by kernel_rfl) rfl, fun i j w' hi hj _ hb' => grc3_any i j _ w' (hn.below hb') hi hj⟩
  have HC := Lib.hid (tie_any 9 76 _ (gridF 3) _ (by decide) HT.out)
  have HLE : Hid ((gridL 3).length = 9) := Lib.hid (by unfold gridL; rw [plant_length])
  have H16 : Hid (∀ z ∈ gridL 3, z < 65536) := Lib.hid (by
    intro z hz
    obtain ⟨i, _, rfl⟩ := List.mem_map.1 hz
    exact Nat.lt_of_lt_of_le (mk_lt _ _) (pw_nat 9 (by decide)).2)
  have HB := Lib.hid hb0
  clear hn hb0
  go_enter Tryd.func34, Tryd.ntmps34
  go_wp2_with fail
  refine HC.out.mono ?_
  rintro e w2 ⟨rfl, hN, hb2⟩
  have HN := Lib.hid (NatBlk.nats (hs := gridL 3) hN (by rw [HLE.out]; decide) H16.out)
  rw [HLE.out, World.size_alloc] at HN
  have HB2 := Lib.hid (HB.out.trans (hb2.mono HB.out.size))
  clear hN hb2
  go_wp2_with fail
  go_ret2
  exact ⟨_, rfl, HN.out, HB2.out⟩

set_option maxHeartbeats 1000000 in
theorem grc4_any (i j Bn : Nat) (w : World) (hn : B1 w Bn 4) (hi : i < 16) (hj : j < 16) :
    Calls Tryd.prog 76 #[.int .i64 i, .int .i64 j, .pointer (some ⟨Bn, 0, none⟩)] w fun e w' => e = .returned (.bool (gridF 4 i j)) ∧ Below w.heap.size w w' := by
  have HF : Hid (gridF 4 i j = (decide (i / 4 = j / 4) || decide (i % 4 = j % 4))) := rfl
  have c1 := hn.cell
  have d1 : (i:Int).tdiv 4 = ((i / 4 : Nat) : Int) := rfl
  have d2 : (j:Int).tdiv 4 = ((j / 4 : Nat) : Int) := rfl
  have e1 : (i:Int) / 4 = ((i / 4 : Nat) : Int) := rfl
  have e2 : (j:Int) / 4 = ((j / 4 : Nat) : Int) := rfl
  have d3 : (i:Int).tmod 4 = ((i % 4 : Nat) : Int) := rfl
  have d4 : (j:Int).tmod 4 = ((j % 4 : Nat) : Int) := rfl
  have e3 : (i:Int) % 4 = ((i % 4 : Nat) : Int) := rfl
  have e4 : (j:Int) % 4 = ((j % 4 : Nat) : Int) := rfl
  have g1 : i / 4 ≤ 16 := by omega
  have g2 : j / 4 ≤ 16 := by omega
  have g3 : i % 4 ≤ 16 := by omega
  have g4 : j % 4 ≤ 16 := by omega
  clear hn
  generalize i / 4 = a at *
  generalize j / 4 = b at *
  generalize i % 4 = c at *
  generalize j % 4 = d at *
  have w1 : IntKind.i64.wrap (a : Int) = a := IntWalk.i64_in _ (by omega)
  have w2 : IntKind.i64.wrap (b : Int) = b := IntWalk.i64_in _ (by omega)
  have w3 : IntKind.i64.wrap (c : Int) = c := IntWalk.i64_in _ (by omega)
  have w4 : IntKind.i64.wrap (d : Int) = d := IntWalk.i64_in _ (by omega)
  by_cases h1 : a = b
  · have q1 : ((a:Int) == (b:Int)) = true := by rw [h1]; exact beq_self_eq_true _
    have HV : Hid (gridF 4 i j = true) := Lib.hid (by rw [HF.out, decide_eq_true h1, Bool.true_or])
    clear HF h1
    go_enter Tryd.func76, Tryd.ntmps76
    go_wp2_with fail
    go_quiet (fail)
    go_wp2
    go_ret
    exact ⟨ret_bool (by rw [HV.out]), below_drewN (Below.refl _ _) _⟩
  · have q1 : ((a:Int) == (b:Int)) = false := beq_eq_false_iff_ne.2 fun h => h1 (Int.ofNat_inj.1 h)
    have HV : Hid (gridF 4 i j = ((c:Int) == (d:Int))) := Lib.hid (by
      rw [HF.out, decide_eq_false h1, Bool.false_or]
      by_cases e : c = d
      · rw [decide_eq_true e, e]; exact (beq_self_eq_true _).symm
      · rw [decide_eq_false e]; exact (beq_eq_false_iff_ne.2 fun h => e (Int.ofNat_inj.1 h)).symm)
    clear HF h1
    go_enter Tryd.func76, Tryd.ntmps76
    go_wp2_with fail
    go_quiet (fail)
    go_wp2
    go_ret
    exact ⟨ret_bool (by rw [HV.out]), below_drewN (Below.refl _ _) _⟩

set_option maxHeartbeats 1000000 in
theorem Grid4_any (w : World) : Calls Tryd.prog 34 #[.int .i64 4] w fun e w' => ∃ v, e = .returned (.tuple #[v, .int .i64 0]) ∧ Nats w' v (gridL 4) ∧ Below w.heap.size w w' := by
  have hb0 := (Below.refl w.heap.size w).alloc (Nat.le_refl _) (.cells #[.int .i64 4] 3)
  have hn := B1.new w 4
  have c0 := hn.cell
  have HT : Hid (Tells 76 #[.pointer (some ⟨w.heap.size, 0, none⟩)] 16 (gridF 4) (w.alloc (.cells #[.int .i64 4] 3))) := Lib.hid ⟨enters_of Tryd.func76 (by kernel_rfl) rfl, fun i j w' hi hj _ hb' => grc4_any i j _ w' (hn.below hb') hi hj⟩
  have HC := Lib.hid (tie_any 16 76 _ (gridF 4) _ (by decide) HT.out)
  have HLE : Hid ((gridL 4).length = 16) := Lib.hid (by unfold gridL; rw [plant_length])
  have H16 : Hid (∀ z ∈ gridL 4, z < 65536) := Lib.hid (by
    intro z hz
    obtain ⟨i, _, rfl⟩ := List.mem_map.1 hz
    exact Nat.lt_of_lt_of_le (mk_lt _ _) (pw_nat 16 (by decide)).2)
  have HB := Lib.hid hb0
  clear hn hb0
  go_enter Tryd.func34, Tryd.ntmps34
  go_wp2_with fail
  refine HC.out.mono ?_
  rintro e w2 ⟨rfl, hN, hb2⟩
  have HN := Lib.hid (NatBlk.nats (hs := gridL 4) hN (by rw [HLE.out]; decide) H16.out)
  rw [HLE.out, World.size_alloc] at HN
  have HB2 := Lib.hid (HB.out.trans (hb2.mono HB.out.size))
  clear hN hb2
  go_wp2_with fail
  go_ret2
  exact ⟨_, rfl, HN.out, HB2.out⟩

set_option maxHeartbeats 400000 in
theorem Grid_bad (n : Int) (w : World) (h : n < 2 ∨ 4 < n) : Calls Tryd.prog 34 #[.int .i64 n] w fun e w' => e = .returned (.tuple #[.slice none 0 0, .int .i64 2]) ∧ Below w.heap.size w w' := by
  have hb0 := (Below.refl w.heap.size w).alloc (Nat.le_refl _) (.cells #[.int .i64 n] 3)
  have c0 := (B1.new w n).cell
  by_cases h1 : n < 2
  · clear h
    go_enter Tryd.func34, Tryd.ntmps34
    go_wp2_with fail
    go_ret2
    exact ⟨rfl, hb0⟩
  · have h2 : 4 < n := by omega
    clear h
    go_enter Tryd.func34, Tryd.ntmps34
    go_wp2_with fail
    go_ret2
    exact ⟨rfl, hb0⟩
end Go.Proofs.YtdnhfnegnjdeoaaDoor
