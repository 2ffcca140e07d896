/- the reference's Sequence, circulant and Good -/
import Derived.Test.YtopmdmafameknaaGb
namespace Go.Proofs.Ytopmdmafameknaa
open Go.RowKit

set_option maxHeartbeats 1000000 in
theorem circ_any (m x i j : Nat) (w : World) (h1 : 1 ≤ m) (hm : m ≤ 5) (hx : x < 65536) (hi : i < m) (hj : j < m) :
    Calls Try.prog 84 #[.int .i64 m, .int .i64 x, .int .i64 i, .int .i64 j] w fun e w' => e = .returned (.int .i64 (sg x ((j + m - i) % m))) ∧ w = w' := by
  have hmz : ((m:Int) == 0) = false := by simp; omega
  have hrm : (j + m - i) % m < m := Nat.mod_lt _ (by omega)
  have hkj : (j:Int) - i + m = ((j + m - i : Nat) : Int) := by omega
  have d1 : ((j:Int) - i + m).tmod m = (((j + m - i) % m : Nat) : Int) := by rw [hkj]; rfl
  have d2 : ((j:Int) - i + m) % m = (((j + m - i) % m : Nat) : Int) := by rw [hkj]; rfl
  clear hkj
  generalize (j + m - i) % m = r at *
  have HS := Lib.hid (sg_and1 x r hx)
  have hb : 0 ≤ bits .and .i64 ((x:Int) / 2 ^ r) 1 ∧ bits .and .i64 ((x:Int) / 2 ^ r) 1 ≤ 1 := by
    rw [bit_and1 _ r hx]; cases x.testBit r <;> decide
  go_enter Try.func84, Try.ntmps84
  go_wp2
  go_ret
  exact ⟨ret_int HS.out, rfl⟩

/-- A place of the square of a circulant, its first k summands. -/
def cirS (m x i j : Nat) : Nat → Int
  | 0 => 0
  | k+1 => cirS m x i j k + sg x ((k + m - i) % m) * sg x ((j + m - k) % m)
theorem cirS_bd (m x i j k : Nat) : -(k:Int) ≤ cirS m x i j k ∧ cirS m x i j k ≤ k := by
  induction k with
  | zero => simp [cirS]
  | succ k ih => have := sg_mul_bd x x ((k + m - i) % m) ((j + m - k) % m); simp only [cirS]; omega
def totS4 (m a b c d i j : Nat) : Nat → Int
  | 0 => 0
  | q+1 => totS4 m a b c d i j q + cirS m (selN a b c d q) i j m
theorem totS4_bd (m a b c d i j q : Nat) (hm : m ≤ 5) : -5 * (q:Int) ≤ totS4 m a b c d i j q ∧ totS4 m a b c d i j q ≤ 5 * q := by
  induction q with
  | zero => simp [totS4]
  | succ q ih => have := cirS_bd m (selN a b c d q) i j m; simp only [totS4]; omega
def RGood (m a b c d : Nat) : Prop := ∀ i, i < m → ∀ j, j < m → totS4 m a b c d i j 4 = if i = j then 4 * (m:Int) else 0

def chkC (m : Nat) : Bool := (List.range 32).all fun x => !(symA m x m && decide (x < 2 ^ m)) || ((List.range m).all fun i => (List.range m).all fun j => cirS m x i j m == (m:Int) - 2 * dif m ((j + m - i) % m) x m)
def chkZ (m : Nat) : Bool := (List.range 32).all fun x => !(symA m x m && decide (x < 2 ^ m)) || dif m 0 x m == 0
theorem chkCZ : chkC 1 = true ∧ chkC 3 = true ∧ chkC 5 = true ∧ chkZ 1 = true ∧ chkZ 3 = true ∧ chkZ 5 = true := by decide +kernel
theorem cir_dif (m : Nat) (hm : m = 1 ∨ m = 3 ∨ m = 5) (x : Nat) (h32 : x < 32) (hs : symA m x m = true) (hx : x < 2 ^ m) (i j : Nat) (hi : i < m) (hj : j < m) : cirS m x i j m = (m:Int) - 2 * dif m ((j + m - i) % m) x m := by
  have h : chkC m = true := by
    obtain ⟨h1, h3, h5, _⟩ := chkCZ
    rcases hm with rfl | rfl | rfl
    · exact h1
    · exact h3
    · exact h5
  have h2 := List.all_eq_true.1 h x (List.mem_range.2 h32)
  rw [hs, decide_eq_true hx] at h2
  have h3 := List.all_eq_true.1 (show ((List.range m).all fun i => (List.range m).all fun j => cirS m x i j m == (m:Int) - 2 * dif m ((j + m - i) % m) x m) = true from h2) i (List.mem_range.2 hi)
  have h4 := List.all_eq_true.1 h3 j (List.mem_range.2 hj)
  simpa using h4
theorem dif_zero (m : Nat) (hm : m = 1 ∨ m = 3 ∨ m = 5) (x : Nat) (h32 : x < 32) (hs : symA m x m = true) (hx : x < 2 ^ m) : dif m 0 x m = 0 := by
  have h : chkZ m = true := by
    obtain ⟨_, _, _, h1, h3, h5⟩ := chkCZ
    rcases hm with rfl | rfl | rfl
    · exact h1
    · exact h3
    · exact h5
  have h2 := List.all_eq_true.1 h x (List.mem_range.2 h32)
  rw [hs, decide_eq_true hx] at h2
  have h3 : (dif m 0 x m == 0) = true := h2
  simpa using h3

theorem good_same (m a b c d : Nat) (hm : m = 1 ∨ m = 3 ∨ m = 5) (hx : ∀ q, selN a b c d q < 2 ^ m ∧ symA m (selN a b c d q) m = true ∧ selN a b c d q < 65536) : RGood m a b c d ↔ Good m a b c d := by
  have hx32 : ∀ q, selN a b c d q < 32 := fun q => Nat.lt_of_lt_of_le (hx q).1 (by rcases hm with rfl | rfl | rfl <;> decide)
  have htot : ∀ i j, i < m → j < m → totS4 m a b c d i j 4 = 4 * (m:Int) - 2 * difS m ((j + m - i) % m) a b c d 4 := by
    intro i j hi hj
    have e := fun q => cir_dif m hm (selN a b c d q) (hx32 q) (hx q).2.1 (hx q).1 i j hi hj
    have e0 := e 0
    have e1 := e 1
    have e2 := e 2
    have e3 := e 3
    simp only [totS4, difS]
    omega
  constructor
  · intro h k hk hk1
    have := h 0 (by omega) k hk
    rw [htot 0 k (by omega) hk, if_neg (by omega)] at this
    have e : (k + m - 0) % m = k := by rw [Nat.sub_zero, Nat.add_mod_right, Nat.mod_eq_of_lt hk]
    rw [e] at this
    omega
  · intro h i hi j hj
    rw [htot i j hi hj]
    by_cases e : i = j
    · subst e
      rw [if_pos rfl]
      have e : (i + m - i) % m = 0 := by rw [show i + m - i = m by omega, Nat.mod_self]
      rw [e]
      have z := fun q => dif_zero m hm (selN a b c d q) (hx32 q) (hx q).2.1 (hx q).1
      have z0 := z 0
      have z1 := z 1
      have z2 := z 2
      have z3 := z 3
      simp only [difS]
      omega
    · rw [if_neg e]
      have hk : (j + m - i) % m < m := Nat.mod_lt _ (by omega)
      have hk0 : 1 ≤ (j + m - i) % m := by
        rcases Nat.lt_or_ge j i with h' | h'
        · rw [Nat.mod_eq_of_lt (by omega)]; omega
        · rw [show j + m - i = (j - i) + m by omega, Nat.add_mod_right, Nat.mod_eq_of_lt (by omega)]; omega
      have := h _ hk hk0
      omega

set_option maxHeartbeats 2000000 in
set_option maxRecDepth 100000 in
theorem rGood_any (m a b c d : Nat) (w : World) (hm1 : m = 1 ∨ m = 3 ∨ m = 5) (hx : ∀ q, selN a b c d q < 2 ^ m ∧ symA m (selN a b c d q) m = true ∧ selN a b c d q < 65536) :
    Calls Try.prog 46 #[.int .i64 m, arr4 a b c d] w fun e w' => e = .returned (.bool (goodB m a b c d)) ∧ Below w.heap.size w w' := by
  have h1 : 1 ≤ m := by omega
  have hm : m ≤ 5 := by omega
  have HSame := Lib.hid (good_same m a b c d hm1 hx)
  have hix := fun (k : Nat) (hk : k < 4) w => idx4 a b c d k hk w
  simp only [sel_cast] at hix
  have HIX := Lib.hid hix
  have HXl := Lib.hid (fun q => (hx q).2.2)
  have HBad : Hid (∀ i j, i < m → j < m → ¬ totS4 m a b c d i j 4 = (if i = j then 4 * (m:Int) else 0) → goodB m a b c d = false) := fun i j hi hj h => decide_eq_false fun hg => h (HSame.out.2 hg i hi j hj)
  have HGood : Hid ((∀ i, i < m → ∀ j, j < m → totS4 m a b c d i j 4 = if i = j then 4 * (m:Int) else 0) → goodB m a b c d = true) := fun h => decide_eq_true (HSame.out.1 h)
  clear hix hx hm1 HSame
  go_enter Try.func46, Try.ntmps46
  go_wp2_with fail
  go_loop [12] (fun i => ∃ k : Nat, k ≤ m ∧ i = .int .i64 k ∧ (∀ i, i < k → ∀ j, j < m → totS4 m a b c d i j 4 = if i = j then 4 * (m:Int) else 0)) (fun i => m - (intOf i).toNat)
  case atStart => exact ⟨0, Nat.zero_le _, rfl, fun j hj => absurd hj (by omega)⟩
  case round =>
    obtain ⟨i, hi, rfl, ha⟩ := hrel
    have HA := Lib.hid ha
    clear ha
    by_cases hlti : i < m
    · go_wp2_with fail
      go_loop [16] (fun v => ∃ k : Nat, k ≤ m ∧ v = .int .i64 k ∧ (∀ j, j < k → totS4 m a b c d i j 4 = if i = j then 4 * (m:Int) else 0)) (fun v => m - (intOf v).toNat)
      case atStart => exact ⟨0, Nat.zero_le _, rfl, fun j hj => absurd hj (by omega)⟩
      case round =>
        obtain ⟨j, hj, rfl, ha⟩ := hrel
        have HAj := Lib.hid ha
        clear ha
        by_cases hltj : j < m
        · go_wp2_with fail
          go_loop [7, 20] (fun s v => ∃ q : Nat, q ≤ 4 ∧ v = .int .i64 q ∧ s = .int .i64 (totS4 m a b c d i j q)) (fun _ v => 4 - (intOf v).toNat)
          case atStart => exact ⟨0, Nat.zero_le _, rfl, rfl⟩
          case round =>
            obtain ⟨q, hq, rfl, rfl⟩ := hrel
            have hsb := totS4_bd m a b c d i j q hm
            by_cases hltq : q < 4
            · have hix := HIX.out q hltq
              have hxq := HXl.out q
              have HSq : Hid (totS4 m a b c d i j (q+1) = totS4 m a b c d i j q + cirS m (selN a b c d q) i j m) := rfl
              generalize totS4 m a b c d i j q = s0 at *
              generalize selN a b c d q = x at *
              go_wp2_with fail
              go_loop [7, 24] (fun s v => ∃ k : Nat, k ≤ m ∧ v = .int .i64 k ∧ s = .int .i64 (s0 + cirS m x i j k)) (fun _ v => m - (intOf v).toNat)
              case atStart => exact ⟨0, Nat.zero_le _, rfl, by simp [cirS]⟩
              case round =>
                obtain ⟨k, hk, rfl, rfl⟩ := hrel
                have hcb := cirS_bd m x i j k
                by_cases hltk : k < m
                · have H1 := Lib.hid (fun w => circ_any m x i k w h1 hm hxq hlti hltk)
                  have H2 := Lib.hid (fun w => circ_any m x k j w h1 hm hxq hltk hltj)
                  have HC : Hid (cirS m x i j (k+1) = cirS m x i j k + sg x ((k + m - i) % m) * sg x ((j + m - k) % m)) := rfl
                  have hmb := sg_mul_bd x x ((k + m - i) % m) ((j + m - k) % m)
                  generalize cirS m x i j k = s1 at *
                  generalize sg x ((k + m - i) % m) = y1 at *
                  generalize sg x ((j + m - k) % m) = y2 at *
                  go_wp2_with fail
                  refine (H1.out _).mono ?_
                  rintro e w' ⟨rfl, rfl⟩
                  go_wp2_with fail
                  refine (H2.out _).mono ?_
                  rintro e w' ⟨rfl, rfl⟩
                  go_wp2
                  go_round
                  case rel => exact ⟨k + 1, by omega, by go_num, by rw [HC.out, Int.add_assoc]⟩
                  case measure => simp [intOf]; omega
                · obtain rfl : m = k := by omega
                  rw [← HSq.out]
                  go_wp2
                  go_round
                  case rel => exact ⟨q + 1, by omega, by go_num, rfl⟩
                  case measure => simp [intOf]; omega
            · obtain rfl : q = 4 := by omega
              have HBd := Lib.hid (HBad.out i j hlti hltj)
              have HNx : Hid (totS4 m a b c d i j 4 = (if i = j then 4 * (m:Int) else 0) → ∀ j', j' < j + 1 → totS4 m a b c d i j' 4 = if i = j' then 4 * (m:Int) else 0) := fun h j' hj' => by
                by_cases e : j' = j
                · subst e; exact h
                · exact HAj.out j' (by omega)
              generalize totS4 m a b c d i j 4 = s4 at *
              by_cases hij : i = j
              · have hd1 : ((i:Int) == (j:Int)) = true := by simp; omega
                have hd3 : ((i:Int) != (j:Int)) = false := by simp; omega
                rw [if_pos hij] at HBd HNx
                by_cases hs : s4 = 4 * (m:Int)
                · have hd2 : (s4 != 4 * (m:Int)) = false := by simpa using hs
                  have HN := Lib.hid (HNx.out hs)
                  clear hs hij
                  go_wp2
                  go_round
                  case rel => exact ⟨j + 1, by omega, by go_num, HN.out⟩
                  case measure => simp [intOf]; omega
                · have hd2 : (s4 != 4 * (m:Int)) = true := by simpa using hs
                  have HN := Lib.hid (HBd.out hs)
                  clear hs hij
                  go_wp2
                  go_ret
                  exact ⟨ret_bool HN.out.symm, (Below.refl w.heap.size w).alloc (Nat.le_refl _) _⟩
              · have hd1 : ((i:Int) == (j:Int)) = false := by simp; omega
                have hd3 : ((i:Int) != (j:Int)) = true := by simp; omega
                rw [if_neg hij] at HBd HNx
                by_cases hs : s4 = 0
                · have hd2 : (s4 != 0) = false := by simpa using hs
                  have HN := Lib.hid (HNx.out hs)
                  clear hs hij
                  go_wp2
                  go_round
                  case rel => exact ⟨j + 1, by omega, by go_num, HN.out⟩
                  case measure => simp [intOf]; omega
                · have hd2 : (s4 != 0) = true := by simpa using hs
                  have HN := Lib.hid (HBd.out hs)
                  clear hs hij
                  go_wp2
                  go_ret
                  exact ⟨ret_bool HN.out.symm, (Below.refl w.heap.size w).alloc (Nat.le_refl _) _⟩
        · obtain rfl : m = j := by omega
          have HNi : Hid (∀ i', i' < i + 1 → ∀ j, j < m → totS4 m a b c d i' j 4 = if i' = j then 4 * (m:Int) else 0) := fun i' hi' j hj => by
            by_cases e : i' = i
            · subst e; exact HAj.out j hj
            · exact HA.out i' (by omega) j hj
          go_wp2
          go_round
          case rel => exact ⟨i + 1, by omega, by go_num, HNi.out⟩
          case measure => simp [intOf]; omega
    · obtain rfl : m = i := by omega
      have HG := Lib.hid (HGood.out HA.out)
      go_wp2
      go_ret
      exact ⟨ret_bool HG.out.symm, (Below.refl w.heap.size w).alloc (Nat.le_refl _) _⟩

set_option maxHeartbeats 1000000 in
set_option maxRecDepth 100000 in
theorem rSequence_any (m s : Int) (w : World) :
    Calls Try.prog 45 #[.int .i64 m, .int .i64 s] w fun e w' => e = .returned (.bool (isM m && seqB m.toNat s)) ∧ Below w.heap.size w w' := by
  cases hm : isM m with
  | false =>
    have e1 : (m != 1) = true := by simp [isM] at hm; simp; omega
    have e3 : (m != 3) = true := by simp [isM] at hm; simp; omega
    have e5 : (m != 5) = true := by simp [isM] at hm; simp; omega
    clear hm
    go_enter Try.func45, Try.ntmps45
    go_wp2
    go_ret
    exact ⟨rfl, Below.refl _ _⟩
  | true =>
    obtain ⟨n, rfl, hn⟩ := isM_of hm
    have hpw := wrap_pw n (by omega)
    have hpb := pw_bd n (by omega)
    have h1 : 1 ≤ n := by omega
    have hn5 : n ≤ 5 := by omega
    rw [Int.toNat_natCast, Bool.true_and]
    have hguard : ((n:Int) != 1) = false ∨ (((n:Int) != 1) = true ∧ ((n:Int) != 3) = false) ∨ (((n:Int) != 1) = true ∧ ((n:Int) != 3) = true ∧ ((n:Int) != 5) = false) := by
      rcases hn with rfl | rfl | rfl
      · left; rfl
      · right; left; exact ⟨rfl, rfl⟩
      · right; right; exact ⟨rfl, rfl, rfl⟩
    clear hm hn
    rcases hguard with g | ⟨g, g2⟩ | ⟨g, g2, g3⟩
    all_goals
      by_cases h0 : s < 0
      · have HB : Hid (seqB n s = false) := (show (setB s n && symA n s.toNat n) = false by rw [show setB s n = false from decide_eq_false fun h => by omega]; rfl)
        go_enter Try.func45, Try.ntmps45
        go_wp2
        go_ret
        exact ⟨ret_bool HB.out.symm, Below.refl _ _⟩
      by_cases h3 : 2 ^ n ≤ s
      · have HB : Hid (seqB n s = false) := (show (setB s n && symA n s.toNat n) = false by rw [show setB s n = false from decide_eq_false fun h => by omega]; rfl)
        go_enter Try.func45, Try.ntmps45
        go_wp2
        go_ret
        exact ⟨ret_bool HB.out.symm, Below.refl _ _⟩
      obtain ⟨x, rfl⟩ := Int.eq_ofNat_of_zero_le (show 0 ≤ s by omega)
      have hx : x < 65536 := by omega
      have HB : Hid (seqB n (x:Int) = symA n x n) := (show (setB (x:Int) n && symA n (Int.toNat (x:Int)) n) = symA n x n by rw [show setB (x:Int) n = true from decide_eq_true ⟨by omega, by omega⟩, Int.toNat_natCast]; rfl)
      go_enter Try.func45, Try.ntmps45
      go_wp2_with fail
      go_loopw [5] (fun i wr => ∃ k : Nat, 1 ≤ k ∧ k ≤ n ∧ i = .int .i64 k ∧ symA n x k = true ∧ Below w.heap.size w wr) (fun i _ => n - (intOf i).toNat)
      case atStart => exact ⟨1, Nat.le_refl _, h1, rfl, symA_one n x, Below.refl _ _⟩
      case round =>
        obtain ⟨k, hk1, hk, rfl, ha, hb⟩ := hrel
        have HA := Lib.hid ha
        have HBl := Lib.hid hb
        clear ha hb
        by_cases hlt : k < n
        · have HSu := Lib.hid (symA_succ n x k)
          have HBd := Lib.hid (fun h => symA_bad (x := x) hlt (by omega) h)
          have ea := bit_and1 x k hx
          have eb := bit_and1 x (n - k) hx
          have hsub : ((n:Int) - k).toNat = n - k := by omega
          have hs0 : 0 ≤ (n:Int) - k := by omega
          have hne : (((x.testBit k).toNat : Int) != ((x.testBit (n - k)).toNat : Int)) = !(x.testBit k == x.testBit (n - k)) := by
            cases x.testBit k <;> cases x.testBit (n - k) <;> rfl
          have hk0 : Hid ((k == 0) = false) := (show (k == 0) = false by simp; omega)
          cases hbb : (x.testBit k == x.testBit (n - k)) with
          | true =>
            have HN : Hid (symA n x (k+1) = true) := (show _ = _ by rw [HSu.out, HA.out, hbb, hk0.out]; rfl)
            rw [hbb] at hne
            clear hbb
            generalize (((x.testBit k).toNat : Nat) : Int) = p1 at *
            generalize (((x.testBit (n - k)).toNat : Nat) : Int) = p2 at *
            have w1 : IntKind.i64.wrap ((n:Int) - k) = (n:Int) - k := IntWalk.i64_in _ (by omega)
            go_wp2_with fail
            go_quiet (fail)
            go_wp2
            go_roundw
            case rel => exact ⟨k + 1, by omega, by omega, by go_num, HN.out, below_drewN HBl.out _⟩
            case measure => simp [intOf]; omega
          | false =>
            have HN := Lib.hid (HBd.out hbb)
            rw [hbb] at hne
            clear hbb
            generalize (((x.testBit k).toNat : Nat) : Int) = p1 at *
            generalize (((x.testBit (n - k)).toNat : Nat) : Int) = p2 at *
            have w1 : IntKind.i64.wrap ((n:Int) - k) = (n:Int) - k := IntWalk.i64_in _ (by omega)
            go_wp2_with fail
            go_quiet (fail)
            go_wp2
            go_ret
            exact ⟨ret_bool (by rw [HB.out, HN.out]), below_drewN HBl.out _⟩
        · obtain rfl : n = k := by omega
          go_wp2
          go_ret
          exact ⟨ret_bool (by rw [HB.out, HA.out]), HBl.out⟩
end Go.Proofs.Ytopmdmafameknaa
