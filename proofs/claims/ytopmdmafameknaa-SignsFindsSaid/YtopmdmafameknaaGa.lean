/- sequences: length, isSequence, sequences; the reference's Sequence and circulant -/
import Derived.Test.YtopmdmafameknaaDw
import Derived.Test.YtopmdmafameknaaBs
namespace Go.Proofs.Ytopmdmafameknaa
open Go.RowKit

def isM (m : Int) : Bool := m == 1 || m == 3 || m == 5
theorem isM_of {m : Int} (h : isM m = true) : ∃ n : Nat, m = n ∧ (n = 1 ∨ n = 3 ∨ n = 5) := ⟨m.toNat, by simp [isM] at h; omega, by simp [isM] at h; omega⟩

set_option maxHeartbeats 400000 in
theorem length_any (m : Int) (w : World) : Calls Try.prog 85 #[.int .i64 m] w fun e w' => e = .returned (.bool (isM m)) ∧ w = w' := by
  by_cases h1 : m = 1
  · subst h1
    go_enter Try.func85, Try.ntmps85
    go_wp2
    go_ret
    exact ⟨rfl, rfl⟩
  by_cases h3 : m = 3
  · subst h3
    go_enter Try.func85, Try.ntmps85
    go_wp2
    go_ret
    exact ⟨rfl, rfl⟩
  by_cases h5 : m = 5
  · subst h5
    go_enter Try.func85, Try.ntmps85
    go_wp2
    go_ret
    exact ⟨rfl, rfl⟩
  have HI : Hid (isM m = false) := (show isM m = false by simp [isM]; omega)
  have e1 : (m == 1) = false := by simpa using h1
  have e3 : (m == 3) = false := by simpa using h3
  have e5 : (m == 5) = false := by simpa using h5
  clear h1 h3 h5
  go_enter Try.func85, Try.ntmps85
  go_wp2
  go_ret
  exact ⟨ret_bool HI.out.symm, rfl⟩

/-- The first n bits from 1 on are those from the end. -/
def symA (m x k : Nat) : Bool := (List.range k).all fun i => i == 0 || x.testBit i == x.testBit (m - i)
theorem symA_succ (m x k : Nat) : symA m x (k+1) = (symA m x k && (k == 0 || x.testBit k == x.testBit (m - k))) := by simp [symA, List.range_succ]
theorem symA_one (m x : Nat) : symA m x 1 = true := rfl
theorem symA_bad {m x k : Nat} (hk : k < m) (h0 : 0 < k) (h : (x.testBit k == x.testBit (m - k)) = false) : symA m x m = false := by
  unfold symA
  rw [List.all_eq_false]
  refine ⟨k, List.mem_range.2 hk, ?_⟩
  rw [h, show (k == 0) = false by simp; omega]; decide
def seqB (m : Nat) (s : Int) : Bool := setB s m && symA m s.toNat m

set_option maxHeartbeats 1000000 in
theorem isSeq_any (m : Nat) (s : Int) (w : World) (h1 : 1 ≤ m) (hm : m ≤ 5) :
    Calls Try.prog 87 #[.int .i64 m, .int .i64 s] w fun e w' => e = .returned (.bool (seqB m s)) ∧ w = w' := by
  have HS := Lib.hid (isSet_any s m w (by omega))
  cases hs : setB s m with
  | false =>
    rw [hs] at HS
    have HB : Hid (seqB m s = false) := (show (setB s m && symA m s.toNat m) = false by rw [hs]; rfl)
    clear hs
    go_enter Try.func87, Try.ntmps87
    go_wp2_with fail
    refine HS.out.mono ?_
    rintro e w' ⟨rfl, rfl⟩
    go_wp2
    go_ret
    exact ⟨ret_bool HB.out.symm, rfl⟩
  | true =>
    rw [hs] at HS
    have hb := of_decide_eq_true hs
    obtain ⟨x, rfl⟩ := Int.eq_ofNat_of_zero_le hb.1
    have hp := pw_bd m (by omega)
    have hx : x < 65536 := by omega
    have HB : Hid (seqB m (x:Int) = symA m x m) := (show (setB (x:Int) m && symA m (Int.toNat (x:Int)) m) = symA m x m by rw [hs, Int.toNat_natCast]; rfl)
    clear hs hb
    go_enter Try.func87, Try.ntmps87
    go_wp2_with fail
    refine HS.out.mono ?_
    rintro e w' ⟨rfl, rfl⟩
    clear HS
    go_wp2_with fail
    go_loop [5] (fun i => ∃ k : Nat, 1 ≤ k ∧ k ≤ m ∧ i = .int .i64 k ∧ symA m x k = true) (fun i => m - (intOf i).toNat)
    case atStart => exact ⟨1, Nat.le_refl _, h1, rfl, symA_one m x⟩
    case round =>
      obtain ⟨k, hk1, hk, rfl, ha⟩ := hrel
      by_cases hlt : k < m
      · have HA := Lib.hid ha
        have H1 := Lib.hid (has_any x k w hx (by omega))
        have H2 := Lib.hid (has_any x (m - k) w hx (by omega))
        have hsub : ((m - k : Nat) : Int) = (m:Int) - k := by omega
        rw [hsub] at H2
        have HSu := Lib.hid (symA_succ m x k)
        have HBd := Lib.hid (fun h => symA_bad (x := x) hlt (by omega) h)
        have hk0 : (k == 0) = false := by simp; omega
        have HK0 := Lib.hid hk0
        clear ha hsub hk0
        cases hb1 : x.testBit k <;> cases hb2 : x.testBit (m - k)
        all_goals
          rw [hb1, hb2] at HBd HSu
          rw [hb1] at H1
          rw [hb2] at H2
          clear hb1 hb2
          go_wp2_with fail
          refine H1.out.mono ?_
          rintro e w' ⟨rfl, rfl⟩
          go_wp2_with fail
          refine H2.out.mono ?_
          rintro e w' ⟨rfl, rfl⟩
          first
            | (have HN : Hid (symA m x (k+1) = true) := (show _ = _ by rw [HSu.out, HA.out]; first | rfl | simp)
               go_wp2
               go_round
               case rel => exact ⟨k + 1, by omega, by omega, by go_num, HN.out⟩
               case measure => simp [intOf]; omega)
            | (have HN := Lib.hid (HBd.out rfl)
               go_wp2
               go_ret
               exact ⟨ret_bool (by rw [HB.out, HN.out]), rfl⟩)
      · obtain rfl : m = k := by omega
        have HA := Lib.hid ha
        clear ha
        go_wp2
        go_ret
        exact ⟨ret_bool (by rw [HB.out, HA.out]), rfl⟩

def sel (a b c d : Int) (k : Nat) : Int := match k with | 0 => a | 1 => b | 2 => c | _ => d
theorem idx4 (a b c d : Int) (k : Nat) (hk : k < 4) (w : World) : (Instr.index 43 (.agg #[.int .i64 a, .int .i64 b, .int .i64 c, .int .i64 d]) (.int .i64 k)).run Try.prog w = .ok (.int .i64 (sel a b c d k)) w := by
  have h0 : (Instr.index 43 (.agg #[.int .i64 a, .int .i64 b, .int .i64 c, .int .i64 d]) (.int .i64 0)).run Try.prog w = .ok (.int .i64 a) w := by kernel_rfl
  have h1 : (Instr.index 43 (.agg #[.int .i64 a, .int .i64 b, .int .i64 c, .int .i64 d]) (.int .i64 1)).run Try.prog w = .ok (.int .i64 b) w := by kernel_rfl
  have h2 : (Instr.index 43 (.agg #[.int .i64 a, .int .i64 b, .int .i64 c, .int .i64 d]) (.int .i64 2)).run Try.prog w = .ok (.int .i64 c) w := by kernel_rfl
  have h3 : (Instr.index 43 (.agg #[.int .i64 a, .int .i64 b, .int .i64 c, .int .i64 d]) (.int .i64 3)).run Try.prog w = .ok (.int .i64 d) w := by kernel_rfl
  match k, hk with
  | 0, _ => exact h0
  | 1, _ => exact h1
  | 2, _ => exact h2
  | 3, _ => exact h3
abbrev arr4 (a b c d : Int) : Value := .agg #[.int .i64 a, .int .i64 b, .int .i64 c, .int .i64 d]
def seqs (m : Nat) (a b c d : Int) : Bool := seqB m a && seqB m b && seqB m c && seqB m d
theorem seqs_bad {m : Nat} {a b c d : Int} {k : Nat} (hk : k < 4) (h : seqB m (sel a b c d k) = false) : seqs m a b c d = false := by
  unfold seqs
  match k, hk, h with
  | 0, _, h => rw [show seqB m a = false from h]; rfl
  | 1, _, h => rw [show seqB m b = false from h]; simp
  | 2, _, h => rw [show seqB m c = false from h]; simp
  | 3, _, h => rw [show seqB m d = false from h]; simp
theorem seqs_good {m : Nat} {a b c d : Int} (h : ∀ k, k < 4 → seqB m (sel a b c d k) = true) : seqs m a b c d = true := by
  unfold seqs
  rw [show seqB m a = true from h 0 (by decide), show seqB m b = true from h 1 (by decide), show seqB m c = true from h 2 (by decide), show seqB m d = true from h 3 (by decide)]; rfl
def seqsI (m a b c d : Int) : Bool := isM m && seqs m.toNat a b c d

set_option maxHeartbeats 1000000 in
set_option maxRecDepth 100000 in
theorem sequences_any (m a b c d : Int) (w : World) :
    Calls Try.prog 81 #[.int .i64 m, arr4 a b c d] w fun e w' => e = .returned (.bool (seqsI m a b c d)) ∧ Below w.heap.size w w' := by
  have HL := Lib.hid (fun w => length_any m w)
  cases hm : isM m with
  | false =>
    have HB : Hid (seqsI m a b c d = false) := (show (isM m && _) = false by rw [hm]; rfl)
    rw [hm] at HL
    clear hm
    go_enter Try.func81, Try.ntmps81
    go_wp2_with fail
    refine (HL.out _).mono ?_
    rintro e w' ⟨rfl, rfl⟩
    go_wp2
    go_ret
    exact ⟨ret_bool HB.out.symm, (Below.refl _ _).alloc (Nat.le_refl _) _⟩
  | true =>
    rw [hm] at HL
    obtain ⟨n, rfl, hn⟩ := isM_of hm
    have HB : Hid (seqsI n a b c d = seqs n a b c d) := (show (isM n && seqs (Int.toNat (n:Int)) a b c d) = _ by rw [hm, Int.toNat_natCast]; rfl)
    have hn5 : n ≤ 5 := by omega
    have hn1 : 1 ≤ n := by omega
    clear hm hn
    go_enter Try.func81, Try.ntmps81
    go_wp2_with fail
    refine (HL.out _).mono ?_
    rintro e w' ⟨rfl, rfl⟩
    clear HL
    go_wp2_with fail
    go_loop [11] (fun i => ∃ k : Nat, k ≤ 4 ∧ i = .int .i64 k ∧ ∀ j : Nat, j < k → seqB n (sel a b c d j) = true) (fun i => 4 - (intOf i).toNat)
    case atStart => exact ⟨0, Nat.zero_le _, rfl, fun j hj => absurd hj (by omega)⟩
    case round =>
      obtain ⟨k, hk, rfl, ha⟩ := hrel
      by_cases hlt : k < 4
      · have hix := idx4 a b c d k hlt
        have HA := Lib.hid ha
        have HQ := Lib.hid (fun w => isSeq_any n (sel a b c d k) w hn1 hn5)
        have HX := Lib.hid (fun (h : seqB n (sel a b c d k) = false) => seqs_bad hlt h)
        cases hq : seqB n (sel a b c d k) with
        | true =>
          have HN := Lib.hid (fun (j : Nat) (hj : j < k + 1) => if e : j = k then e ▸ hq else HA.out j (by omega))
          rw [hq] at HQ
          clear hq ha HX
          generalize sel a b c d k = z at *
          go_wp2_with fail
          refine (HQ.out _).mono ?_
          rintro e w' ⟨rfl, rfl⟩
          go_wp2
          go_round
          case rel => exact ⟨k + 1, by omega, by go_num, HN.out⟩
          case measure => simp [intOf]; omega
        | false =>
          have HX' := Lib.hid (HX.out hq)
          rw [hq] at HQ
          clear hq ha HX
          generalize sel a b c d k = z at *
          go_wp2_with fail
          refine (HQ.out _).mono ?_
          rintro e w' ⟨rfl, rfl⟩
          go_wp2
          go_ret
          exact ⟨ret_bool (by rw [HB.out, HX'.out]), (Below.refl _ _).alloc (Nat.le_refl _) _⟩
      · obtain rfl : k = 4 := by omega
        have HG := Lib.hid (seqs_good ha)
        go_wp2
        go_ret
        exact ⟨ret_bool (by rw [HB.out, HG.out]), (Below.refl _ _).alloc (Nat.le_refl _) _⟩
end Go.Proofs.Ytopmdmafameknaa
