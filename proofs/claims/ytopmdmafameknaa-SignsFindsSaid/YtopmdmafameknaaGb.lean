/- good: the program's; the reference's Sequence and circulant -/
import Derived.Test.YtopmdmafameknaaGa
namespace Go.Proofs.Ytopmdmafameknaa
open Go.RowKit

def selN (a b c d k : Nat) : Nat := match k with | 0 => a | 1 => b | 2 => c | _ => d
theorem sel_cast (a b c d : Nat) (k : Nat) : sel (a:Int) b c d k = (selN a b c d k : Int) := by
  match k with
  | 0 => rfl
  | 1 => rfl
  | 2 => rfl
  | (_+3) => rfl
/-- At how many of the first j places a sequence differs from itself turned by k. -/
def dif (m k x : Nat) : Nat → Nat
  | 0 => 0
  | j+1 => dif m k x j + (x.testBit j != x.testBit ((k + m - j) % m)).toNat
theorem dif_le (m k x j : Nat) : dif m k x j ≤ j := by
  induction j with
  | zero => exact Nat.le_refl _
  | succ j ih => have := Bool.toNat_le (x.testBit j != x.testBit ((k + m - j) % m)); simp only [dif]; omega
def difS (m k a b c d : Nat) : Nat → Nat
  | 0 => 0
  | q+1 => difS m k a b c d q + dif m k (selN a b c d q) m
theorem difS_le (m k a b c d q : Nat) : difS m k a b c d q ≤ q * m := by
  induction q with
  | zero => simp [difS]
  | succ q ih => have := dif_le m k (selN a b c d q) m; simp only [difS, Nat.succ_mul]; omega
/-- Whether four sequences are good, as the program asks it. -/
def Good (m a b c d : Nat) : Prop := ∀ k, k < m → 1 ≤ k → 2 * difS m k a b c d 4 = 4 * m
instance (m a b c d : Nat) : Decidable (Good m a b c d) := by unfold Good; infer_instance
def goodB (m a b c d : Nat) : Bool := decide (Good m a b c d)

set_option maxHeartbeats 2000000 in
set_option maxRecDepth 100000 in
theorem good_any (m a b c d : Nat) (w : World) (h1 : 1 ≤ m) (hm : m ≤ 5) (hx : ∀ q, selN a b c d q < 65536) :
    Calls Try.prog 82 #[.int .i64 m, arr4 a b c d] w fun e w' => e = .returned (.bool (goodB m a b c d)) ∧ Below w.heap.size w w' := by
  have hmz : ((m:Int) == 0) = false := by simp; omega
  have hix := fun (k : Nat) (hk : k < 4) w => idx4 a b c d k hk w
  simp only [sel_cast] at hix
  have HIX := Lib.hid hix
  have HXl := Lib.hid hx
  clear hix hx
  go_enter Try.func82, Try.ntmps82
  go_wp2_with fail
  go_loopw [5] (fun i wr => ∃ k : Nat, 1 ≤ k ∧ k ≤ m ∧ i = .int .i64 k ∧ (∀ j : Nat, j < k → 1 ≤ j → 2 * difS m j a b c d 4 = 4 * m) ∧ Below (w.heap.size + 1) (w.alloc (.cells #[.int .i64 a, .int .i64 b, .int .i64 c, .int .i64 d] 43)) wr) (fun i _ => m - (intOf i).toNat)
  case atStart => exact ⟨1, Nat.le_refl _, h1, rfl, fun j hj h => absurd hj (by omega), Below.refl _ _⟩
  case round =>
    obtain ⟨k, hk1, hk, rfl, ha, hb⟩ := hrel
    have HA := Lib.hid ha
    have HB := Lib.hid hb
    have hBox : ∀ i : Nat, ∀ u, #[Value.int .i64 (a:Int), .int .i64 b, .int .i64 c, .int .i64 d][i]? = some u → wr.cell? ⟨w.heap.size, i, none⟩ = some u := fun i u hu => by
      rw [hb.cell (p := ⟨w.heap.size, i, none⟩) (Nat.lt_succ_self _), World.cell?_alloc_new]; exact hu
    have c0 := hBox 0 _ rfl
    have c1 := hBox 1 _ rfl
    have c2 := hBox 2 _ rfl
    have c3 := hBox 3 _ rfl
    clear ha hb hBox
    by_cases hlt : k < m
    · go_wp2_with fail
      clear c0 c1 c2 c3
      go_loopw [6, 16] (fun s i wr => ∃ q : Nat, q ≤ 4 ∧ i = .int .i64 q ∧ s = .int .i64 (difS m k a b c d q) ∧ Below (w.heap.size + 1) (w.alloc (.cells #[.int .i64 a, .int .i64 b, .int .i64 c, .int .i64 d] 43)) wr) (fun _ i _ => 4 - (intOf i).toNat)
      case atStart => exact ⟨0, Nat.zero_le _, rfl, rfl, HB.out⟩
      case round =>
        clear HB
        obtain ⟨q, hq, rfl, rfl, hb⟩ := hrel
        have HB := Lib.hid hb
        have hsl := difS_le m k a b c d q
        have hsl2 : q * m ≤ 4 * 5 := Nat.mul_le_mul hq hm
        clear hb
        by_cases hltq : q < 4
        · have hix := HIX.out q hltq
          have hxq := HXl.out q
          have HSq : Hid (difS m k a b c d (q+1) = difS m k a b c d q + dif m k (selN a b c d q) m) := rfl
          generalize difS m k a b c d q = s0 at *
          generalize selN a b c d q = x at *
          go_wp2_with fail
          go_loopw [6, 20] (fun s i wr => ∃ j : Nat, j ≤ m ∧ i = .int .i64 j ∧ s = .int .i64 ((s0 + dif m k x j : Nat)) ∧ Below (w.heap.size + 1) (w.alloc (.cells #[.int .i64 a, .int .i64 b, .int .i64 c, .int .i64 d] 43)) wr) (fun _ i _ => m - (intOf i).toNat)
          case atStart => exact ⟨0, Nat.zero_le _, rfl, rfl, HB.out⟩
          case round =>
            clear HB
            obtain ⟨j, hj, rfl, rfl, hb⟩ := hrel
            have HB := Lib.hid hb
            have hdl := dif_le m k x j
            clear hb
            by_cases hltj : j < m
            · have HD : Hid (dif m k x (j+1) = dif m k x j + (!(x.testBit j == x.testBit ((k + m - j) % m))).toNat) := rfl
              have hrm : (k + m - j) % m < m := Nat.mod_lt _ (by omega)
              have hkj : (k:Int) - j + m = ((k + m - j : Nat) : Int) := by omega
              have d1 : ((k:Int) - j + m).tmod m = (((k + m - j) % m : Nat) : Int) := by rw [hkj]; rfl
              have d2 : ((k:Int) - j + m) % m = (((k + m - j) % m : Nat) : Int) := by rw [hkj]; rfl
              have hj16 : j ≤ 16 := by omega
              have hr16 : (k + m - j) % m ≤ 16 := by omega
              clear hkj
              generalize dif m k x j = s1 at *
              generalize (k + m - j) % m = r at *
              have w1 : IntKind.i64.wrap ((k:Int) - j) = (k:Int) - j := IntWalk.i64_in _ (by omega)
              have w2 : IntKind.i64.wrap ((k:Int) - j + m) = (k:Int) - j + m := IntWalk.i64_in _ (by omega)
              go_wp2_with fail
              go_quiet ((go_at_call 73; exact quiet_eq (has_any _ _ _ (by assumption) (by assumption))))
              clear w1 w2 d1 d2
              cases hbb : (x.testBit j == x.testBit r) with
              | false =>
                have HD' : Hid (dif m k x (j+1) = s1 + 1) := HD.out.trans (by rw [hbb]; rfl)
                clear hbb
                go_wp2
                go_roundw
                case rel => exact ⟨j + 1, by omega, by go_num, by rw [HD'.out]; go_num, below_drewN HB.out _⟩
                case measure => simp [intOf]; omega
              | true =>
                have HD' : Hid (dif m k x (j+1) = s1) := HD.out.trans (by rw [hbb]; rfl)
                clear hbb
                go_wp2
                go_roundw
                case rel => exact ⟨j + 1, by omega, by go_num, by rw [HD'.out], below_drewN HB.out _⟩
                case measure => simp [intOf]; omega
            · obtain rfl : m = j := by omega
              rw [← HSq.out]
              go_wp2
              go_roundw
              case rel => exact ⟨q + 1, by omega, by go_num, rfl, HB.out⟩
              case measure => simp [intOf]; omega
        · obtain rfl : q = 4 := by omega
          have hDK : Hid (∀ h : 2 * difS m k a b c d 4 = 4 * m, ∀ j : Nat, j < k + 1 → 1 ≤ j → 2 * difS m j a b c d 4 = 4 * m) := fun h j hj h1 => by
            by_cases e : j = k
            · subst e; exact h
            · exact HA.out j (by omega) h1
          have hBd : Hid (2 * difS m k a b c d 4 ≠ 4 * m → goodB m a b c d = false) := fun h => decide_eq_false fun hg => h (hg k hlt hk1)
          generalize difS m k a b c d 4 = s4 at *
          by_cases he : 2 * s4 = 4 * m
          · have hd : ((2 * (s4:Int)) != 4 * (m:Int)) = false := by simp; omega
            have HN := Lib.hid (hDK.out he)
            clear he
            go_wp2
            go_roundw
            case rel => exact ⟨k + 1, by omega, by omega, by go_num, HN.out, HB.out⟩
            case measure => simp [intOf]; omega
          · have hd : ((2 * (s4:Int)) != 4 * (m:Int)) = true := by simp; omega
            have HN := Lib.hid (hBd.out he)
            clear he
            go_wp2
            go_ret
            exact ⟨ret_bool HN.out.symm, ((Below.refl w.heap.size w).alloc (Nat.le_refl _) _).trans (HB.out.mono (by omega))⟩
    · obtain rfl : m = k := by omega
      have HG : Hid (goodB m a b c d = true) := decide_eq_true fun j hj h => HA.out j hj h
      go_wp2
      go_ret
      exact ⟨ret_bool HG.out.symm, ((Below.refl w.heap.size w).alloc (Nat.le_refl _) _).trans (HB.out.mono (by omega))⟩

def GoodPost (w : World) (m a b c d : Int) (e : Ending) (w' : World) : Prop :=
  (if seqsI m a b c d = true then e = .returned (.tuple #[.bool (goodB m.toNat a.toNat b.toNat c.toNat d.toNat), .int .i64 0]) else e = .returned (.tuple #[.bool false, .int .i64 2])) ∧ Below w.heap.size w w'

theorem seqB_nat {m : Nat} {s : Int} (hm : m ≤ 5) (h : seqB m s = true) : ∃ x : Nat, s = x ∧ x < 2 ^ m ∧ symA m x m = true ∧ x < 65536 := by
  simp only [seqB, Bool.and_eq_true] at h
  have hb := of_decide_eq_true h.1
  obtain ⟨x, rfl⟩ := Int.eq_ofNat_of_zero_le hb.1
  have := pw_cast m
  have := (pw_nat m (by omega)).2
  exact ⟨x, rfl, by omega, by simpa using h.2, by omega⟩
theorem seqsI_nat {m a b c d : Int} (h : seqsI m a b c d = true) : ∃ n x0 x1 x2 x3 : Nat, m = n ∧ (n = 1 ∨ n = 3 ∨ n = 5) ∧ a = x0 ∧ b = x1 ∧ c = x2 ∧ d = x3 ∧ (∀ q, selN x0 x1 x2 x3 q < 2 ^ n ∧ symA n (selN x0 x1 x2 x3 q) n = true ∧ selN x0 x1 x2 x3 q < 65536) := by
  simp only [seqsI, Bool.and_eq_true] at h
  obtain ⟨n, rfl, hn⟩ := isM_of h.1
  have h2 := h.2
  rw [Int.toNat_natCast] at h2
  simp only [seqs, Bool.and_eq_true] at h2
  obtain ⟨⟨⟨ha, hb⟩, hc⟩, hd⟩ := h2
  obtain ⟨x0, rfl, p0⟩ := seqB_nat (by omega) ha
  obtain ⟨x1, rfl, p1⟩ := seqB_nat (by omega) hb
  obtain ⟨x2, rfl, p2⟩ := seqB_nat (by omega) hc
  obtain ⟨x3, rfl, p3⟩ := seqB_nat (by omega) hd
  refine ⟨n, x0, x1, x2, x3, rfl, hn, rfl, rfl, rfl, rfl, fun q => ?_⟩
  match q with
  | 0 => exact p0
  | 1 => exact p1
  | 2 => exact p2
  | (_+3) => exact p3

set_option maxHeartbeats 1000000 in
set_option maxRecDepth 100000 in
theorem Good_any (m a b c d : Int) (w : World) :
    Calls Try.prog 43 #[.int .i64 m, arr4 a b c d] w (GoodPost w m a b c d) := by
  have HS := Lib.hid (fun w => sequences_any m a b c d w)
  cases hs : seqsI m a b c d with
  | false =>
    rw [hs] at HS
    have HSS := Lib.hid hs
    clear hs
    go_enter Try.func43, Try.ntmps43
    go_wp2_with fail
    refine (HS.out _).mono ?_
    rintro e w1 ⟨rfl, hb1⟩
    have HB := Lib.hid (((Below.refl w.heap.size w).alloc (Nat.le_refl _) _).trans (hb1.mono (by simp)))
    clear hb1
    go_wp2
    go_ret2
    unfold GoodPost
    rw [HSS.out]
    exact ⟨rfl, HB.out⟩
  | true =>
    rw [hs] at HS
    have HSS := Lib.hid hs
    obtain ⟨n, x0, x1, x2, x3, rfl, hn, rfl, rfl, rfl, rfl, hx⟩ := seqsI_nat hs
    have HG := Lib.hid (fun w => good_any n x0 x1 x2 x3 w (by omega) (by omega) (fun q => (hx q).2.2))
    clear hs hn hx
    go_enter Try.func43, Try.ntmps43
    go_wp2_with fail
    refine (HS.out _).mono ?_
    rintro e w1 ⟨rfl, hb1⟩
    have HB := Lib.hid (((Below.refl w.heap.size w).alloc (Nat.le_refl _) _).trans (hb1.mono (by simp)))
    have hB1 := hb1
    have k0 : w1.cell? ⟨w.heap.size, 0, none⟩ = some (.int .i64 x0) := by rw [hB1.cell (p := ⟨w.heap.size, 0, none⟩) (by simp)]; simp
    have k1 : w1.cell? ⟨w.heap.size, 1, none⟩ = some (.int .i64 x1) := by rw [hB1.cell (p := ⟨w.heap.size, 1, none⟩) (by simp)]; simp
    have k2 : w1.cell? ⟨w.heap.size, 2, none⟩ = some (.int .i64 x2) := by rw [hB1.cell (p := ⟨w.heap.size, 2, none⟩) (by simp)]; simp
    have k3 : w1.cell? ⟨w.heap.size, 3, none⟩ = some (.int .i64 x3) := by rw [hB1.cell (p := ⟨w.heap.size, 3, none⟩) (by simp)]; simp
    clear hb1 hB1
    go_wp2_with fail
    refine (HG.out _).mono ?_
    rintro e w2 ⟨rfl, hb2⟩
    have HB2 := Lib.hid (HB.out.trans (hb2.mono HB.out.size))
    clear hb2
    go_wp2
    go_ret2
    unfold GoodPost
    rw [if_pos HSS.out, Int.toNat_natCast, Int.toNat_natCast, Int.toNat_natCast, Int.toNat_natCast, Int.toNat_natCast]
    exact ⟨rfl, HB2.out⟩
end Go.Proofs.Ytopmdmafameknaa
