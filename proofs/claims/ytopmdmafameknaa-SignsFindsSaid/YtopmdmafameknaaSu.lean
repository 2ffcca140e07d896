/- sums: Sum and Best, the program's and the reference's -/
import Derived.Test.YtopmdmafameknaaNr
namespace Go.Proofs.Ytopmdmafameknaa
open Go.RowKit

theorem matB_of' {m : Nat} {xs : List Int} (hm : m ≤ 16) (h : matB m xs = true) : ∃ hs n, xs = nats hs ∧ Mat n hs ∧ n ≤ m ∧ (nats hs).length = n := by
  obtain ⟨hs, h1, h2, h3⟩ := matB_of hm h
  exact ⟨hs, _, h1, h2, h3, by rw [h1]⟩

def sumK (F : Nat → Int) : Nat → Int
  | 0 => 0
  | k+1 => sumK F k + F k
theorem sumK_bd (F : Nat → Int) (a b : Int) (h : ∀ k, a ≤ F k ∧ F k ≤ b) : ∀ k : Nat, (k:Int) * a ≤ sumK F k ∧ sumK F k ≤ (k:Int) * b
  | 0 => by simp [sumK]
  | k+1 => by
    have h1 := sumK_bd F a b h k
    have h2 := h k
    have e1 : ((k+1 : Nat) : Int) * a = k * a + a := by rw [Int.natCast_add, Int.add_mul]; simp
    have e2 : ((k+1 : Nat) : Int) * b = k * b + b := by rw [Int.natCast_add, Int.add_mul]; simp
    rw [e1, e2]
    simp only [sumK]
    omega
theorem sumK_congr {F G : Nat → Int} {k : Nat} (h : ∀ j, j < k → F j = G j) : sumK F k = sumK G k := by
  induction k with
  | zero => rfl
  | succ k ih => rw [sumK, sumK, ih fun j hj => h j (by omega), h k (by omega)]
theorem sumK_le {F G : Nat → Int} {k : Nat} (h : ∀ j, j < k → F j ≤ G j) : sumK F k ≤ sumK G k := by
  induction k with
  | zero => exact Int.le_refl _
  | succ k ih => have := ih fun j hj => h j (by omega); have := h k (by omega); simp only [sumK]; omega
def maxK (F : Nat → Int) : Nat → Int
  | 0 => 0
  | k+1 => max (maxK F k) (F k)
theorem maxK_bd (F : Nat → Int) (b : Int) (hb : 0 ≤ b) (h : ∀ k, F k ≤ b) : ∀ k, 0 ≤ maxK F k ∧ maxK F k ≤ b
  | 0 => by simp [maxK]; exact hb
  | k+1 => by have := maxK_bd F b hb h k; have := h k; simp only [maxK]; omega
def absI (x : Int) : Int := max x (-x)
theorem absI_bd {x : Int} {b : Int} (h : -b ≤ x ∧ x ≤ b) : 0 ≤ absI x ∧ absI x ≤ b := by unfold absI; omega

/-- The sum of the first n signs. -/
def rowS (n x : Nat) : Int := n - 2 * pop n x
theorem rowS_bd (n x : Nat) (hn : n ≤ 16) : -16 ≤ rowS n x ∧ rowS n x ≤ 16 := by have := pop_le n x; unfold rowS; omega
theorem rowS_sg (n x : Nat) : rowS n x = sumK (fun j => sg x j) n := by
  induction n with
  | zero => rfl
  | succ n ih =>
    rw [sumK, ← ih]
    unfold rowS sg
    rw [pop]
    cases x.testBit n <;> simp <;> omega
def totS (n : Nat) (hs : List Nat) : Int := sumK (fun k => rowS n (hs.getD k 0)) n
def bestC (n : Nat) (hs : List Nat) (c : Nat) (m : Nat) : Int := sumK (fun k => absI (rowS n (hs.getD k 0 ^^^ c))) m
def bestP (n : Nat) (hs : List Nat) (m : Nat) : Int := maxK (fun c => bestC n hs c n) m
def colK (hs : List Nat) (r j : Nat) (m : Nat) : Int := sumK (fun i => sg (hs.getD i 0) j * sg r i) m
def bestR (n : Nat) (hs : List Nat) (r : Nat) (m : Nat) : Int := sumK (fun j => absI (colK hs r j n)) m
def bestQ (n : Nat) (hs : List Nat) (m : Nat) : Int := maxK (fun r => bestR n hs r n) m

theorem totS_bd (n m : Nat) (hs : List Nat) (hn : n ≤ 16) (hm : m ≤ 16) : -256 ≤ sumK (fun k => rowS n (hs.getD k 0)) m ∧ sumK (fun k => rowS n (hs.getD k 0)) m ≤ 256 := by
  have := sumK_bd (fun k => rowS n (hs.getD k 0)) (-16) 16 (fun k => rowS_bd n _ hn) m
  omega
theorem bestC_bd (n m : Nat) (hs : List Nat) (c : Nat) (hn : n ≤ 16) (hm : m ≤ 16) : 0 ≤ bestC n hs c m ∧ bestC n hs c m ≤ 256 := by
  have := sumK_bd (fun k => absI (rowS n (hs.getD k 0 ^^^ c))) 0 16 (fun k => absI_bd (rowS_bd n _ hn)) m
  unfold bestC
  omega
theorem bestP_bd (n m : Nat) (hs : List Nat) (hn : n ≤ 16) : 0 ≤ bestP n hs m ∧ bestP n hs m ≤ 256 :=
  maxK_bd _ 256 (by decide) (fun c => (bestC_bd n n hs c hn hn).2) m
theorem colK_bd (hs : List Nat) (r j m : Nat) (hm : m ≤ 16) : -16 ≤ colK hs r j m ∧ colK hs r j m ≤ 16 := by
  have := sumK_bd (fun i => sg (hs.getD i 0) j * sg r i) (-1) 1 (fun k => sg_mul_bd _ _ _ _) m
  unfold colK
  omega
theorem bestR_bd (n m : Nat) (hs : List Nat) (r : Nat) (hn : n ≤ 16) (hm : m ≤ 16) : 0 ≤ bestR n hs r m ∧ bestR n hs r m ≤ 256 := by
  have := sumK_bd (fun j => absI (colK hs r j n)) 0 16 (fun k => absI_bd (colK_bd hs r k n hn)) m
  unfold bestR
  omega
theorem bestQ_bd (n m : Nat) (hs : List Nat) (hn : n ≤ 16) : 0 ≤ bestQ n hs m ∧ bestQ n hs m ≤ 256 :=
  maxK_bd _ 256 (by decide) (fun c => (bestR_bd n n hs c hn hn).2) m

set_option maxHeartbeats 400000 in
theorem abs_any (x : Int) (w : World) (h : -1000 ≤ x ∧ x ≤ 1000) : Calls Try.prog 77 #[.int .i64 x] w fun e w' => e = .returned (.int .i64 (absI x)) ∧ w = w' := by
  go_enter Try.func77, Try.ntmps77
  go_wp2
  all_goals
    go_ret
    exact ⟨ret_int (by unfold absI; omega), rfl⟩

def SumPost (w : World) (xs : List Int) (e : Ending) (w' : World) : Prop :=
  (if matB 16 xs = true then e = .returned (.tuple #[.int .i64 (totS xs.length (xs.map Int.toNat)), .int .i64 0]) else e = .returned (.tuple #[.int .i64 0, .int .i64 2])) ∧ w = w'
def BestPost (w : World) (xs : List Int) (e : Ending) (w' : World) : Prop :=
  (if matB 12 xs = true then e = .returned (.tuple #[.int .i64 (bestP xs.length (xs.map Int.toNat) (2 ^ xs.length)), .int .i64 0]) else e = .returned (.tuple #[.int .i64 0, .int .i64 2])) ∧ w = w'

set_option maxHeartbeats 2000000 in
set_option maxRecDepth 100000 in
theorem Sum_any (v : Value) (xs : List Int) (w : World) (h : Ints w v xs) :
    Calls Try.prog 31 #[v] w (SumPost w xs) := by
  have HV := Lib.hid (valid_any v xs w h)
  cases hs : matB 16 xs with
  | false =>
    rw [hs] at HV
    have HS := Lib.hid hs
    obtain ⟨ao, cap, rfl, h1, h2, _⟩ := h.open
    clear h hs
    go_enter Try.func31, Try.ntmps31
    go_wp2_with fail
    refine HV.out.mono ?_
    rintro e w' ⟨rfl, rfl⟩
    go_wp2
    go_ret2
    unfold SumPost
    rw [HS.out]
    exact ⟨rfl, rfl⟩
  | true =>
    rw [hs] at HV
    have HS := Lib.hid hs
    obtain ⟨hh, n, rfl, hm, hl, hln⟩ := matB_of' (Nat.le_refl _) hs
    have HNL := Lib.hid hln
    obtain ⟨ao, cap, rfl, h1, hc⟩ := hm.open h
    have HC := Lib.hid hc
    have HG := Lib.hid hm.get
    clear h hs hm hc hln
    go_enter Try.func31, Try.ntmps31
    go_wp2_with fail
    refine HV.out.mono ?_
    rintro e w' ⟨rfl, rfl⟩
    clear HV
    go_wp2_with fail
    go_loop [4, 12] (fun s i => ∃ k : Nat, k ≤ n ∧ i = .int .i64 k ∧ s = .int .i64 (sumK (fun k => rowS n (hh.getD k 0)) k)) (fun _ i => n - (intOf i).toNat)
    case atStart => exact ⟨0, Nat.zero_le _, rfl, rfl⟩
    case round =>
      obtain ⟨k, hk, rfl, rfl⟩ := hrel
      have hbd := totS_bd n k hh hl (by omega)
      by_cases hlt : k < n
      · obtain ⟨b, o, rfl, hck⟩ := HC.out k hlt
        have HA := Lib.hid (sum_any (hh.getD k 0) n w (HG.out k) hl)
        have HSu : Hid (sumK (fun k => rowS n (hh.getD k 0)) (k+1) = sumK (fun k => rowS n (hh.getD k 0)) k + (n - 2 * pop n (hh.getD k 0))) := rfl
        have hrb := rowS_bd n (hh.getD k 0) hl
        unfold rowS at hrb
        generalize sumK (fun k => rowS n (hh.getD k 0)) k = s at *
        generalize (n:Int) - 2 * (pop n (hh.getD k 0) : Int) = r at *
        generalize hh.getD k 0 = x at *
        go_wp2_with fail
        refine HA.out.mono ?_
        rintro e w' ⟨rfl, rfl⟩
        go_wp2
        go_round
        case rel => exact ⟨k + 1, by omega, by go_num, by rw [HSu.out]⟩
        case measure => simp [intOf]; omega
      · obtain rfl : k = n := by omega
        go_wp2
        go_ret2
        unfold SumPost
        rw [if_pos HS.out, nats_toNat, HNL.out]
        exact ⟨rfl, rfl⟩

set_option maxHeartbeats 4000000 in
theorem rSum_any (v : Value) (n : Nat) (hs : List Nat) (w : World) (h : Nats w v hs) (hm : Mat n hs) :
    Calls Try.prog 33 #[v] w fun e w' => e = .returned (.int .i64 (totS n hs)) ∧ w = w' := by
  have HAt := Lib.hid (fun i j (hi : i < n) (hj : j ≤ 16) => at_any v hs i j w h (by rw [hm.len]; exact hi) (hm.get16 i) hj)
  obtain ⟨ao, cap, rfl, h1, _⟩ := hm.open h
  have hn := hm.le
  clear h hm
  go_enter Try.func33, Try.ntmps33
  go_wp2
  go_loop [3, 8] (fun s i => ∃ k : Nat, k ≤ n ∧ i = .int .i64 k ∧ s = .int .i64 (sumK (fun k => rowS n (hs.getD k 0)) k)) (fun _ i => n - (intOf i).toNat)
  case atStart => exact ⟨0, Nat.zero_le _, rfl, rfl⟩
  case round =>
    obtain ⟨k, hk, rfl, rfl⟩ := hrel
    have hbd := totS_bd n k hs hn (by omega)
    by_cases hlt : k < n
    · have hsu : sumK (fun k => rowS n (hs.getD k 0)) (k+1) = sumK (fun k => rowS n (hs.getD k 0)) k + sumK (fun j => sg (hs.getD k 0) j) n := by rw [sumK, rowS_sg]
      have HSu := Lib.hid hsu
      clear hsu
      generalize sumK (fun k => rowS n (hs.getD k 0)) k = s at *
      go_wp2
      go_loop [3, 13] (fun s' i => ∃ j : Nat, j ≤ n ∧ i = .int .i64 j ∧ s' = .int .i64 (s + sumK (fun j => sg (hs.getD k 0) j) j)) (fun _ i => n - (intOf i).toNat)
      case atStart => exact ⟨0, Nat.zero_le _, rfl, by simp [sumK]⟩
      case round =>
        obtain ⟨j, hj, rfl, rfl⟩ := hrel
        have hb2 := sumK_bd (fun j => sg (hs.getD k 0) j) (-1) 1 (fun j => by rcases sg_cases (hs.getD k 0) j with h | h <;> rw [h] <;> decide) j
        by_cases hltj : j < n
        · have HA := Lib.hid (HAt.out k j hlt (by omega))
          have HSj : Hid (sumK (fun j => sg (hs.getD k 0) j) (j+1) = sumK (fun j => sg (hs.getD k 0) j) j + sg (hs.getD k 0) j) := rfl
          have hsb : -1 ≤ sg (hs.getD k 0) j ∧ sg (hs.getD k 0) j ≤ 1 := by rcases sg_cases (hs.getD k 0) j with h | h <;> rw [h] <;> decide
          generalize sumK (fun j => sg (hs.getD k 0) j) j = t at *
          generalize sg (hs.getD k 0) j = y at *
          go_wp2_with fail
          refine HA.out.mono ?_
          rintro e w' ⟨rfl, rfl⟩
          go_wp2
          go_round
          case rel => exact ⟨j + 1, by omega, by go_num, by rw [HSj.out, Int.add_assoc]⟩
          case measure => simp [intOf]; omega
        · obtain rfl : j = n := by omega
          rw [← HSu.out]
          go_wp2
          go_round
          case rel => exact ⟨k + 1, by omega, by go_num, rfl⟩
          case measure => simp [intOf]; omega
    · obtain rfl : k = n := by omega
      have HT : Hid (totS k hs = sumK (fun k_1 => rowS k (hs.getD k_1 0)) k) := rfl
      go_wp2
      go_ret
      exact ⟨ret_int HT.out.symm, rfl⟩
end Go.Proofs.Ytopmdmafameknaa
