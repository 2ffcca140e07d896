/- the reference's Find -/
import Derived.Test.YtopmdmafameknaaFg
import Derived.Test.YtopmdmafameknaaGc
namespace Go.Proofs.Ytopmdmafameknaa
open Go.RowKit

def tup (n m i : Nat) : Nat := (n / 2 ^ ((3 - i) * m)) % 2 ^ m
def okP (n m k : Nat) : Bool := (List.range k).all fun i => symA m (tup n m i) m
def okG (n m : Nat) : Bool := okP n m 4 && goodB m (tup n m 0) (tup n m 1) (tup n m 2) (tup n m 3)
theorem okP_succ (n m k : Nat) : okP n m (k + 1) = (okP n m k && symA m (tup n m k) m) := by simp [okP, List.range_succ]
theorem rf_chk1 : okG 0 1 = true ∧ tup 0 1 0 = 0 ∧ tup 0 1 1 = 0 ∧ tup 0 1 2 = 0 ∧ tup 0 1 3 = 0 := by decide +kernel
theorem rf_chk3 : okG 73 3 = true ∧ tup 73 3 0 = 0 ∧ tup 73 3 1 = 1 ∧ tup 73 3 2 = 1 ∧ tup 73 3 3 = 1 := by decide +kernel
theorem rf_chk5 : okG 34189 5 = true ∧ tup 34189 5 0 = 1 ∧ tup 34189 5 1 = 1 ∧ tup 34189 5 2 = 12 ∧ tup 34189 5 3 = 13 := by decide +kernel
theorem rf_no3 : ((List.range 73).all fun n => !okG n 3) = true := by decide +kernel
def rfN (a b c d : Nat) : Bool := symA 5 d 5 && decide (((a * 32 + b) * 32 + c) * 32 + d < 34189) && goodB 5 a b c d
theorem rf_no5 : ((List.range 2).all fun a => !symA 5 a 5 || (List.range 32).all fun b => !symA 5 b 5 || (List.range 32).all fun c => !symA 5 c 5 || (List.range 32).all fun d => !rfN a b c d) = true := by decide +kernel
theorem rf_before5 {n : Nat} (h : n < 34189) : okG n 5 = false := by
  cases hg : okG n 5 with
  | false => rfl
  | true =>
    unfold okG okP at hg
    simp only [show List.range 4 = [0, 1, 2, 3] from rfl, List.all_cons, List.all_nil, Bool.and_true, Bool.and_eq_true] at hg
    obtain ⟨⟨s0, s1, s2, s3⟩, hgood⟩ := hg
    have l0 : tup n 5 0 < 2 := by unfold tup; omega
    have l1 : tup n 5 1 < 32 := by unfold tup; omega
    have l2 : tup n 5 2 < 32 := by unfold tup; omega
    have l3 : tup n 5 3 < 32 := by unfold tup; omega
    have hn : ((tup n 5 0 * 32 + tup n 5 1) * 32 + tup n 5 2) * 32 + tup n 5 3 < 34189 := by unfold tup; omega
    have q0 := List.all_eq_true.1 rf_no5 _ (List.mem_range.2 l0)
    rw [s0, Bool.not_true, Bool.false_or] at q0
    have q1 := List.all_eq_true.1 q0 _ (List.mem_range.2 l1)
    rw [s1, Bool.not_true, Bool.false_or] at q1
    have q2 := List.all_eq_true.1 q1 _ (List.mem_range.2 l2)
    rw [s2, Bool.not_true, Bool.false_or] at q2
    have q3 := List.all_eq_true.1 q2 _ (List.mem_range.2 l3)
    unfold rfN at q3
    rw [s3, decide_eq_true hn, hgood] at q3
    simp at q3
theorem rf_before3 {n : Nat} (h : n < 73) : okG n 3 = false := by
  have := List.all_eq_true.1 rf_no3 n (List.mem_range.2 h)
  simpa using this
theorem tup_lt (n m i : Nat) : tup n m i < 2 ^ m := Nat.mod_lt _ (Nat.two_pow_pos m)
theorem tup_bits (n m e : Nat) (hn : n < 4294967296) (hm : m ≤ 16) : bits .and .i64 ((n:Int) / 2 ^ e) (2 ^ m - 1) = (((n / 2 ^ e) % 2 ^ m : Nat) : Int) := by
  have hd : (n:Int) / 2 ^ e = ((n / 2 ^ e : Nat) : Int) := by rw [← pw_cast]; exact (Int.natCast_ediv n (2^e)).symm
  have hl : n / 2 ^ e ≤ n := Nat.div_le_self _ _
  have h := pw_nat m hm
  rw [hd, ← pw_cast, show ((2 ^ m : Nat) : Int) - 1 = ((2 ^ m - 1 : Nat) : Int) by omega, i64_and _ _ (by omega) (by omega), Nat.and_two_pow_sub_one_eq_mod]

set_option maxRecDepth 20000 in
set_option maxHeartbeats 4000000 in
theorem RFind_any (m n0 : Nat) (hm1 : m = 1 ∨ m = 3 ∨ m = 5) (hn0 : n0 < 2 ^ (4 * m)) (hb4 : ∀ n, n < n0 → okG n m = false) (hok : okG n0 m = true) (w : World) : Calls Try.prog 50 #[.int .i64 (m : Nat)] w fun e w' => e = .returned (.tuple #[arr4 (tup n0 m 0) (tup n0 m 1) (tup n0 m 2) (tup n0 m 3), .int .i64 0]) ∧ Below w.heap.size w w' := by
  have HB4 := Lib.hid hb4
  have HOK := Lib.hid hok
  have hm5 : m ≤ 5 := by omega
  have hm0 : 1 ≤ m := by omega
  have HM := Lib.hid hm1
  have hwp := wrap_pw m (by omega)
  have hpb := pw_bd m (by omega)
  have hpm : (2:Int) ^ m ≤ 32 := by rcases hm1 with rfl | rfl | rfl <;> decide
  have hw1 : wrap64 (2 ^ m - 1) = 2 ^ m - 1 := wrap_in (by omega) (by omega)
  have hb20 : 1 ≤ (2:Int) ^ (4 * m) ∧ (2:Int) ^ (4 * m) ≤ 1048576 := by rcases hm1 with rfl | rfl | rfl <;> decide
  have hw4 : wrap64 (2 ^ (4 * m)) = 2 ^ (4 * m) := wrap_in (by omega) (by omega)
  have hc4 := pw_cast (4 * m)
  have hisM : isM (m : Int) = true := by rcases hm1 with rfl | rfl | rfl <;> rfl
  have HSQ : Hid (∀ (x : Nat) W, x < 2 ^ m → Calls Try.prog 45 #[.int .i64 (m : Nat), .int .i64 (x : Nat)] W fun e w' => e = .returned (.bool (symA m x m)) ∧ Below W.heap.size W w') := Lib.hid fun x W hx => by
    have h := rSequence_any m (x : Int) W
    rw [hisM, Bool.true_and, Int.toNat_natCast, seqB_cast hx] at h
    exact h
  have hn0I : (n0 : Int) < 2 ^ (4 * m) := by rw [← hc4]; exact_mod_cast hn0
  clear hb4 hok hm1 hisM hn0 hc4
  go_enter Try.func50, Try.ntmps50
  go_wp2_with fail
  have hz1 : Blk 43 (w.alloc (.cells #[.int .i64 0, .int .i64 0, .int .i64 0, .int .i64 0] 43)) w.heap.size #[.int .i64 0, .int .i64 0, .int .i64 0, .int .i64 0] := Blk.new 43 w _
  go_loopw [11] (fun i wr => ∃ n : Nat, n ≤ n0 ∧ i = .int .i64 (n : Nat) ∧ Blk 43 wr w.heap.size #[.int .i64 0, .int .i64 0, .int .i64 0, .int .i64 0] ∧ Below w.heap.size w wr ∧ w.heap.size + 1 ≤ wr.heap.size) (fun i _ => n0 + 1 - (intOf i).toNat)
  case atStart => exact ⟨0, by omega, rfl, hz1, (Below.refl _ _).alloc (Nat.le_refl _) _, by simp⟩
  case round =>
    clear hz1
    rename World => w1
    obtain ⟨n, hn, rfl, hz, hb, hs⟩ := hrel
    have HZ := Lib.hid hz
    have HB := Lib.hid hb
    clear hz hb
    have hnI : (n : Int) < 2 ^ (4 * m) := by omega
    have HN4 : Hid (n < n0 → okG n m = false) := Lib.hid (HB4.out n)
    have hst := Blk.new 43 w1 (fourV fun _ => (0:Int))
    have HST : Hid (Blk 43 (w1.alloc (.cells #[.int .i64 0, .int .i64 0, .int .i64 0, .int .i64 0] 43)) w1.heap.size (fourV fun _ => (0:Int))) := Lib.hid hst
    have HZ1 : Hid (Blk 43 (w1.alloc (.cells #[.int .i64 0, .int .i64 0, .int .i64 0, .int .i64 0] 43)) w.heap.size #[.int .i64 0, .int .i64 0, .int .i64 0, .int .i64 0]) := Lib.hid (HZ.out.alloc _)
    have HB1 : Hid (Below w.heap.size w (w1.alloc (.cells #[.int .i64 0, .int .i64 0, .int .i64 0, .int .i64 0] 43))) := Lib.hid (HB.out.alloc (by omega) _)
    have hs1 : w1.heap.size + 1 ≤ (w1.alloc (.cells #[.int .i64 0, .int .i64 0, .int .i64 0, .int .i64 0] 43)).heap.size := by simp
    clear hst
    go_wp2_with fail
    go_loopw [6, 14] (fun ok i wr => ∃ (k : Nat) (q : Nat → Int), k ≤ 4 ∧ i = .int .i64 (k : Nat) ∧ ok = .bool (okP n m k) ∧ Blk 43 wr w1.heap.size (fourV q) ∧ (∀ i, i < k → q i = (tup n m i : Nat)) ∧ Blk 43 wr w.heap.size #[.int .i64 0, .int .i64 0, .int .i64 0, .int .i64 0] ∧ Below w.heap.size w wr ∧ w1.heap.size + 1 ≤ wr.heap.size) (fun _ i _ => 5 - (intOf i).toNat)
    case atStart => exact ⟨0, fun _ => 0, by omega, rfl, rfl, HST.out, fun i h => by omega, HZ1.out, HB1.out, hs1⟩
    case round =>
      clear HST HZ1 HB1 hs1 HZ HB
      rename World => w2
      obtain ⟨k, q, hk, rfl, rfl, hst, hq, hz, hb, hs2⟩ := hrel
      have HST := Lib.hid hst
      have HQ := Lib.hid hq
      have HZ := Lib.hid hz
      have HB := Lib.hid hb
      clear hst hq hz hb
      by_cases hk4 : k < 4
      · have c1 : w2.cell? ⟨w1.heap.size, k, none⟩ = some (.int .i64 (q k)) := by rw [HST.out.cell, fourV_get q k hk4]
        have c2 := HST.out.fr k
        obtain ⟨e, he⟩ : ∃ e, e = (3 - k) * m := ⟨_, rfl⟩
        have he15 : e ≤ 15 := by rw [he]; exact Nat.mul_le_mul (show 3 - k ≤ 3 by omega) hm5
        have hw3 : IntKind.i64.wrap (3 - (k : Int)) = ((3 - k : Nat) : Int) := by rw [IntWalk.i64_in _ (by omega)]; omega
        have hw5 : IntKind.i64.wrap (((3 - k : Nat) : Int) * (m : Int)) = (e : Int) := by rw [← Int.natCast_mul, ← he]; exact IntWalk.i64_in _ (by omega)
        have hbt : bits .and .i64 ((n:Int) / 2 ^ e) (2 ^ m - 1) = (tup n m k : Nat) := by rw [he]; exact tup_bits n m _ (by omega) (by omega)
        have hwa : IntKind.i64.wrap ((2:Int) ^ m) = 2 ^ m := IntWalk.i64_in _ (by omega)
        have hwb : IntKind.i64.wrap ((2:Int) ^ m - 1) = 2 ^ m - 1 := IntWalk.i64_in _ (by omega)
        clear he hwp hw1 hw4
        have HTl : Hid (tup n m k < 2 ^ m) := Lib.hid (tup_lt n m k)
        go_wp2_with fail
        go_region_with (fail)
        have HST3 : Hid (Blk 43 (w2.setCell ⟨w1.heap.size, k, none⟩ (.int .i64 (tup n m k : Nat))).drew w1.heap.size (fourV fun i => if i = k then (tup n m k : Nat) else q i)) := Lib.hid (by
          have h1 := HST.out.set k (.int .i64 (tup n m k : Nat))
          rw [fourV_set q _ k hk4] at h1
          exact h1.below ((Below.refl _ _).drew))
        have HZ3 : Hid (Blk 43 (w2.setCell ⟨w1.heap.size, k, none⟩ (.int .i64 (tup n m k : Nat))).drew w.heap.size #[.int .i64 0, .int .i64 0, .int .i64 0, .int .i64 0]) := Lib.hid ((HZ.out.other (show w.heap.size ≠ w1.heap.size by omega) k _).below ((Below.refl _ _).drew))
        have HB3 : Hid (Below w.heap.size w (w2.setCell ⟨w1.heap.size, k, none⟩ (.int .i64 (tup n m k : Nat))).drew) := Lib.hid (below_set HB.out (a := ⟨w1.heap.size, k, none⟩) (show w.heap.size ≤ w1.heap.size by omega) _).drew
        have hs3 : w1.heap.size + 1 ≤ (w2.setCell ⟨w1.heap.size, k, none⟩ (.int .i64 (tup n m k : Nat))).drew.heap.size := by simpa [World.setCell, World.drew] using hs2
        clear c1 c2 HST HZ HB
        generalize (w2.setCell ⟨w1.heap.size, k, none⟩ (.int .i64 (tup n m k : Nat))).drew = w3 at *
        have c1 : w3.cell? ⟨w1.heap.size, k, none⟩ = some (.int .i64 (tup n m k : Nat)) := by rw [HST3.out.cell, fourV_get _ k hk4]; simp
        have HQ3 : Hid (∀ i, i < k + 1 → (if i = k then ((tup n m k : Nat) : Int) else q i) = (tup n m i : Nat)) := Lib.hid fun i hi => by
          by_cases hik : i = k
          · subst hik; simp
          · rw [if_neg hik]; exact HQ.out i (by omega)
        have HC := Lib.hid (fun W => HSQ.out (tup n m k) W HTl.out)
        have hsuc := okP_succ n m k
        clear hbt hw3 hw5 hwa hwb
        cases hp : okP n m k with
        | false =>
          rw [hp, Bool.false_and] at hsuc
          have HP := Lib.hid hsuc
          clear hsuc
          go_wp2_with fail
          go_roundw
          case rel => exact ⟨k + 1, _, by omega, by go_num, by rw [HP.out], HST3.out, HQ3.out, HZ3.out, HB3.out, hs3⟩
          case measure => (first | (simp [intOf]; done) | (simp [intOf]; omega))
        | true =>
          rw [hp, Bool.true_and] at hsuc
          have HP := Lib.hid hsuc
          clear hsuc
          go_wp2_with fail
          refine (HC.out _).mono ?_
          rintro e w4 ⟨rfl, hb4⟩
          have HST4 := Lib.hid (HST3.out.below hb4)
          have HZ4 := Lib.hid (HZ3.out.below hb4)
          have HB4 := Lib.hid (HB3.out.trans (hb4.mono (by have := HB3.out.size; omega)))
          have hs4 := Nat.le_trans hs3 hb4.size
          clear hb4 c1
          go_wp2_with fail
          go_roundw
          case rel => exact ⟨k + 1, _, by omega, by go_num, by rw [HP.out], HST4.out, HQ3.out, HZ4.out, HB4.out, hs4⟩
          case measure => (first | (simp [intOf]; done) | (simp [intOf]; omega))
      · obtain rfl : k = 4 := by omega
        have c0 : w2.cell? ⟨w1.heap.size, 0, none⟩ = some (.int .i64 (tup n m 0 : Nat)) := by rw [HST.out.cell, fourV_get q 0 (by omega), HQ.out 0 (by omega)]
        have c1 : w2.cell? ⟨w1.heap.size, 1, none⟩ = some (.int .i64 (tup n m 1 : Nat)) := by rw [HST.out.cell, fourV_get q 1 (by omega), HQ.out 1 (by omega)]
        have c2 : w2.cell? ⟨w1.heap.size, 2, none⟩ = some (.int .i64 (tup n m 2 : Nat)) := by rw [HST.out.cell, fourV_get q 2 (by omega), HQ.out 2 (by omega)]
        have c3 : w2.cell? ⟨w1.heap.size, 3, none⟩ = some (.int .i64 (tup n m 3 : Nat)) := by rw [HST.out.cell, fourV_get q 3 (by omega), HQ.out 3 (by omega)]
        have z0 := HZ.out.cell 0
        have z1 := HZ.out.cell 1
        have z2 := HZ.out.cell 2
        have z3 := HZ.out.cell 3
        have y0 := HZ.out.fr 0
        have y1 := HZ.out.fr 1
        have y2 := HZ.out.fr 2
        have y3 := HZ.out.fr 3
        simp only [List.getElem?_toArray, List.getElem?_cons_zero, List.getElem?_cons_succ] at z0 z1 z2 z3
        clear z0 z1 z2 z3 y0 y1 y2 y3
        cases hp : okP n m 4 with
        | false =>
          have hlt : n < n0 := by
            rcases Nat.lt_or_ge n n0 with h | h
            · exact h
            · exfalso
              have e : n = n0 := by omega
              have h9 := HOK.out
              rw [← e] at h9
              unfold okG at h9
              rw [hp] at h9
              simp at h9
          go_wp2_with fail
          go_roundw
          case rel => exact ⟨n + 1, by omega, by go_num, HZ.out, HB.out, by omega⟩
          case measure => (first | (simp [intOf]; done) | (simp [intOf]; omega))
        | true =>
          have hsy : ∀ i, i < 4 → symA m (tup n m i) m = true := fun i hi => by
            have h9 := hp
            unfold okP at h9
            exact List.all_eq_true.1 h9 i (List.mem_range.2 hi)
          have h16 : 2 ^ m ≤ 65536 := (pw_nat m (by omega)).2
          have h1 : ∀ i, i < 4 → tup n m i < 2 ^ m ∧ symA m (tup n m i) m = true ∧ tup n m i < 65536 := fun i hi => ⟨tup_lt n m i, hsy i hi, Nat.lt_of_lt_of_le (tup_lt n m i) h16⟩
          have HG := Lib.hid (fun W => rGood_any m (tup n m 0) (tup n m 1) (tup n m 2) (tup n m 3) W HM.out (fun k => by
            match k with
            | 0 => exact h1 0 (by omega)
            | 1 => exact h1 1 (by omega)
            | 2 => exact h1 2 (by omega)
            | _ + 3 => exact h1 3 (by omega)))
          have HGo : Hid (okG n m = goodB m (tup n m 0) (tup n m 1) (tup n m 2) (tup n m 3)) := Lib.hid (by unfold okG; rw [hp, Bool.true_and])
          unfold arr4 at HG
          clear hsy h16 h1 HQ
          go_wp2_with fail
          refine (HG.out _).mono ?_
          rintro e w5 ⟨rfl, hb5⟩
          have HST5 := Lib.hid (HST.out.below hb5)
          have HZ5 := Lib.hid (HZ.out.below hb5)
          have HB5 := Lib.hid (HB.out.trans (hb5.mono (by have := HB.out.size; omega)))
          have hs5 := Nat.le_trans hs2 hb5.size
          cases hg : goodB m (tup n m 0) (tup n m 1) (tup n m 2) (tup n m 3) with
          | false =>
            have hlt : n < n0 := by
              rcases Nat.lt_or_ge n n0 with h | h
              · exact h
              · exfalso
                have e : n = n0 := by omega
                have h9 := HOK.out
                rw [← e, HGo.out, hg] at h9
                simp at h9
            clear hb5 c0 c1 c2 c3
            go_wp2_with fail
            go_roundw
            case rel => exact ⟨n + 1, by omega, by go_num, HZ5.out, HB5.out, by omega⟩
            case measure => (first | (simp [intOf]; done) | (simp [intOf]; omega))
          | true =>
            have hne : n = n0 := by
              rcases Nat.lt_or_ge n n0 with h | h
              · exfalso
                have h9 := HN4.out h
                rw [HGo.out, hg] at h9
                simp at h9
              · omega
            have s0 : w5.cell? ⟨w1.heap.size, 0, none⟩ = some (.int .i64 (tup n m 0 : Nat)) := by rw [← c0, HST5.out.cell, HST.out.cell]
            have s1 : w5.cell? ⟨w1.heap.size, 1, none⟩ = some (.int .i64 (tup n m 1 : Nat)) := by rw [← c1, HST5.out.cell, HST.out.cell]
            have s2 : w5.cell? ⟨w1.heap.size, 2, none⟩ = some (.int .i64 (tup n m 2 : Nat)) := by rw [← c2, HST5.out.cell, HST.out.cell]
            have s3 : w5.cell? ⟨w1.heap.size, 3, none⟩ = some (.int .i64 (tup n m 3 : Nat)) := by rw [← c3, HST5.out.cell, HST.out.cell]
            have z0 := HZ5.out.cell 0
            have z1 := HZ5.out.cell 1
            have z2 := HZ5.out.cell 2
            have z3 := HZ5.out.cell 3
            have y0 := HZ5.out.fr 0
            have y1 := HZ5.out.fr 1
            have y2 := HZ5.out.fr 2
            have y3 := HZ5.out.fr 3
            simp only [List.getElem?_toArray, List.getElem?_cons_zero, List.getElem?_cons_succ] at z0 z1 z2 z3
            have hz9 := (((HZ5.out.set 0 (.int .i64 (tup n m 0 : Nat))).set 1 (.int .i64 (tup n m 1 : Nat))).set 2 (.int .i64 (tup n m 2 : Nat))).set 3 (.int .i64 (tup n m 3 : Nat))
            have hb9 : Below w.heap.size w ((((w5.setCell ⟨w.heap.size, 0, none⟩ (.int .i64 (tup n m 0 : Nat))).setCell ⟨w.heap.size, 1, none⟩ (.int .i64 (tup n m 1 : Nat))).setCell ⟨w.heap.size, 2, none⟩ (.int .i64 (tup n m 2 : Nat))).setCell ⟨w.heap.size, 3, none⟩ (.int .i64 (tup n m 3 : Nat))) :=
              below_set (below_set (below_set (below_set HB5.out (a := ⟨w.heap.size, 0, none⟩) (Nat.le_refl _) _) (a := ⟨w.heap.size, 1, none⟩) (Nat.le_refl _) _) (a := ⟨w.heap.size, 2, none⟩) (Nat.le_refl _) _) (a := ⟨w.heap.size, 3, none⟩) (Nat.le_refl _) _
            have HZ9 := Lib.hid hz9
            have HB9 := Lib.hid hb9
            have HNe := Lib.hid hne
            clear hb5 c0 c1 c2 c3 hz9 hb9 hne
            go_wp2_with fail
            have hne := HNe.out
            subst hne
            have HZA : Blk 43 _ w.heap.size #[.int .i64 (tup n m 0 : Nat), .int .i64 (tup n m 1 : Nat), .int .i64 (tup n m 2 : Nat), .int .i64 (tup n m 3 : Nat)] := HZ9.out
            have hb9 := HB9.out
            clear HZ9 HB9 z0 z1 z2 z3 y0 y1 y2 y3 s0 s1 s2 s3
            generalize (((w5.setCell ⟨w.heap.size, 0, none⟩ (.int .i64 (tup n m 0 : Nat))).setCell ⟨w.heap.size, 1, none⟩ (.int .i64 (tup n m 1 : Nat))).setCell ⟨w.heap.size, 2, none⟩ (.int .i64 (tup n m 2 : Nat))).setCell ⟨w.heap.size, 3, none⟩ (.int .i64 (tup n m 3 : Nat)) = w9 at *
            have e0 := HZA.cell 0
            have e1 := HZA.cell 1
            have e2 := HZA.cell 2
            have e3 := HZA.cell 3
            refine bodyPost_ret (v := .tuple #[arr4 (tup n m 0) (tup n m 1) (tup n m 2) (tup n m 3), .int .i64 0]) ?_ rfl ⟨rfl, hb9⟩
            simp [results, Try.f50, go_sem, e0, e1, e2, e3]
theorem RFind_1 (w : World) : Calls Try.prog 50 #[.int .i64 1] w fun e w' => e = .returned (.tuple #[arr4 0 0 0 0, .int .i64 0]) ∧ Below w.heap.size w w' := RFind_any 1 0 (.inl rfl) (by decide) (fun n h => by omega) rf_chk1.1 w
theorem RFind_3 (w : World) : Calls Try.prog 50 #[.int .i64 3] w fun e w' => e = .returned (.tuple #[arr4 0 1 1 1, .int .i64 0]) ∧ Below w.heap.size w w' := by
  have h := RFind_any 3 73 (.inr (.inl rfl)) (by decide) (fun n h => rf_before3 h) rf_chk3.1 w
  obtain ⟨_, e0, e1, e2, e3⟩ := rf_chk3
  rw [e0, e1, e2, e3] at h
  exact h
theorem RFind_5 (w : World) : Calls Try.prog 50 #[.int .i64 5] w fun e w' => e = .returned (.tuple #[arr4 1 1 12 13, .int .i64 0]) ∧ Below w.heap.size w w' := by
  have h := RFind_any 5 34189 (.inr (.inr rfl)) (by decide) (fun n h => rf_before5 h) rf_chk5.1 w
  obtain ⟨_, e0, e1, e2, e3⟩ := rf_chk5
  rw [e0, e1, e2, e3] at h
  exact h
end Go.Proofs.Ytopmdmafameknaa
