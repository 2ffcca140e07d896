/- the reference's Other -/
import Derived.Test.YtdnhfnegnjdeoaaDoorAw
import Derived.Deep.RegionHeld3
namespace Go.Proofs.YtdnhfnegnjdeoaaDoor
open Go.RowKit

theorem grownBy_undrew {w w' : World} {r : Option Nat} (h : w.drew.grownBy w' r) : w.grownBy w' r := ⟨h.os, h.tape, h.output, h.size, h.block⟩
theorem othN_two (n i x : Nat) : sub (sub (2 ^ n - 1) x) (2 ^ i) = othN n i x := by
  refine Nat.eq_of_testBit_eq fun j => ?_
  unfold othN
  rw [sub_bit, sub_bit, sub_bit, Nat.testBit_or]
  cases (2 ^ n - 1).testBit j <;> cases x.testBit j <;> cases (2 ^ i).testBit j <;> rfl
theorem othN_val (n i x : Nat) (hn : n ≤ 16) (hi : i ≤ 16) (hx : x < 65536) :
    bits .andNot .i64 (bits .andNot .i64 ((2:Int) ^ n - 1) (x:Int)) ((2:Int) ^ i) = ((othN n i x : Nat) : Int) := by
  have h1 := pw_nat n hn
  have h2 := pw_nat i hi
  rw [show ((2:Int) ^ n - 1) = ((2 ^ n - 1 : Nat) : Int) by rw [← pw_cast]; omega, i64_andNot _ _ (by omega) (by omega), ← pw_cast]
  have : (2 ^ n - 1) ^^^ ((2 ^ n - 1) &&& x) < 2 ^ 16 := Nat.xor_lt_two_pow (by omega) (Nat.lt_of_le_of_lt Nat.and_le_left (by omega))
  rw [i64_andNot _ _ (by omega) (by omega), ← othN_two]
  rfl
theorem gr_snoc {n : Nat} {ys : List Nat} (k : Nat) (hl : ys.length = n) (h : k < n) : nats (ys.take (k + 1)) = nats (ys.take k) ++ [((ys.getD k 0 : Nat) : Int)] := natD_snoc ys k (by omega)

set_option maxRecDepth 100000 in
set_option maxHeartbeats 2000000 in
theorem rOther_any (v : Value) (bs : List Nat) (n : Nat) (w : World) (hb : Gr n bs) (h : Nats w v bs) :
    Calls Tryd.prog 25 #[v] w fun e w' => ∃ v', e = .returned v' ∧ Nats w' v' (oth n bs) ∧ Below w.heap.size w w' := by
  obtain ⟨ao, cap, rfl, h1, hx⟩ := hb.open h
  have HX := Lib.hid hx
  have hn := hb.le
  have HG := Lib.hid (fun k => hb.get16 k)
  have HSN := Lib.hid (fun k (hk : k < n) => (by have := gr_snoc k (oth_length n bs) hk; rwa [oth_getN hk] at this : nats ((oth n bs).take (k + 1)) = nats ((oth n bs).take k) ++ [((othN n k (bs.getD k 0) : Nat) : Int)]))
  have HL := Lib.hid (fun k => (by rw [nats_length, List.length_take]; omega : (nats ((oth n bs).take k)).length ≤ k))
  have HI64 := Lib.hid (oth_gr hb).i64
  have HEnd : Hid ((oth n bs).take n = oth n bs) := Lib.hid (List.take_of_length_le (by rw [oth_length]; exact Nat.le_refl _))
  have HLn : Hid ((nats (oth n bs)).length = n) := Lib.hid (by rw [nats_length, oth_length])
  obtain ⟨i0, hi0, hz0, hz1, hz2⟩ := info_parts Tryd.info3
  have hpn := pw_bd n hn
  have hw0 : IntKind.i64.wrap ((2:Int) ^ n) = (2:Int) ^ n := i64_of (by omega) (by omega)
  have hw2 : IntKind.i64.wrap ((2:Int) ^ n - 1) = (2:Int) ^ n - 1 := i64_of (by omega) (by omega)
  clear h hb hx hpn
  go_enter Tryd.func25, Tryd.ntmps25
  go_wp2_with fail
  go_loopw [3, 8] (fun s ii wr => ∃ k : Nat, k ≤ n ∧ ii = .int .i64 k ∧ wr.ownsRow w.heap.size 3 1 s (nats ((oth n bs).take k)).length (ints (nats ((oth n bs).take k))) ∧ Below w.heap.size w wr) (fun _ ii _ => n - (intOf ii).toNat)
  case atStart => exact ⟨0, Nat.zero_le _, rfl, World.ownsRow_nil _ _ _ _, Below.refl _ _⟩
  case round =>
    obtain ⟨k, hk, rfl, hB, hb⟩ := hrel
    have HO := Lib.hid hB
    have HB := Lib.hid hb
    obtain ⟨ao', c', rfl⟩ := owns_form hB
    clear hB hb
    by_cases hlt : k < n
    · obtain ⟨b, o, rfl, hck⟩ := HX.out k hlt
      have hck' := ck hck HB.out
      have HS := Lib.hid (HSN.out k hlt)
      have hll := HL.out k
      have HV := Lib.hid (othN_val n k (bs.getD k 0) hn (by omega) (HG.out k))
      have hk16 : k ≤ 16 := by omega
      have hpk := pw_bd k hk16
      have hwk : IntKind.i64.wrap ((2:Int) ^ k) = (2:Int) ^ k := i64_of (by omega) (by omega)
      clear hck hpk
      generalize bs.getD k 0 = r at *
      generalize nats ((oth n bs).take k) = tp at *
      go_wp2_with fail
      go_region_held3 (fun _ => True) (trivial) ((rw [if_pos (by rfl)]; refine wp_append_own _ _ _ 22 rfl w.heap.size 3 i0 (.int .i64 0) 1 8 Tryd.underlying22 hi0 hz0 hz1 hz2 rfl (by decide) _ _ _ rfl (HO.out.alloc _) ⟨wr.heap.size, 0, none⟩ 1 1 [.int .i64 (othN n k r : Nat)] rfl rfl (by rw [← HV.out]; exact newOne _ _ _) (oneInt _) (by unfold maxLen; omega) (by omega) (by have := HB.out.size; simp; omega) ?_; intro v' w2 hown' hgrow _))
      have HR := Lib.hid (int_step HO.out HB.out HB.out.size hown' (v := .slice ao' tp.length c') (grownBy_undrew hgrow))
      clear hown' hgrow
      go_wp2
      go_roundw
      case rel => exact ⟨k + 1, by omega, by go_num, by rw [HS.out]; exact HR.out.1, HR.out.2⟩
      case measure => simp [intOf]; omega
    · obtain rfl : k = n := by omega
      have HV : Hid (Nats wr (.slice ao' (nats ((oth k bs).take k)).length c') (oth k bs)) := Lib.hid (by
        have h := HO.out
        rw [HEnd.out] at h ⊢
        exact Ints.of_owns h (by rw [HLn.out]; omega) HI64.out)
      go_wp2
      go_ret
      exact ⟨_, rfl, HV.out, HB.out⟩
end Go.Proofs.YtdnhfnegnjdeoaaDoor
