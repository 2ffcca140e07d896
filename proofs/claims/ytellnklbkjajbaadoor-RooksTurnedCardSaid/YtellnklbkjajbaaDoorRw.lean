/- the reference's Without -/
import Derived.Test.YtellnklbkjajbaaDoorWi
import Derived.Deep.RegionHeld3
namespace Go.Proofs.YtellnklbkjajbaaDoor
open Go.RowKit

theorem grownBy_undrew {w w' : World} {r : Option Nat} (h : w.drew.grownBy w' r) : w.grownBy w' r := ⟨h.os, h.tape, h.output, h.size, h.block⟩

def rwF (bs : List Nat) (i j : Nat) : Nat → List Nat
  | 0 => []
  | k + 1 => if k = i then rwF bs i j k else rwF bs i j k ++ [woN j (bs.getD k 0)]
theorem rwF_lo (bs : List Nat) (i j : Nat) : ∀ k, k ≤ i → i < bs.length → rwF bs i j k = (bs.take k).map (woN j)
  | 0, _, _ => by simp [rwF]
  | k + 1, h, hi => by
    rw [rwF, if_neg (by omega), rwF_lo bs i j k (by omega) hi, List.take_succ_eq_append_getElem (by omega), List.map_append]
    simp [show k < bs.length by omega]
theorem rwF_hi (bs : List Nat) (i j : Nat) (hi : i < bs.length) : ∀ d, i + 1 + d ≤ bs.length → rwF bs i j (i + 1 + d) = (bs.take i ++ (bs.drop (i + 1)).take d).map (woN j)
  | 0, _ => by rw [Nat.add_zero, rwF, if_pos rfl, rwF_lo bs i j i (Nat.le_refl _) hi]; simp
  | d + 1, h => by
    rw [show i + 1 + (d + 1) = (i + 1 + d) + 1 by omega, rwF, if_neg (by omega), rwF_hi bs i j hi d (by omega), List.take_succ_eq_append_getElem (by simp; omega), ← List.append_assoc, List.map_append (l₂ := [_])]
    simp [show i + 1 + d < bs.length by omega]
theorem rwF_end (bs : List Nat) (i j : Nat) (hi : i < bs.length) : rwF bs i j bs.length = withoutL bs i j := by
  have := rwF_hi bs i j hi (bs.length - (i + 1)) (by omega)
  rw [show i + 1 + (bs.length - (i + 1)) = bs.length by omega] at this
  rw [this, withoutL, List.take_of_length_le (l := bs.drop (i + 1)) (by simp)]
theorem rwF_length (bs : List Nat) (i j k : Nat) : (rwF bs i j k).length ≤ k := by
  induction k with
  | zero => simp [rwF]
  | succ k ih => rw [rwF]; split <;> (try simp only [List.length_append, List.length_cons, List.length_nil]) <;> omega
theorem rwF_yes {bs : List Nat} {i j k : Nat} (h : k = i) : rwF bs i j (k + 1) = rwF bs i j k := by rw [rwF, if_pos h]
theorem rwF_no {bs : List Nat} {i j k : Nat} (h : k ≠ i) : nats (rwF bs i j (k + 1)) = nats (rwF bs i j k) ++ [((woN j (bs.getD k 0) : Nat) : Int)] := by rw [rwF, if_neg h]; simp [nats]

set_option maxRecDepth 100000 in
set_option maxHeartbeats 2000000 in
theorem rWithout_any (v : Value) (bs : List Nat) (n i j : Nat) (w : World) (hb : Brd n bs) (h : Nats w v bs) (hn2 : 2 ≤ n) (hi : i < n) (hj : j < n) :
    Calls Tryd.prog 30 #[v, .int .i64 i, .int .i64 j] w fun e w' => ∃ v', e = .returned v' ∧ Nats w' v' (withoutL bs i j) ∧ Below w.heap.size w w' := by
  obtain ⟨ao, cap, rfl, h1, _, hx⟩ := h.open
  have HX := Lib.hid hx
  have hn := hb.le
  have HG := Lib.hid (fun k => Nat.lt_of_lt_of_le (hb.get k) (pw6 n hn).2)
  have HL := Lib.hid hb.len
  have HWB := Lib.hid (without_brd hb hn2 hi hj)
  have HEnd : Hid (rwF bs i j n = withoutL bs i j) := Lib.hid (by have := rwF_end bs i j (by rw [hb.len]; exact hi); rwa [hb.len] at this)
  obtain ⟨i0, hi0, hz0, hz1, hz2⟩ := info_parts Tryd.info3
  rw [HL.out] at h1 HX ⊢
  have hj6 : j ≤ 6 := by omega
  have hj0 : (0:Int) ≤ (j:Int) := by omega
  have hj2 : IntKind.i64.wrap ((j:Int) + 1) = ((j + 1 : Nat) : Int) := i64_of (by omega) (by omega)
  have hpw := pw_bd j (by omega)
  have hw1 : IntKind.i64.wrap ((2:Int) ^ j) = (2:Int) ^ j := i64_of (by omega) (by omega)
  have hw2 : IntKind.i64.wrap ((2:Int) ^ j - 1) = (2:Int) ^ j - 1 := i64_of (by omega) (by omega)
  clear h hb hx hpw
  go_enter Tryd.func30, Tryd.ntmps30
  go_wp2_with fail
  go_loopw [7, 12] (fun s ii wr => ∃ k : Nat, k ≤ n ∧ ii = .int .i64 k ∧ wr.ownsRow w.heap.size 3 1 s (nats (rwF bs i j k)).length (ints (nats (rwF bs i j k))) ∧ Below w.heap.size w wr) (fun _ ii _ => n - (intOf ii).toNat)
  case atStart => exact ⟨0, Nat.zero_le _, rfl, World.ownsRow_nil _ _ _ _, Below.refl _ _⟩
  case round =>
    obtain ⟨k, hk, rfl, hB, hb⟩ := hrel
    have HO := Lib.hid hB
    have HB := Lib.hid hb
    obtain ⟨ao', c', rfl⟩ := owns_form hB
    clear hB hb
    by_cases hlt : k < n
    · obtain ⟨b, o, rfl, hck⟩ := HX.out k hlt
      have hck' := ck hck HB.out
      clear hck
      by_cases hki : k = i
      · have HS := Lib.hid (rwF_yes (bs := bs) (j := j) hki)
        have hne : ((k:Int) != (i:Int)) = false := by simp; omega
        generalize bs.getD k 0 = r at *
        clear hki
        go_wp2
        go_roundw
        case rel => exact ⟨k + 1, by omega, by go_num, by rw [HS.out]; exact HO.out, HB.out⟩
        case measure => simp [intOf]; omega
      · have HS := Lib.hid (rwF_no (bs := bs) (j := j) hki)
        have hne : ((k:Int) != (i:Int)) = true := by simp; omega
        have hll : (nats (rwF bs i j k)).length ≤ 16 := by rw [nats_length]; have := rwF_length bs i j k; omega
        have hr : bs.getD k 0 < 64 := HG.out k
        have HV := Lib.hid (wo_val j (bs.getD k 0) hj6 hr)
        generalize bs.getD k 0 = r at *
        generalize nats (rwF bs i j k) = tp at *
        clear hki
        go_wp2_with fail
        go_region_held3 (fun _ => True) (trivial) ((rw [if_pos (by rfl)]; refine wp_append_own _ _ _ 22 rfl w.heap.size 3 i0 (.int .i64 0) 1 8 Tryd.underlying22 hi0 hz0 hz1 hz2 rfl (by decide) _ _ _ rfl (HO.out.alloc _) ⟨wr.heap.size, 0, none⟩ 1 1 [.int .i64 (woN j r : Nat)] rfl rfl (by rw [← HV.out]; exact newOne _ _ _) (oneInt _) (by unfold maxLen; omega) (by omega) (by have := HB.out.size; simp; omega) ?_; intro v' w2 hown' hgrow _))
        have HR := Lib.hid (int_step HO.out HB.out HB.out.size hown' (v := .slice ao' tp.length c') (grownBy_undrew hgrow))
        clear hown' hgrow
        go_wp2
        go_roundw
        case rel => exact ⟨k + 1, by omega, by go_num, by rw [HS.out]; exact HR.out.1, HR.out.2⟩
        case measure => simp [intOf]; omega
    · obtain rfl : k = n := by omega
      have HV : Hid (Nats wr (.slice ao' (nats (rwF bs i j k)).length c') (withoutL bs i j)) := Lib.hid (by
        have h := HO.out
        rw [HEnd.out] at h ⊢
        exact Ints.of_owns h (by rw [nats_length, HWB.out.len]; omega) (nats_I64 fun x hx => Nat.lt_of_lt_of_le (HWB.out.lt x hx) (by have := pw6 _ HWB.out.le; omega)))
      go_wp2
      go_ret
      exact ⟨_, rfl, HV.out, HB.out⟩
end Go.Proofs.YtellnklbkjajbaaDoor
