/- RooksGuests: the walk -/
import Derived.Test.YtellnklbkjajbaaDoorGs
import Derived.Test.YtellnklbkjajbaaDoorRw
import Derived.Test.YtellnklbkjajbaaDoorCt
namespace Go.Proofs.YtellnklbkjajbaaDoor
open Go.RowKit

set_option maxHeartbeats 1000000 in
set_option maxRecDepth 100000 in
theorem rooksGuests_bad (n : Int) (w : World) (h : (decide (2 ≤ n) && decide (n ≤ 8)) = false) (hT : Tab w) :
    Calls Tryd.prog 8 #[.int .i64 n] w fun e w' => e = .returned (.bool true) ∧ Below w.heap.size w w' := by
  have HG := Lib.hid (Guests_bad n w h)
  have HAw := Lib.hid (awake_any w hT)
  by_cases h2 : n < 2
  · clear h hT
    go_enter Tryd.func8, Tryd.ntmps8
    go_wp2_with fail
    refine HG.out.mono ?_
    rintro e w' ⟨rfl, rfl⟩
    go_wp2_with fail
    refine HAw.out.mono ?_
    rintro e w1 ⟨rfl, hb1⟩
    have HB1 := Lib.hid hb1
    clear hb1
    go_wp2
    go_ret
    exact ⟨rfl, HB1.out⟩
  · have h8 : 8 < n := by simp at h; omega
    clear h hT
    go_enter Tryd.func8, Tryd.ntmps8
    go_wp2_with fail
    refine HG.out.mono ?_
    rintro e w' ⟨rfl, rfl⟩
    go_wp2_with fail
    refine HAw.out.mono ?_
    rintro e w1 ⟨rfl, hb1⟩
    have HB1 := Lib.hid hb1
    clear hb1
    go_wp2
    go_ret
    exact ⟨rfl, HB1.out⟩

set_option maxHeartbeats 1000000 in
set_option maxRecDepth 100000 in
theorem rooksGuests_big (n : Nat) (w : World) (h6 : 6 < n) (hn : n ≤ 8) (hT : Tab w) :
    Calls Tryd.prog 8 #[.int .i64 n] w fun e w' => e = .returned (.bool true) ∧ Below w.heap.size w w' := by
  have HG := Lib.hid (Guests_any n w (by omega) hn hT)
  have HR := Lib.hid (fun w' => rGuests_any n w' (by omega) hn)
  have HTab := Lib.hid (fun w' (hb : Below w.heap.size w w') => tab_block hT (hb.block 1 (tab_lt hT)))
  have HAw := Lib.hid (fun w' (hb : Below w.heap.size w w') => awake_any w' (HTab.out w' hb))
  generalize guF n n 0 0 = g at *
  clear hT
  go_enter Tryd.func8, Tryd.ntmps8
  go_wp2_with fail
  refine HG.out.mono ?_
  rintro e w1 ⟨rfl, hb1⟩
  have HB1 := Lib.hid hb1
  clear hb1
  go_wp2_with fail
  refine (HR.out _).mono ?_
  rintro e w' ⟨rfl, rfl⟩
  go_wp2_with fail
  refine (HAw.out _ HB1.out).mono ?_
  rintro e w2 ⟨rfl, hb2⟩
  have HB2 := Lib.hid (HB1.out.trans (hb2.mono HB1.out.size))
  clear hb2
  go_wp2
  go_ret
  exact ⟨rfl, HB2.out⟩

set_option maxHeartbeats 2000000 in
set_option maxRecDepth 100000 in
theorem rooksGuests_small (n : Nat) (w : World) (h2 : 2 ≤ n) (hn : n ≤ 6) (hT : Tab w) :
    Calls Tryd.prog 8 #[.int .i64 n] w fun e w' => e = .returned (.bool true) ∧ Below w.heap.size w w' := by
  have HG := Lib.hid (Guests_any n w h2 (by omega) hT)
  have HR := Lib.hid (fun w' => rGuests_any n w' h2 (by omega))
  have HTab := Lib.hid (fun w' (hb : Below w.heap.size w w') => tab_block hT (hb.block 1 (tab_lt hT)))
  have HAw := Lib.hid (fun w' (hb : Below w.heap.size w w') => awake_any w' (HTab.out w' hb))
  have hbl := besL_length n
  have HBrd : Hid (Brd n (besL n)) := Lib.hid ⟨hbl, by omega, hn, besL_lt h2 (by omega)⟩
  have HLL := Lib.hid (hitsL_length (besL n))
  rw [hbl] at HLL
  have HQ := Lib.hid (guests_hits n h2 hn)
  generalize guF n n 0 0 = g at *
  obtain ⟨i0, hi0, hz0, hz1, hz2⟩ := info_parts Tryd.info3
  clear hT
  go_enter Tryd.func8, Tryd.ntmps8
  go_wp2_with fail
  refine HG.out.mono ?_
  rintro e w1 ⟨rfl, hb1⟩
  have HB1 := Lib.hid hb1
  clear hb1
  go_wp2_with fail
  refine (HR.out _).mono ?_
  rintro e w' ⟨rfl, rfl⟩
  go_wp2_with fail
  go_loopw [5, 40] (fun s ii wr => ∃ k : Nat, k ≤ n ∧ ii = .int .i64 k ∧ wr.ownsRow w1.heap.size 3 1 s (nats ((besL n).take k)).length (ints (nats ((besL n).take k))) ∧ Below w1.heap.size w1 wr) (fun _ ii _ => n - (intOf ii).toNat)
  case atStart => exact ⟨0, Nat.zero_le _, rfl, World.ownsRow_nil _ _ _ _, Below.refl _ _⟩
  case round =>
    obtain ⟨k, hk, rfl, hB, hb⟩ := hrel
    have HO := Lib.hid hB
    have HB := Lib.hid hb
    obtain ⟨ao', c', rfl⟩ := owns_form hB
    clear hB hb
    by_cases hlt : k < n
    · have hmod : (((k:Int) + 1) % (n:Int)) = (((k + 1) % n : Nat) : Int) := by simp
      have hnz : ¬ (n:Int) = 0 := by omega
      have hnz' : ¬ n = 0 := by omega
      have hmz : ((n:Int) == 0) = false := by simp; omega
      have hrn : (k + 1) % n < n := Nat.mod_lt _ (by omega)
      have e1 : 2 ^ k ≤ 128 := Nat.pow_le_pow_right (n := 2) (by decide) (show k ≤ 7 by omega)
      have e2 : 2 ^ ((k + 1) % n) ≤ 128 := Nat.pow_le_pow_right (n := 2) (by decide) (show (k + 1) % n ≤ 7 by omega)
      have hor : bits .or .i64 ((2:Int) ^ k) ((2:Int) ^ ((k + 1) % n)) = (((besL n).getD k 0 : Nat) : Int) := by
        rw [besL_get hlt, ← pw_cast, ← pw_cast]; exact i64_or _ _ (by omega) (by omega)
      have hd1 : IntKind.i64.wrap ((k:Int) + 1) = (k:Int) + 1 := i64_of (by omega) (by omega)
      have hd2 : ((k:Int) + 1).tmod (n:Int) = (((k + 1) % n : Nat) : Int) := by rw [Int.tmod_eq_emod_of_nonneg (by omega), hmod]
      have hd3 : IntKind.i64.wrap ((2:Int) ^ k) = (2:Int) ^ k := by have := pw_bd k (by omega); exact i64_of (by omega) (by omega)
      have hd4 : IntKind.i64.wrap ((2:Int) ^ ((k + 1) % n)) = (2:Int) ^ ((k + 1) % n) := by have := pw_bd ((k + 1) % n) (by omega); exact i64_of (by omega) (by omega)
      have HS := Lib.hid (natD_snoc (besL n) k (by rw [hbl]; exact hlt))
      have hll : (nats ((besL n).take k)).length ≤ 16 := by rw [nats_length, List.length_take]; omega
      have hsz := HB1.out.size
      clear e1 e2
      generalize (besL n).getD k 0 = b at *
      generalize (k + 1) % n = r at *
      generalize nats ((besL n).take k) = tp at *
      go_wp2_with fail
      go_region_held3 (fun _ => True) (trivial) ((rw [if_pos (by rfl)]; refine wp_append_own _ _ _ 22 rfl w1.heap.size 3 i0 (.int .i64 0) 1 8 Tryd.underlying22 hi0 hz0 hz1 hz2 rfl (by decide) _ _ _ rfl (HO.out.alloc _) ⟨wr.heap.size, 0, none⟩ 1 1 [.int .i64 (b : Nat)] rfl rfl (by rw [← hor]; exact newOne _ _ _) (oneInt _) (by unfold maxLen; omega) (by omega) (by have := HB.out.size; simp; omega) ?_; intro v' w2 hown' hgrow _))
      have HR2 := Lib.hid (int_step HO.out HB.out HB.out.size hown' (v := .slice ao' tp.length c') (grownBy_undrew hgrow))
      clear hown' hgrow
      go_wp2
      go_roundw
      case rel => exact ⟨k + 1, by omega, by go_num, by rw [HS.out]; exact HR2.out.1, HR2.out.2⟩
      case measure => simp [intOf]; omega
    · obtain rfl : k = n := by omega
      have hV : Nats wr (.slice ao' k c') (besL k) := by
        have h := HO.out
        rw [List.take_of_length_le (by rw [hbl]; exact Nat.le_refl _)] at h
        have := Ints.of_owns h (by rw [nats_length, hbl]; omega) (nats_I64 fun x hx => Nat.lt_of_lt_of_le (HBrd.out.lt x hx) (by have := pw6 k hn; omega))
        rwa [nats_length, hbl] at this
      have hlk : (nats ((besL k).take k)).length = k := by rw [nats_length, List.length_take, hbl]; omega
      have HBw := Lib.hid (HB1.out.trans (HB.out.mono HB1.out.size))
      have HH := Lib.hid (Hits_val _ (besL k) k wr HBrd.out hV (HTab.out wr HBw.out))
      rw [hlk]
      clear hV HO HB hlk
      go_wp2_with fail
      refine HH.out.mono ?_
      rintro e w2 ⟨A, rfl, hI, hb2⟩
      have HB2 := Lib.hid (HBw.out.trans (hb2.mono HBw.out.size))
      have hc0 := ints_at hI (k := 0) (by rw [HLL.out]; omega)
      rw [HQ.out] at hc0
      clear hI hb2 HH
      go_wp2_with fail
      refine (HAw.out _ HB2.out).mono ?_
      rintro e w3 ⟨rfl, hb3⟩
      have HB3 := Lib.hid (HB2.out.trans (hb3.mono HB2.out.size))
      clear hb3
      go_wp2
      go_ret
      exact ⟨rfl, HB3.out⟩

theorem rooksGuests_law (n : Int) (w : World) (hT : Tab w) :
    Calls Tryd.prog 8 #[.int .i64 n] w fun e w' => e = .returned (.bool true) ∧ Below w.heap.size w w' := by
  cases h : decide (2 ≤ n) && decide (n ≤ 8) with
  | false => exact rooksGuests_bad n w h hT
  | true =>
    simp only [Bool.and_eq_true, decide_eq_true_eq] at h
    obtain ⟨m, rfl⟩ : ∃ m : Nat, n = m := ⟨n.toNat, by omega⟩
    by_cases h6 : m ≤ 6
    · exact rooksGuests_small m w (by omega) h6 hT
    · exact rooksGuests_big m w (by omega) (by omega) hT
end Go.Proofs.YtellnklbkjajbaaDoor
