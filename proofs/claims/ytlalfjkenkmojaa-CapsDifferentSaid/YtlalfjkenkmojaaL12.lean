/- CapsDifferent: the walk -/
import Derived.Test.YtlalfjkenkmojaaSn
namespace Go.Proofs.Ytlalfjkenkmojaa
open Go.RowKit

set_option maxHeartbeats 800000 in
theorem different_bad (n : Int) (v : Value) (xs : List Int) (by_ : Int) (w : World) (h : Ints w v xs) (hr : resB n xs = false) :
    Calls Try.prog 12 #[.int .i64 n, v, .int .i64 by_] w fun e w' => e = .returned (.bool true) ∧ Below w.heap.size w w' := by
  have HL := Lib.hid (fun w' (hb : Below w.heap.size w w') => list_any v _ w' (h.below hb (Nat.le_refl _)))
  have HAw := Lib.hid (fun w => awake_any w)
  have HSm := Lib.hid (fun v' w' (h' : Ints w' v' (xs.take 90)) => Sums_bad n v' _ w' h' (by rw [resB_take, hr]))
  clear h hr
  have HB0 := Lib.hid (Below.refl w.heap.size w)
  go_enter Try.func12, Try.ntmps12
  go_wp2_with fail
  refine (HL.out w HB0.out).mono ?_
  rintro e w1 ⟨v1, rfl, hv1, hb1⟩
  have HB1 := Lib.hid (HB0.out.trans (hb1.mono HB0.out.size))
  have A_1 := Lib.hid (hv1)
  clear hb1 hv1
  go_wp2_with fail
  refine (HSm.out v1 w1 A_1.out).mono ?_
  rintro e w' ⟨rfl, rfl⟩
  clear A_1
  go_wp2_with fail
  refine (HAw.out w1).mono ?_
  rintro e w2 ⟨rfl, hb2⟩
  have HB2 := Lib.hid (HB1.out.trans (hb2.mono HB1.out.size))
  clear hb2
  go_wp2
  go_ret
  exact ⟨rfl, HB2.out⟩
theorem mdl_snoc {l : List Nat} {f : Nat → Nat} {k : Nat} (h : k < l.length) : (l.map f).take (k + 1) = (l.map f).take k ++ [f (l.getD k 0)] := by
  rw [List.take_succ_eq_append_getElem (by simpa using h)]
  simp [h]

set_option maxHeartbeats 1600000 in
set_option maxRecDepth 100000 in
theorem different_far (n : Nat) (v : Value) (l : List Nat) (by_ : Int) (w : World) (h : Nats w v l) (hs : Res n l) (hq : sumsB n l = true) (hn : 25 < n) :
    Calls Try.prog 12 #[.int .i64 n, v, .int .i64 by_] w fun e w' => e = .returned (.bool true) ∧ Below w.heap.size w w' := by
  obtain ⟨U, hU, hU2⟩ : ∃ U : Nat, IntKind.u64.wrap by_ = (U : Int) ∧ U < 18446744073709551616 := ⟨(IntKind.u64.wrap by_).toNat, by rw [IntKind.wrap_u64]; omega, by rw [IntKind.wrap_u64]; omega⟩
  obtain ⟨t, ht⟩ : ∃ t, t = U % n := ⟨_, rfl⟩
  have hlo := hs.lo
  have hhi := hs.hi
  have ht_lt : t < n := by rw [ht]; exact Nat.mod_lt _ (by omega)
  have d3 : (U:Int).tmod (n:Int) = (t:Int) := by rw [ht]; rfl
  have d4 : (U:Int) % (n:Int) = (t:Int) := by rw [ht]; rfl
  have dn : IntKind.u64.wrap (n:Int) = (n:Int) := by rw [IntKind.wrap_u64]; omega
  have hn0 : ((n:Int) == 0) = false := beq_eq_false_iff_ne.2 (by omega)
  have hn1 : ¬ n = 0 := by omega
  have hn2 : ¬ (n:Int) = 0 := by omega
  clear ht
  obtain ⟨ml, hml⟩ : ∃ ml, ml = l.map fun x => (x + t) % n := ⟨_, rfl⟩
  have hm : Res n (sortN ml) := by
    rw [hml]
    exact ⟨hlo, hhi, shift_up hs.up hs.bd ht_lt, fun x hx => by
      obtain ⟨y, _, rfl⟩ := List.mem_map.1 (sortN_mem.1 hx)
      exact Nat.mod_lt _ (by omega)⟩
  have hsame : sumsB n (sortN ml) = true := by rw [hml, shift_same hs.up hs.bd ht_lt, hq]
  have HL := Lib.hid (fun w' (hb : Below w.heap.size w w') => list_any v _ w' (h.below hb (Nat.le_refl _)))
  rw [nats_take90 (by have := hs.len; omega)] at HL
  have HAw := Lib.hid (fun w => awake_any w)
  have HSm := Lib.hid (fun v' w' (h' : Nats w' v' l) => Sums_any n v' l w' hs h')
  have HRe := Lib.hid (fun w' (hb : Below w.heap.size w w') => rResidues_any n v _ w' (h.below hb (Nat.le_refl _)))
  rw [res_mk hs] at HRe
  have HSm2 := Lib.hid (fun v' w' (h' : Nats w' v' (sortN ml)) => Sums_any n v' _ w' hm h')
  rw [hsame] at HSm2
  rw [hq] at HSm
  have hml_len : ml.length = l.length := by rw [hml, List.length_map]
  have hlen := hs.len
  have HSort := Lib.hid (fun v' w' (ho : w'.ownsRow w.heap.size 3 1 v' ml.length (ints (nats ml))) (hB : w.heap.size ≤ w'.heap.size) => sortA_any w.heap.size v' ml w' (by omega) (fun x hx => by
      rw [hml] at hx
      obtain ⟨y, _, rfl⟩ := List.mem_map.1 hx
      have := Nat.mod_lt (y + t) (show 0 < n by omega)
      omega) ho hB)
  have HTk' : Hid (ml.take l.length = ml) := Lib.hid (List.take_of_length_le (by omega))
  have HSn := Lib.hid (fun k (hk : k < l.length) => show ml.take (k + 1) = ml.take k ++ [(l.getD k 0 + t) % n] by rw [hml]; exact mdl_snoc hk)
  have HRm := Lib.hid (fun z : Nat => show ((z:Int) + (t:Int)).tmod (n:Int) = (((z + t) % n : Nat) : Int) by rfl)
  have HBd := Lib.hid hs.bd
  have hbd := sums_bound hs.up hs.bd hq
  have hk2 : (l.length : Int) * ((l.length : Int) - 1) ≤ (n:Int) - 1 := by
    rcases Nat.eq_zero_or_pos l.length with e | e
    · rw [e]; simp; omega
    · have : ((l.length * (l.length - 1) : Nat) : Int) = (l.length : Int) * ((l.length : Int) - 1) := by rw [Int.natCast_mul]; congr 1; omega
      omega
  have hk3 : 0 ≤ (l.length : Int) * ((l.length : Int) - 1) := by
    rcases Nat.eq_zero_or_pos l.length with e | e
    · rw [e]; simp
    · exact Int.mul_nonneg (by omega) (by omega)
  clear hbd
  have HMo := Lib.hid (fun w => Most_bad n w hn hhi)
  obtain ⟨ao, cap, rfl, h1, h2, hxx⟩ := h.open
  have HX := Lib.hid hxx
  obtain ⟨i0, hi, hz0, hz1, hz2⟩ := info_parts Try.info3
  clear h hs hm hxx hsame hml hq hml_len
  have HB0 := Lib.hid (Below.refl w.heap.size w)
  go_enter Try.func12, Try.ntmps12
  go_wp2_with fail
  refine (HL.out w HB0.out).mono ?_
  rintro e w1 ⟨v1, rfl, hv1, hb1⟩
  have HB1 := Lib.hid (HB0.out.trans (hb1.mono HB0.out.size))
  have A_1 := Lib.hid (hv1)
  clear hb1 hv1
  go_wp2_with fail
  refine (HSm.out v1 w1 A_1.out).mono ?_
  rintro e w2 ⟨rfl, hb2⟩
  have HB2 := Lib.hid (HB1.out.trans (hb2.mono HB1.out.size))
  have A_2 := Lib.hid (A_1.out.below hb2 (Nat.le_refl _))
  clear hb2
  clear A_2
  go_wp2_with fail
  refine (HRe.out w2 HB2.out).mono ?_
  rintro e w' ⟨rfl, rfl⟩
  go_wp2_with fail
  go_loopw [10, 59] (fun s i wr => ∃ k : Nat, k ≤ l.length ∧ i = .int .i64 k ∧ wr.ownsRow w.heap.size 3 1 s (ml.take k).length (ints (nats (ml.take k))) ∧ Below w.heap.size w wr) (fun _ i _ => l.length - (intOf i).toNat)
  case atStart => exact ⟨0, Nat.zero_le _, rfl, World.ownsRow_nil _ _ _ _, HB2.out⟩
  case round =>
    clear HB2
    obtain ⟨k, hk, rfl, hO, hb⟩ := hrel
    have HO := Lib.hid hO
    have HB := Lib.hid hb
    obtain ⟨ao', c', rfl⟩ := owns_form hO
    clear hO hb
    by_cases hlt : k < l.length
    · obtain ⟨b, o, rfl, hck⟩ := HX.out k hlt
      have hck' := ck hck HB.out
      have hz := HBd.out _ (natD_mem hlt)
      have HS := Lib.hid (HSn.out k hlt)
      have hr := HRm.out (l.getD k 0)
      have hll : (ml.take k).length ≤ 100 := by rw [List.length_take]; omega
      clear hck
      generalize l.getD k 0 = z at *
      generalize (z + t) % n = r at *
      generalize ml.take k = tp at *
      go_wp2_with (at_builtin; refine wpList_append_own _ rfl _ _ 22 rfl w.heap.size 3 i0 (.int .i64 0) 1 8 Try.underlying22 hi hz0 hz1 hz2 rfl (by decide) _ _ _ rfl (HO.out.alloc _) ⟨wr.heap.size, 0, none⟩ 1 1 [.int .i64 (r:Int)] rfl rfl (newOne _ _ _) (oneInt _) (by unfold maxLen; omega) (by omega) (by have := HB.out.size; simp; omega) ?_)
      intro v' w2 hown' hgrow _
      have HR := Lib.hid (nat_step HO.out HB.out HB.out.size hown' hgrow)
      clear hown' hgrow
      go_wp2
      go_roundw
      case rel => exact ⟨k + 1, by omega, vint (by omega), by rw [HS.out]; exact HR.out.1, HR.out.2⟩
      case measure => simp [intOf]; omega
    · obtain rfl : k = l.length := by omega
      have HSo := Lib.hid (HSort.out (.slice ao' (ml.take l.length).length c') wr (by have h := HO.out; rw [HTk'.out] at h ⊢; exact h) HB.out.size)
      generalize (ml.take l.length).length = len at *
      clear HO
      go_wp2_with fail
      refine HSo.out.mono ?_
      rintro e w8 ⟨rfl, hn8, hb8⟩
      have HB8 := Lib.hid (HB.out.trans hb8)
      have HN8 := Lib.hid hn8
      clear hb8 hn8 HSo HB
      go_wp2_with fail
      refine (HSm2.out _ w8 HN8.out).mono ?_
      rintro e w9 ⟨rfl, hb9⟩
      have HB9 := Lib.hid (HB8.out.trans (hb9.mono HB8.out.size))
      clear hb9 HN8 HB8
      go_wp2_with fail
      refine (HMo.out w9).mono ?_
      rintro e w10 ⟨rfl, hb10⟩
      have HB10 := Lib.hid (HB9.out.trans (hb10.mono HB9.out.size))
      clear hb10
      go_wp2_with fail
      refine (HAw.out w10).mono ?_
      rintro e w11 ⟨rfl, hb11⟩
      have HB11 := Lib.hid (HB10.out.trans (hb11.mono HB10.out.size))
      clear hb11
      go_wp2
      go_ret
      exact ⟨rfl, HB11.out⟩

set_option maxHeartbeats 1600000 in
set_option maxRecDepth 100000 in
theorem different_farF (n : Nat) (v : Value) (l : List Nat) (by_ : Int) (w : World) (h : Nats w v l) (hs : Res n l) (hq : sumsB n l = false) (hn : 25 < n) :
    Calls Try.prog 12 #[.int .i64 n, v, .int .i64 by_] w fun e w' => e = .returned (.bool true) ∧ Below w.heap.size w w' := by
  obtain ⟨U, hU, hU2⟩ : ∃ U : Nat, IntKind.u64.wrap by_ = (U : Int) ∧ U < 18446744073709551616 := ⟨(IntKind.u64.wrap by_).toNat, by rw [IntKind.wrap_u64]; omega, by rw [IntKind.wrap_u64]; omega⟩
  obtain ⟨t, ht⟩ : ∃ t, t = U % n := ⟨_, rfl⟩
  have hlo := hs.lo
  have hhi := hs.hi
  have ht_lt : t < n := by rw [ht]; exact Nat.mod_lt _ (by omega)
  have d3 : (U:Int).tmod (n:Int) = (t:Int) := by rw [ht]; rfl
  have d4 : (U:Int) % (n:Int) = (t:Int) := by rw [ht]; rfl
  have dn : IntKind.u64.wrap (n:Int) = (n:Int) := by rw [IntKind.wrap_u64]; omega
  have hn0 : ((n:Int) == 0) = false := beq_eq_false_iff_ne.2 (by omega)
  have hn1 : ¬ n = 0 := by omega
  have hn2 : ¬ (n:Int) = 0 := by omega
  clear ht
  obtain ⟨ml, hml⟩ : ∃ ml, ml = l.map fun x => (x + t) % n := ⟨_, rfl⟩
  have hm : Res n (sortN ml) := by
    rw [hml]
    exact ⟨hlo, hhi, shift_up hs.up hs.bd ht_lt, fun x hx => by
      obtain ⟨y, _, rfl⟩ := List.mem_map.1 (sortN_mem.1 hx)
      exact Nat.mod_lt _ (by omega)⟩
  have hsame : sumsB n (sortN ml) = false := by rw [hml, shift_same hs.up hs.bd ht_lt, hq]
  have HL := Lib.hid (fun w' (hb : Below w.heap.size w w') => list_any v _ w' (h.below hb (Nat.le_refl _)))
  rw [nats_take90 (by have := hs.len; omega)] at HL
  have HAw := Lib.hid (fun w => awake_any w)
  have HSm := Lib.hid (fun v' w' (h' : Nats w' v' l) => Sums_any n v' l w' hs h')
  have HRe := Lib.hid (fun w' (hb : Below w.heap.size w w') => rResidues_any n v _ w' (h.below hb (Nat.le_refl _)))
  rw [res_mk hs] at HRe
  have HSm2 := Lib.hid (fun v' w' (h' : Nats w' v' (sortN ml)) => Sums_any n v' _ w' hm h')
  rw [hsame] at HSm2
  rw [hq] at HSm
  have hml_len : ml.length = l.length := by rw [hml, List.length_map]
  have hlen := hs.len
  have HSort := Lib.hid (fun v' w' (ho : w'.ownsRow w.heap.size 3 1 v' ml.length (ints (nats ml))) (hB : w.heap.size ≤ w'.heap.size) => sortA_any w.heap.size v' ml w' (by omega) (fun x hx => by
      rw [hml] at hx
      obtain ⟨y, _, rfl⟩ := List.mem_map.1 hx
      have := Nat.mod_lt (y + t) (show 0 < n by omega)
      omega) ho hB)
  have HTk' : Hid (ml.take l.length = ml) := Lib.hid (List.take_of_length_le (by omega))
  have HSn := Lib.hid (fun k (hk : k < l.length) => show ml.take (k + 1) = ml.take k ++ [(l.getD k 0 + t) % n] by rw [hml]; exact mdl_snoc hk)
  have HRm := Lib.hid (fun z : Nat => show ((z:Int) + (t:Int)).tmod (n:Int) = (((z + t) % n : Nat) : Int) by rfl)
  have HBd := Lib.hid hs.bd
  have HMo := Lib.hid (fun w => Most_bad n w hn hhi)
  obtain ⟨ao, cap, rfl, h1, h2, hxx⟩ := h.open
  have HX := Lib.hid hxx
  obtain ⟨i0, hi, hz0, hz1, hz2⟩ := info_parts Try.info3
  clear h hs hm hxx hsame hml hq hml_len
  have HB0 := Lib.hid (Below.refl w.heap.size w)
  go_enter Try.func12, Try.ntmps12
  go_wp2_with fail
  refine (HL.out w HB0.out).mono ?_
  rintro e w1 ⟨v1, rfl, hv1, hb1⟩
  have HB1 := Lib.hid (HB0.out.trans (hb1.mono HB0.out.size))
  have A_1 := Lib.hid (hv1)
  clear hb1 hv1
  go_wp2_with fail
  refine (HSm.out v1 w1 A_1.out).mono ?_
  rintro e w2 ⟨rfl, hb2⟩
  have HB2 := Lib.hid (HB1.out.trans (hb2.mono HB1.out.size))
  have A_2 := Lib.hid (A_1.out.below hb2 (Nat.le_refl _))
  clear hb2
  clear A_2
  go_wp2_with fail
  refine (HRe.out w2 HB2.out).mono ?_
  rintro e w' ⟨rfl, rfl⟩
  go_wp2_with fail
  go_loopw [10, 59] (fun s i wr => ∃ k : Nat, k ≤ l.length ∧ i = .int .i64 k ∧ wr.ownsRow w.heap.size 3 1 s (ml.take k).length (ints (nats (ml.take k))) ∧ Below w.heap.size w wr) (fun _ i _ => l.length - (intOf i).toNat)
  case atStart => exact ⟨0, Nat.zero_le _, rfl, World.ownsRow_nil _ _ _ _, HB2.out⟩
  case round =>
    clear HB2
    obtain ⟨k, hk, rfl, hO, hb⟩ := hrel
    have HO := Lib.hid hO
    have HB := Lib.hid hb
    obtain ⟨ao', c', rfl⟩ := owns_form hO
    clear hO hb
    by_cases hlt : k < l.length
    · obtain ⟨b, o, rfl, hck⟩ := HX.out k hlt
      have hck' := ck hck HB.out
      have hz := HBd.out _ (natD_mem hlt)
      have HS := Lib.hid (HSn.out k hlt)
      have hr := HRm.out (l.getD k 0)
      have hll : (ml.take k).length ≤ 100 := by rw [List.length_take]; omega
      clear hck
      generalize l.getD k 0 = z at *
      generalize (z + t) % n = r at *
      generalize ml.take k = tp at *
      go_wp2_with (at_builtin; refine wpList_append_own _ rfl _ _ 22 rfl w.heap.size 3 i0 (.int .i64 0) 1 8 Try.underlying22 hi hz0 hz1 hz2 rfl (by decide) _ _ _ rfl (HO.out.alloc _) ⟨wr.heap.size, 0, none⟩ 1 1 [.int .i64 (r:Int)] rfl rfl (newOne _ _ _) (oneInt _) (by unfold maxLen; omega) (by omega) (by have := HB.out.size; simp; omega) ?_)
      intro v' w2 hown' hgrow _
      have HR := Lib.hid (nat_step HO.out HB.out HB.out.size hown' hgrow)
      clear hown' hgrow
      go_wp2
      go_roundw
      case rel => exact ⟨k + 1, by omega, vint (by omega), by rw [HS.out]; exact HR.out.1, HR.out.2⟩
      case measure => simp [intOf]; omega
    · obtain rfl : k = l.length := by omega
      have HSo := Lib.hid (HSort.out (.slice ao' (ml.take l.length).length c') wr (by have h := HO.out; rw [HTk'.out] at h ⊢; exact h) HB.out.size)
      generalize (ml.take l.length).length = len at *
      clear HO
      go_wp2_with fail
      refine HSo.out.mono ?_
      rintro e w8 ⟨rfl, hn8, hb8⟩
      have HB8 := Lib.hid (HB.out.trans hb8)
      have HN8 := Lib.hid hn8
      clear hb8 hn8 HSo HB
      go_wp2_with fail
      refine (HSm2.out _ w8 HN8.out).mono ?_
      rintro e w9 ⟨rfl, hb9⟩
      have HB9 := Lib.hid (HB8.out.trans (hb9.mono HB8.out.size))
      clear hb9 HN8 HB8
      go_wp2_with fail
      refine (HMo.out w9).mono ?_
      rintro e w10 ⟨rfl, hb10⟩
      have HB10 := Lib.hid (HB9.out.trans (hb10.mono HB9.out.size))
      clear hb10
      go_wp2_with fail
      refine (HAw.out w10).mono ?_
      rintro e w11 ⟨rfl, hb11⟩
      have HB11 := Lib.hid (HB10.out.trans (hb11.mono HB10.out.size))
      clear hb11
      go_wp2
      go_ret
      exact ⟨rfl, HB11.out⟩

set_option maxHeartbeats 1600000 in
set_option maxRecDepth 100000 in
theorem different_less (n : Nat) (v : Value) (l : List Nat) (by_ : Int) (w : World) (h : Nats w v l) (hs : Res n l) (hq : sumsB n l = true) (hn : n ≤ 25) (hk : l.length < (mostN n).length) :
    Calls Try.prog 12 #[.int .i64 n, v, .int .i64 by_] w fun e w' => e = .returned (.bool true) ∧ Below w.heap.size w w' := by
  obtain ⟨U, hU, hU2⟩ : ∃ U : Nat, IntKind.u64.wrap by_ = (U : Int) ∧ U < 18446744073709551616 := ⟨(IntKind.u64.wrap by_).toNat, by rw [IntKind.wrap_u64]; omega, by rw [IntKind.wrap_u64]; omega⟩
  obtain ⟨t, ht⟩ : ∃ t, t = U % n := ⟨_, rfl⟩
  have hlo := hs.lo
  have hhi := hs.hi
  have ht_lt : t < n := by rw [ht]; exact Nat.mod_lt _ (by omega)
  have d3 : (U:Int).tmod (n:Int) = (t:Int) := by rw [ht]; rfl
  have d4 : (U:Int) % (n:Int) = (t:Int) := by rw [ht]; rfl
  have dn : IntKind.u64.wrap (n:Int) = (n:Int) := by rw [IntKind.wrap_u64]; omega
  have hn0 : ((n:Int) == 0) = false := beq_eq_false_iff_ne.2 (by omega)
  have hn1 : ¬ n = 0 := by omega
  have hn2 : ¬ (n:Int) = 0 := by omega
  clear ht
  obtain ⟨ml, hml⟩ : ∃ ml, ml = l.map fun x => (x + t) % n := ⟨_, rfl⟩
  have hm : Res n (sortN ml) := by
    rw [hml]
    exact ⟨hlo, hhi, shift_up hs.up hs.bd ht_lt, fun x hx => by
      obtain ⟨y, _, rfl⟩ := List.mem_map.1 (sortN_mem.1 hx)
      exact Nat.mod_lt _ (by omega)⟩
  have hsame : sumsB n (sortN ml) = true := by rw [hml, shift_same hs.up hs.bd ht_lt, hq]
  have HL := Lib.hid (fun w' (hb : Below w.heap.size w w') => list_any v _ w' (h.below hb (Nat.le_refl _)))
  rw [nats_take90 (by have := hs.len; omega)] at HL
  have HAw := Lib.hid (fun w => awake_any w)
  have HSm := Lib.hid (fun v' w' (h' : Nats w' v' l) => Sums_any n v' l w' hs h')
  have HRe := Lib.hid (fun w' (hb : Below w.heap.size w w') => rResidues_any n v _ w' (h.below hb (Nat.le_refl _)))
  rw [res_mk hs] at HRe
  have HSm2 := Lib.hid (fun v' w' (h' : Nats w' v' (sortN ml)) => Sums_any n v' _ w' hm h')
  rw [hsame] at HSm2
  rw [hq] at HSm
  have hml_len : ml.length = l.length := by rw [hml, List.length_map]
  have hlen := hs.len
  have HSort := Lib.hid (fun v' w' (ho : w'.ownsRow w.heap.size 3 1 v' ml.length (ints (nats ml))) (hB : w.heap.size ≤ w'.heap.size) => sortA_any w.heap.size v' ml w' (by omega) (fun x hx => by
      rw [hml] at hx
      obtain ⟨y, _, rfl⟩ := List.mem_map.1 hx
      have := Nat.mod_lt (y + t) (show 0 < n by omega)
      omega) ho hB)
  have HTk' : Hid (ml.take l.length = ml) := Lib.hid (List.take_of_length_le (by omega))
  have HSn := Lib.hid (fun k (hk : k < l.length) => show ml.take (k + 1) = ml.take k ++ [(l.getD k 0 + t) % n] by rw [hml]; exact mdl_snoc hk)
  have HRm := Lib.hid (fun z : Nat => show ((z:Int) + (t:Int)).tmod (n:Int) = (((z + t) % n : Nat) : Int) by rfl)
  have HBd := Lib.hid hs.bd
  have hbd := sums_bound hs.up hs.bd hq
  have hk2 : (l.length : Int) * ((l.length : Int) - 1) ≤ (n:Int) - 1 := by
    rcases Nat.eq_zero_or_pos l.length with e | e
    · rw [e]; simp; omega
    · have : ((l.length * (l.length - 1) : Nat) : Int) = (l.length : Int) * ((l.length : Int) - 1) := by rw [Int.natCast_mul]; congr 1; omega
      omega
  have hk3 : 0 ≤ (l.length : Int) * ((l.length : Int) - 1) := by
    rcases Nat.eq_zero_or_pos l.length with e | e
    · rw [e]; simp
    · exact Int.mul_nonneg (by omega) (by omega)
  clear hbd
  have HMo := Lib.hid (fun w => Most_any n w hlo hn)
  have hbs : Res n (mostN n) := ⟨hlo, hhi, mostN_up n, mostN_bd n⟩
  have HSm3 := Lib.hid (fun v' w' (h' : Nats w' v' (mostN n)) => Sums_any n v' _ w' hbs h')
  rw [mostN_sums n] at HSm3
  have HBb := Lib.hid hbs.bd
  have hbl := hbs.len
  have hbd2 := mostN_bound n
  have hm2 : ((mostN n).length : Int) * (((mostN n).length : Int) - 1) ≤ (n:Int) - 1 := by
    rcases Nat.eq_zero_or_pos (mostN n).length with e | e
    · rw [e]; simp; omega
    · have : (((mostN n).length * ((mostN n).length - 1) : Nat) : Int) = ((mostN n).length : Int) * (((mostN n).length : Int) - 1) := by rw [Int.natCast_mul]; congr 1; omega
      omega
  have hm3 : 0 ≤ ((mostN n).length : Int) * (((mostN n).length : Int) - 1) := by
    rcases Nat.eq_zero_or_pos (mostN n).length with e | e
    · rw [e]; simp
    · exact Int.mul_nonneg (by omega) (by omega)
  clear hbd2 hbs
  generalize mostN n = bs at *
  obtain ⟨ao, cap, rfl, h1, h2, hxx⟩ := h.open
  have HX := Lib.hid hxx
  obtain ⟨i0, hi, hz0, hz1, hz2⟩ := info_parts Try.info3
  clear h hs hm hxx hsame hml hq hml_len
  have HB0 := Lib.hid (Below.refl w.heap.size w)
  go_enter Try.func12, Try.ntmps12
  go_wp2_with fail
  refine (HL.out w HB0.out).mono ?_
  rintro e w1 ⟨v1, rfl, hv1, hb1⟩
  have HB1 := Lib.hid (HB0.out.trans (hb1.mono HB0.out.size))
  have A_1 := Lib.hid (hv1)
  clear hb1 hv1
  go_wp2_with fail
  refine (HSm.out v1 w1 A_1.out).mono ?_
  rintro e w2 ⟨rfl, hb2⟩
  have HB2 := Lib.hid (HB1.out.trans (hb2.mono HB1.out.size))
  have A_2 := Lib.hid (A_1.out.below hb2 (Nat.le_refl _))
  clear hb2
  clear A_2
  go_wp2_with fail
  refine (HRe.out w2 HB2.out).mono ?_
  rintro e w' ⟨rfl, rfl⟩
  go_wp2_with fail
  go_loopw [10, 59] (fun s i wr => ∃ k : Nat, k ≤ l.length ∧ i = .int .i64 k ∧ wr.ownsRow w.heap.size 3 1 s (ml.take k).length (ints (nats (ml.take k))) ∧ Below w.heap.size w wr) (fun _ i _ => l.length - (intOf i).toNat)
  case atStart => exact ⟨0, Nat.zero_le _, rfl, World.ownsRow_nil _ _ _ _, HB2.out⟩
  case round =>
    clear HB2
    obtain ⟨k, hk, rfl, hO, hb⟩ := hrel
    have HO := Lib.hid hO
    have HB := Lib.hid hb
    obtain ⟨ao', c', rfl⟩ := owns_form hO
    clear hO hb
    by_cases hlt : k < l.length
    · obtain ⟨b, o, rfl, hck⟩ := HX.out k hlt
      have hck' := ck hck HB.out
      have hz := HBd.out _ (natD_mem hlt)
      have HS := Lib.hid (HSn.out k hlt)
      have hr := HRm.out (l.getD k 0)
      have hll : (ml.take k).length ≤ 100 := by rw [List.length_take]; omega
      clear hck
      generalize l.getD k 0 = z at *
      generalize (z + t) % n = r at *
      generalize ml.take k = tp at *
      go_wp2_with (at_builtin; refine wpList_append_own _ rfl _ _ 22 rfl w.heap.size 3 i0 (.int .i64 0) 1 8 Try.underlying22 hi hz0 hz1 hz2 rfl (by decide) _ _ _ rfl (HO.out.alloc _) ⟨wr.heap.size, 0, none⟩ 1 1 [.int .i64 (r:Int)] rfl rfl (newOne _ _ _) (oneInt _) (by unfold maxLen; omega) (by omega) (by have := HB.out.size; simp; omega) ?_)
      intro v' w2 hown' hgrow _
      have HR := Lib.hid (nat_step HO.out HB.out HB.out.size hown' hgrow)
      clear hown' hgrow
      go_wp2
      go_roundw
      case rel => exact ⟨k + 1, by omega, vint (by omega), by rw [HS.out]; exact HR.out.1, HR.out.2⟩
      case measure => simp [intOf]; omega
    · obtain rfl : k = l.length := by omega
      have HSo := Lib.hid (HSort.out (.slice ao' (ml.take l.length).length c') wr (by have h := HO.out; rw [HTk'.out] at h ⊢; exact h) HB.out.size)
      generalize (ml.take l.length).length = len at *
      clear HO
      go_wp2_with fail
      refine HSo.out.mono ?_
      rintro e w8 ⟨rfl, hn8, hb8⟩
      have HB8 := Lib.hid (HB.out.trans hb8)
      have HN8 := Lib.hid hn8
      clear hb8 hn8 HSo HB
      go_wp2_with fail
      refine (HSm2.out _ w8 HN8.out).mono ?_
      rintro e w9 ⟨rfl, hb9⟩
      have HB9 := Lib.hid (HB8.out.trans (hb9.mono HB8.out.size))
      clear hb9 HN8 HB8
      go_wp2_with fail
      refine (HMo.out w9).mono ?_
      rintro e w10 ⟨v10, rfl, hn10, hb10⟩
      have HB10 := Lib.hid (HB9.out.trans (hb10.mono HB9.out.size))
      have HN10 := Lib.hid hn10
      have HCl := Lib.hid (clone1_any v10 _ w10 hn10)
      have HNf : Hid (∃ a c, v10 = .slice a bs.length c) := Lib.hid (by obtain ⟨a, c, e, _⟩ := Nats.open hn10; exact ⟨a, c, e⟩)
      obtain ⟨a10, c10, rfl⟩ := HNf.out
      clear hb10 hn10 HNf
      go_wp2_with fail
      refine HCl.out.mono ?_
      rintro e w11 ⟨a11, c11, rfl, ho11, hb11⟩
      have HB11 := Lib.hid (HB10.out.trans (hb11.mono HB10.out.size))
      have HN11 : Hid (Nats w11 (.slice a11 bs.length c11) bs) := Lib.hid (by
        have e := nats_length bs
        rw [e] at ho11
        exact Nats.of_owns ho11 (by omega) fun x hx => by have := HBb.out x hx; omega)
      have HN11' := Lib.hid (HN10.out.below hb11 (Nat.le_refl _))
      rw [nats_length bs]
      clear ho11 hb11 HCl HN10
      go_wp2_with fail
      refine (HSm3.out _ w11 HN11.out).mono ?_
      rintro e w12 ⟨rfl, hb12⟩
      have HB12 := Lib.hid (HB11.out.trans (hb12.mono HB11.out.size))
      have HN12 := Lib.hid (HN11'.out.below hb12 (Nat.le_refl _))
      clear hb12 HN11 HN11'
      go_wp2_with fail
      refine (HAw.out w12).mono ?_
      rintro e w13 ⟨rfl, hb13⟩
      have HB13 := Lib.hid (HB12.out.trans (hb13.mono HB12.out.size))
      clear hb13
      go_wp2
      go_ret
      exact ⟨rfl, HB13.out⟩

set_option maxHeartbeats 1600000 in
set_option maxRecDepth 100000 in
theorem different_same (n : Nat) (v : Value) (l : List Nat) (by_ : Int) (w : World) (h : Nats w v l) (hs : Res n l) (hq : sumsB n l = true) (hn : n ≤ 25) (hk : l.length = (mostN n).length) :
    Calls Try.prog 12 #[.int .i64 n, v, .int .i64 by_] w fun e w' => e = .returned (.bool true) ∧ Below w.heap.size w w' := by
  obtain ⟨U, hU, hU2⟩ : ∃ U : Nat, IntKind.u64.wrap by_ = (U : Int) ∧ U < 18446744073709551616 := ⟨(IntKind.u64.wrap by_).toNat, by rw [IntKind.wrap_u64]; omega, by rw [IntKind.wrap_u64]; omega⟩
  obtain ⟨t, ht⟩ : ∃ t, t = U % n := ⟨_, rfl⟩
  have hlo := hs.lo
  have hhi := hs.hi
  have ht_lt : t < n := by rw [ht]; exact Nat.mod_lt _ (by omega)
  have d3 : (U:Int).tmod (n:Int) = (t:Int) := by rw [ht]; rfl
  have d4 : (U:Int) % (n:Int) = (t:Int) := by rw [ht]; rfl
  have dn : IntKind.u64.wrap (n:Int) = (n:Int) := by rw [IntKind.wrap_u64]; omega
  have hn0 : ((n:Int) == 0) = false := beq_eq_false_iff_ne.2 (by omega)
  have hn1 : ¬ n = 0 := by omega
  have hn2 : ¬ (n:Int) = 0 := by omega
  clear ht
  obtain ⟨ml, hml⟩ : ∃ ml, ml = l.map fun x => (x + t) % n := ⟨_, rfl⟩
  have hm : Res n (sortN ml) := by
    rw [hml]
    exact ⟨hlo, hhi, shift_up hs.up hs.bd ht_lt, fun x hx => by
      obtain ⟨y, _, rfl⟩ := List.mem_map.1 (sortN_mem.1 hx)
      exact Nat.mod_lt _ (by omega)⟩
  have hsame : sumsB n (sortN ml) = true := by rw [hml, shift_same hs.up hs.bd ht_lt, hq]
  have HL := Lib.hid (fun w' (hb : Below w.heap.size w w') => list_any v _ w' (h.below hb (Nat.le_refl _)))
  rw [nats_take90 (by have := hs.len; omega)] at HL
  have HAw := Lib.hid (fun w => awake_any w)
  have HSm := Lib.hid (fun v' w' (h' : Nats w' v' l) => Sums_any n v' l w' hs h')
  have HRe := Lib.hid (fun w' (hb : Below w.heap.size w w') => rResidues_any n v _ w' (h.below hb (Nat.le_refl _)))
  rw [res_mk hs] at HRe
  have HSm2 := Lib.hid (fun v' w' (h' : Nats w' v' (sortN ml)) => Sums_any n v' _ w' hm h')
  rw [hsame] at HSm2
  rw [hq] at HSm
  have hml_len : ml.length = l.length := by rw [hml, List.length_map]
  have hlen := hs.len
  have HSort := Lib.hid (fun v' w' (ho : w'.ownsRow w.heap.size 3 1 v' ml.length (ints (nats ml))) (hB : w.heap.size ≤ w'.heap.size) => sortA_any w.heap.size v' ml w' (by omega) (fun x hx => by
      rw [hml] at hx
      obtain ⟨y, _, rfl⟩ := List.mem_map.1 hx
      have := Nat.mod_lt (y + t) (show 0 < n by omega)
      omega) ho hB)
  have HTk' : Hid (ml.take l.length = ml) := Lib.hid (List.take_of_length_le (by omega))
  have HSn := Lib.hid (fun k (hk : k < l.length) => show ml.take (k + 1) = ml.take k ++ [(l.getD k 0 + t) % n] by rw [hml]; exact mdl_snoc hk)
  have HRm := Lib.hid (fun z : Nat => show ((z:Int) + (t:Int)).tmod (n:Int) = (((z + t) % n : Nat) : Int) by rfl)
  have HBd := Lib.hid hs.bd
  have hbd := sums_bound hs.up hs.bd hq
  have hk2 : (l.length : Int) * ((l.length : Int) - 1) ≤ (n:Int) - 1 := by
    rcases Nat.eq_zero_or_pos l.length with e | e
    · rw [e]; simp; omega
    · have : ((l.length * (l.length - 1) : Nat) : Int) = (l.length : Int) * ((l.length : Int) - 1) := by rw [Int.natCast_mul]; congr 1; omega
      omega
  have hk3 : 0 ≤ (l.length : Int) * ((l.length : Int) - 1) := by
    rcases Nat.eq_zero_or_pos l.length with e | e
    · rw [e]; simp
    · exact Int.mul_nonneg (by omega) (by omega)
  clear hbd
  have HMo := Lib.hid (fun w => Most_any n w hlo hn)
  have hbs : Res n (mostN n) := ⟨hlo, hhi, mostN_up n, mostN_bd n⟩
  have HSm3 := Lib.hid (fun v' w' (h' : Nats w' v' (mostN n)) => Sums_any n v' _ w' hbs h')
  rw [mostN_sums n] at HSm3
  have HBb := Lib.hid hbs.bd
  have hbl := hbs.len
  have hbd2 := mostN_bound n
  have hm2 : ((mostN n).length : Int) * (((mostN n).length : Int) - 1) ≤ (n:Int) - 1 := by
    rcases Nat.eq_zero_or_pos (mostN n).length with e | e
    · rw [e]; simp; omega
    · have : (((mostN n).length * ((mostN n).length - 1) : Nat) : Int) = ((mostN n).length : Int) * (((mostN n).length : Int) - 1) := by rw [Int.natCast_mul]; congr 1; omega
      omega
  have hm3 : 0 ≤ ((mostN n).length : Int) * (((mostN n).length : Int) - 1) := by
    rcases Nat.eq_zero_or_pos (mostN n).length with e | e
    · rw [e]; simp
    · exact Int.mul_nonneg (by omega) (by omega)
  clear hbd2 hbs
  have HCo := Lib.hid (fun v' w' (h' : Nats w' v' (mostN n)) (hb : Below w.heap.size w w') => compare_any v' v (mostN n) l w' h' (h.below hb (Nat.le_refl _)) hk.symm (mostN_first hs.up hs.bd hq hk))
  have hk5 : l.length ≤ (mostN n).length := by omega
  have hk6 : (mostN n).length ≤ l.length := by omega
  clear hk
  generalize mostN n = bs at *
  obtain ⟨ao, cap, rfl, h1, h2, hxx⟩ := h.open
  have HX := Lib.hid hxx
  obtain ⟨i0, hi, hz0, hz1, hz2⟩ := info_parts Try.info3
  clear h hs hm hxx hsame hml hq hml_len
  have HB0 := Lib.hid (Below.refl w.heap.size w)
  go_enter Try.func12, Try.ntmps12
  go_wp2_with fail
  refine (HL.out w HB0.out).mono ?_
  rintro e w1 ⟨v1, rfl, hv1, hb1⟩
  have HB1 := Lib.hid (HB0.out.trans (hb1.mono HB0.out.size))
  have A_1 := Lib.hid (hv1)
  clear hb1 hv1
  go_wp2_with fail
  refine (HSm.out v1 w1 A_1.out).mono ?_
  rintro e w2 ⟨rfl, hb2⟩
  have HB2 := Lib.hid (HB1.out.trans (hb2.mono HB1.out.size))
  have A_2 := Lib.hid (A_1.out.below hb2 (Nat.le_refl _))
  clear hb2
  clear A_2
  go_wp2_with fail
  refine (HRe.out w2 HB2.out).mono ?_
  rintro e w' ⟨rfl, rfl⟩
  go_wp2_with fail
  go_loopw [10, 59] (fun s i wr => ∃ k : Nat, k ≤ l.length ∧ i = .int .i64 k ∧ wr.ownsRow w.heap.size 3 1 s (ml.take k).length (ints (nats (ml.take k))) ∧ Below w.heap.size w wr) (fun _ i _ => l.length - (intOf i).toNat)
  case atStart => exact ⟨0, Nat.zero_le _, rfl, World.ownsRow_nil _ _ _ _, HB2.out⟩
  case round =>
    clear HB2
    obtain ⟨k, hk, rfl, hO, hb⟩ := hrel
    have HO := Lib.hid hO
    have HB := Lib.hid hb
    obtain ⟨ao', c', rfl⟩ := owns_form hO
    clear hO hb
    by_cases hlt : k < l.length
    · obtain ⟨b, o, rfl, hck⟩ := HX.out k hlt
      have hck' := ck hck HB.out
      have hz := HBd.out _ (natD_mem hlt)
      have HS := Lib.hid (HSn.out k hlt)
      have hr := HRm.out (l.getD k 0)
      have hll : (ml.take k).length ≤ 100 := by rw [List.length_take]; omega
      clear hck
      generalize l.getD k 0 = z at *
      generalize (z + t) % n = r at *
      generalize ml.take k = tp at *
      go_wp2_with (at_builtin; refine wpList_append_own _ rfl _ _ 22 rfl w.heap.size 3 i0 (.int .i64 0) 1 8 Try.underlying22 hi hz0 hz1 hz2 rfl (by decide) _ _ _ rfl (HO.out.alloc _) ⟨wr.heap.size, 0, none⟩ 1 1 [.int .i64 (r:Int)] rfl rfl (newOne _ _ _) (oneInt _) (by unfold maxLen; omega) (by omega) (by have := HB.out.size; simp; omega) ?_)
      intro v' w2 hown' hgrow _
      have HR := Lib.hid (nat_step HO.out HB.out HB.out.size hown' hgrow)
      clear hown' hgrow
      go_wp2
      go_roundw
      case rel => exact ⟨k + 1, by omega, vint (by omega), by rw [HS.out]; exact HR.out.1, HR.out.2⟩
      case measure => simp [intOf]; omega
    · obtain rfl : k = l.length := by omega
      have HSo := Lib.hid (HSort.out (.slice ao' (ml.take l.length).length c') wr (by have h := HO.out; rw [HTk'.out] at h ⊢; exact h) HB.out.size)
      generalize (ml.take l.length).length = len at *
      clear HO
      go_wp2_with fail
      refine HSo.out.mono ?_
      rintro e w8 ⟨rfl, hn8, hb8⟩
      have HB8 := Lib.hid (HB.out.trans hb8)
      have HN8 := Lib.hid hn8
      clear hb8 hn8 HSo HB
      go_wp2_with fail
      refine (HSm2.out _ w8 HN8.out).mono ?_
      rintro e w9 ⟨rfl, hb9⟩
      have HB9 := Lib.hid (HB8.out.trans (hb9.mono HB8.out.size))
      clear hb9 HN8 HB8
      go_wp2_with fail
      refine (HMo.out w9).mono ?_
      rintro e w10 ⟨v10, rfl, hn10, hb10⟩
      have HB10 := Lib.hid (HB9.out.trans (hb10.mono HB9.out.size))
      have HN10 := Lib.hid hn10
      have HCl := Lib.hid (clone1_any v10 _ w10 hn10)
      have HNf : Hid (∃ a c, v10 = .slice a bs.length c) := Lib.hid (by obtain ⟨a, c, e, _⟩ := Nats.open hn10; exact ⟨a, c, e⟩)
      obtain ⟨a10, c10, rfl⟩ := HNf.out
      clear hb10 hn10 HNf
      go_wp2_with fail
      refine HCl.out.mono ?_
      rintro e w11 ⟨a11, c11, rfl, ho11, hb11⟩
      have HB11 := Lib.hid (HB10.out.trans (hb11.mono HB10.out.size))
      have HN11 : Hid (Nats w11 (.slice a11 bs.length c11) bs) := Lib.hid (by
        have e := nats_length bs
        rw [e] at ho11
        exact Nats.of_owns ho11 (by omega) fun x hx => by have := HBb.out x hx; omega)
      have HN11' := Lib.hid (HN10.out.below hb11 (Nat.le_refl _))
      rw [nats_length bs]
      clear ho11 hb11 HCl HN10
      go_wp2_with fail
      refine (HSm3.out _ w11 HN11.out).mono ?_
      rintro e w12 ⟨rfl, hb12⟩
      have HB12 := Lib.hid (HB11.out.trans (hb12.mono HB11.out.size))
      have HN12 := Lib.hid (HN11'.out.below hb12 (Nat.le_refl _))
      clear hb12 HN11 HN11'
      go_wp2_with fail
      refine (HCo.out _ w12 HN12.out HB12.out).mono ?_
      rintro e w' ⟨hc, rfl⟩
      rcases hc with rfl | rfl
      · go_wp2_with fail
        refine (HAw.out w12).mono ?_
        rintro e w13 ⟨rfl, hb13⟩
        have HB13 := Lib.hid (HB12.out.trans (hb13.mono HB12.out.size))
        clear hb13
        go_wp2
        go_ret
        exact ⟨rfl, HB13.out⟩
      · go_wp2_with fail
        refine (HAw.out w12).mono ?_
        rintro e w13 ⟨rfl, hb13⟩
        have HB13 := Lib.hid (HB12.out.trans (hb13.mono HB12.out.size))
        clear hb13
        go_wp2
        go_ret
        exact ⟨rfl, HB13.out⟩

set_option maxHeartbeats 1600000 in
set_option maxRecDepth 100000 in
theorem different_nearF (n : Nat) (v : Value) (l : List Nat) (by_ : Int) (w : World) (h : Nats w v l) (hs : Res n l) (hq : sumsB n l = false) (hn : n ≤ 25) :
    Calls Try.prog 12 #[.int .i64 n, v, .int .i64 by_] w fun e w' => e = .returned (.bool true) ∧ Below w.heap.size w w' := by
  obtain ⟨U, hU, hU2⟩ : ∃ U : Nat, IntKind.u64.wrap by_ = (U : Int) ∧ U < 18446744073709551616 := ⟨(IntKind.u64.wrap by_).toNat, by rw [IntKind.wrap_u64]; omega, by rw [IntKind.wrap_u64]; omega⟩
  obtain ⟨t, ht⟩ : ∃ t, t = U % n := ⟨_, rfl⟩
  have hlo := hs.lo
  have hhi := hs.hi
  have ht_lt : t < n := by rw [ht]; exact Nat.mod_lt _ (by omega)
  have d3 : (U:Int).tmod (n:Int) = (t:Int) := by rw [ht]; rfl
  have d4 : (U:Int) % (n:Int) = (t:Int) := by rw [ht]; rfl
  have dn : IntKind.u64.wrap (n:Int) = (n:Int) := by rw [IntKind.wrap_u64]; omega
  have hn0 : ((n:Int) == 0) = false := beq_eq_false_iff_ne.2 (by omega)
  have hn1 : ¬ n = 0 := by omega
  have hn2 : ¬ (n:Int) = 0 := by omega
  clear ht
  obtain ⟨ml, hml⟩ : ∃ ml, ml = l.map fun x => (x + t) % n := ⟨_, rfl⟩
  have hm : Res n (sortN ml) := by
    rw [hml]
    exact ⟨hlo, hhi, shift_up hs.up hs.bd ht_lt, fun x hx => by
      obtain ⟨y, _, rfl⟩ := List.mem_map.1 (sortN_mem.1 hx)
      exact Nat.mod_lt _ (by omega)⟩
  have hsame : sumsB n (sortN ml) = false := by rw [hml, shift_same hs.up hs.bd ht_lt, hq]
  have HL := Lib.hid (fun w' (hb : Below w.heap.size w w') => list_any v _ w' (h.below hb (Nat.le_refl _)))
  rw [nats_take90 (by have := hs.len; omega)] at HL
  have HAw := Lib.hid (fun w => awake_any w)
  have HSm := Lib.hid (fun v' w' (h' : Nats w' v' l) => Sums_any n v' l w' hs h')
  have HRe := Lib.hid (fun w' (hb : Below w.heap.size w w') => rResidues_any n v _ w' (h.below hb (Nat.le_refl _)))
  rw [res_mk hs] at HRe
  have HSm2 := Lib.hid (fun v' w' (h' : Nats w' v' (sortN ml)) => Sums_any n v' _ w' hm h')
  rw [hsame] at HSm2
  rw [hq] at HSm
  have hml_len : ml.length = l.length := by rw [hml, List.length_map]
  have hlen := hs.len
  have HSort := Lib.hid (fun v' w' (ho : w'.ownsRow w.heap.size 3 1 v' ml.length (ints (nats ml))) (hB : w.heap.size ≤ w'.heap.size) => sortA_any w.heap.size v' ml w' (by omega) (fun x hx => by
      rw [hml] at hx
      obtain ⟨y, _, rfl⟩ := List.mem_map.1 hx
      have := Nat.mod_lt (y + t) (show 0 < n by omega)
      omega) ho hB)
  have HTk' : Hid (ml.take l.length = ml) := Lib.hid (List.take_of_length_le (by omega))
  have HSn := Lib.hid (fun k (hk : k < l.length) => show ml.take (k + 1) = ml.take k ++ [(l.getD k 0 + t) % n] by rw [hml]; exact mdl_snoc hk)
  have HRm := Lib.hid (fun z : Nat => show ((z:Int) + (t:Int)).tmod (n:Int) = (((z + t) % n : Nat) : Int) by rfl)
  have HBd := Lib.hid hs.bd
  have HMo := Lib.hid (fun w => Most_any n w hlo hn)
  have hbs : Res n (mostN n) := ⟨hlo, hhi, mostN_up n, mostN_bd n⟩
  have HSm3 := Lib.hid (fun v' w' (h' : Nats w' v' (mostN n)) => Sums_any n v' _ w' hbs h')
  rw [mostN_sums n] at HSm3
  have HBb := Lib.hid hbs.bd
  have hbl := hbs.len
  have hbd2 := mostN_bound n
  have hm2 : ((mostN n).length : Int) * (((mostN n).length : Int) - 1) ≤ (n:Int) - 1 := by
    rcases Nat.eq_zero_or_pos (mostN n).length with e | e
    · rw [e]; simp; omega
    · have : (((mostN n).length * ((mostN n).length - 1) : Nat) : Int) = ((mostN n).length : Int) * (((mostN n).length : Int) - 1) := by rw [Int.natCast_mul]; congr 1; omega
      omega
  have hm3 : 0 ≤ ((mostN n).length : Int) * (((mostN n).length : Int) - 1) := by
    rcases Nat.eq_zero_or_pos (mostN n).length with e | e
    · rw [e]; simp
    · exact Int.mul_nonneg (by omega) (by omega)
  clear hbd2 hbs
  generalize mostN n = bs at *
  obtain ⟨ao, cap, rfl, h1, h2, hxx⟩ := h.open
  have HX := Lib.hid hxx
  obtain ⟨i0, hi, hz0, hz1, hz2⟩ := info_parts Try.info3
  clear h hs hm hxx hsame hml hq hml_len
  have HB0 := Lib.hid (Below.refl w.heap.size w)
  go_enter Try.func12, Try.ntmps12
  go_wp2_with fail
  refine (HL.out w HB0.out).mono ?_
  rintro e w1 ⟨v1, rfl, hv1, hb1⟩
  have HB1 := Lib.hid (HB0.out.trans (hb1.mono HB0.out.size))
  have A_1 := Lib.hid (hv1)
  clear hb1 hv1
  go_wp2_with fail
  refine (HSm.out v1 w1 A_1.out).mono ?_
  rintro e w2 ⟨rfl, hb2⟩
  have HB2 := Lib.hid (HB1.out.trans (hb2.mono HB1.out.size))
  have A_2 := Lib.hid (A_1.out.below hb2 (Nat.le_refl _))
  clear hb2
  clear A_2
  go_wp2_with fail
  refine (HRe.out w2 HB2.out).mono ?_
  rintro e w' ⟨rfl, rfl⟩
  go_wp2_with fail
  go_loopw [10, 59] (fun s i wr => ∃ k : Nat, k ≤ l.length ∧ i = .int .i64 k ∧ wr.ownsRow w.heap.size 3 1 s (ml.take k).length (ints (nats (ml.take k))) ∧ Below w.heap.size w wr) (fun _ i _ => l.length - (intOf i).toNat)
  case atStart => exact ⟨0, Nat.zero_le _, rfl, World.ownsRow_nil _ _ _ _, HB2.out⟩
  case round =>
    clear HB2
    obtain ⟨k, hk, rfl, hO, hb⟩ := hrel
    have HO := Lib.hid hO
    have HB := Lib.hid hb
    obtain ⟨ao', c', rfl⟩ := owns_form hO
    clear hO hb
    by_cases hlt : k < l.length
    · obtain ⟨b, o, rfl, hck⟩ := HX.out k hlt
      have hck' := ck hck HB.out
      have hz := HBd.out _ (natD_mem hlt)
      have HS := Lib.hid (HSn.out k hlt)
      have hr := HRm.out (l.getD k 0)
      have hll : (ml.take k).length ≤ 100 := by rw [List.length_take]; omega
      clear hck
      generalize l.getD k 0 = z at *
      generalize (z + t) % n = r at *
      generalize ml.take k = tp at *
      go_wp2_with (at_builtin; refine wpList_append_own _ rfl _ _ 22 rfl w.heap.size 3 i0 (.int .i64 0) 1 8 Try.underlying22 hi hz0 hz1 hz2 rfl (by decide) _ _ _ rfl (HO.out.alloc _) ⟨wr.heap.size, 0, none⟩ 1 1 [.int .i64 (r:Int)] rfl rfl (newOne _ _ _) (oneInt _) (by unfold maxLen; omega) (by omega) (by have := HB.out.size; simp; omega) ?_)
      intro v' w2 hown' hgrow _
      have HR := Lib.hid (nat_step HO.out HB.out HB.out.size hown' hgrow)
      clear hown' hgrow
      go_wp2
      go_roundw
      case rel => exact ⟨k + 1, by omega, vint (by omega), by rw [HS.out]; exact HR.out.1, HR.out.2⟩
      case measure => simp [intOf]; omega
    · obtain rfl : k = l.length := by omega
      have HSo := Lib.hid (HSort.out (.slice ao' (ml.take l.length).length c') wr (by have h := HO.out; rw [HTk'.out] at h ⊢; exact h) HB.out.size)
      generalize (ml.take l.length).length = len at *
      clear HO
      go_wp2_with fail
      refine HSo.out.mono ?_
      rintro e w8 ⟨rfl, hn8, hb8⟩
      have HB8 := Lib.hid (HB.out.trans hb8)
      have HN8 := Lib.hid hn8
      clear hb8 hn8 HSo HB
      go_wp2_with fail
      refine (HSm2.out _ w8 HN8.out).mono ?_
      rintro e w9 ⟨rfl, hb9⟩
      have HB9 := Lib.hid (HB8.out.trans (hb9.mono HB8.out.size))
      clear hb9 HN8 HB8
      go_wp2_with fail
      refine (HMo.out w9).mono ?_
      rintro e w10 ⟨v10, rfl, hn10, hb10⟩
      have HB10 := Lib.hid (HB9.out.trans (hb10.mono HB9.out.size))
      have HN10 := Lib.hid hn10
      have HCl := Lib.hid (clone1_any v10 _ w10 hn10)
      have HNf : Hid (∃ a c, v10 = .slice a bs.length c) := Lib.hid (by obtain ⟨a, c, e, _⟩ := Nats.open hn10; exact ⟨a, c, e⟩)
      obtain ⟨a10, c10, rfl⟩ := HNf.out
      clear hb10 hn10 HNf
      go_wp2_with fail
      refine HCl.out.mono ?_
      rintro e w11 ⟨a11, c11, rfl, ho11, hb11⟩
      have HB11 := Lib.hid (HB10.out.trans (hb11.mono HB10.out.size))
      have HN11 : Hid (Nats w11 (.slice a11 bs.length c11) bs) := Lib.hid (by
        have e := nats_length bs
        rw [e] at ho11
        exact Nats.of_owns ho11 (by omega) fun x hx => by have := HBb.out x hx; omega)
      have HN11' := Lib.hid (HN10.out.below hb11 (Nat.le_refl _))
      rw [nats_length bs]
      clear ho11 hb11 HCl HN10
      go_wp2_with fail
      refine (HSm3.out _ w11 HN11.out).mono ?_
      rintro e w12 ⟨rfl, hb12⟩
      have HB12 := Lib.hid (HB11.out.trans (hb12.mono HB11.out.size))
      have HN12 := Lib.hid (HN11'.out.below hb12 (Nat.le_refl _))
      clear hb12 HN11 HN11'
      go_wp2_with fail
      refine (HAw.out w12).mono ?_
      rintro e w13 ⟨rfl, hb13⟩
      have HB13 := Lib.hid (HB12.out.trans (hb13.mono HB12.out.size))
      clear hb13
      go_wp2
      go_ret
      exact ⟨rfl, HB13.out⟩

theorem capsDifferent_law (n : Int) (v : Value) (xs : List Int) (by_ : Int) (w : World) (h : Ints w v xs) :
    Calls Try.prog 12 #[.int .i64 n, v, .int .i64 by_] w fun e w' => e = .returned (.bool true) ∧ Below w.heap.size w w' := by
  cases hst : resB n xs with
  | false => exact different_bad n v xs by_ w h hst
  | true =>
    obtain ⟨m, l, rfl, rfl, hs⟩ := res_nats hst
    cases hq : sumsB m l with
    | false =>
      by_cases c : m ≤ 25
      · exact different_nearF m v l by_ w h hs hq c
      · exact different_farF m v l by_ w h hs hq (by omega)
    | true =>
      by_cases c : m ≤ 25
      · have := mostN_most hs.up hs.bd hq
        rcases Nat.lt_or_eq_of_le this with g | g
        · exact different_less m v l by_ w h hs hq c g
        · exact different_same m v l by_ w h hs hq c g
      · exact different_far m v l by_ w h hs hq (by omega)
end Go.Proofs.Ytlalfjkenkmojaa
