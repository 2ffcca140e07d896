/- CapsBounds: the walk in dimension 4 -/
import Derived.Test.YtlalfjkenkmojaaBd
namespace Go.Proofs.Ytlalfjkenkmojaa
open Go.RowKit

set_option maxHeartbeats 2000000 in
set_option maxRecDepth 100000 in
theorem bounds4_no (v : Value) (l : List Nat) (x : Int) (w : World) (h : Nats w v l) (hk : Deck 4 l)  (hc : capB 4 l = false) :
    Calls Try.prog 11 #[.int .i64 4, v, .int .i64 x] w fun e w' => e = .returned (.bool true) ∧ Below w.heap.size w w' := by
  have hlen := hk.len (by omega)
  have HL := Lib.hid (fun w' (hb : Below w.heap.size w w') => list_any v _ w' (h.below hb (Nat.le_refl _)))
  rw [nats_take90 (by omega)] at HL
  have HAw := Lib.hid (fun w => awake_any w)
  have HCp := Lib.hid (fun v' w' (h' : Nats w' v' l) => Cap_any 4 v' l w' (by omega) (by omega) hk h')
  rw [hc] at HCp
  have HRe := Lib.hid (fun w' (hb : Below w.heap.size w w') => rCards_any 4 v _ w' (h.below hb (Nat.le_refl _)))
  rw [show deckB 4 (nats l) = true from deck_mk (d := 4) (by omega) (by omega) hk] at HRe
  have HGr := Lib.hid (fun w => Greatest_bad 4 w (by omega))
  have HFr := Lib.hid (fun v' w' (h' : Nats w' v' l) => Free_no 4 v' l w' (by omega) (by omega) hk h' hc)
  have hIx := fun w => (show (Instr.index 56 (.agg #[.int .i64 0, .int .i64 2, .int .i64 4, .int .i64 9, .int .i64 20]) (.int .i64 4)).run Try.prog w = .ok (.int .i64 20) w by kernel_rfl)
  obtain ⟨ao, cap, rfl, h1, h2, hxx⟩ := h.open
  clear h hk hxx hc 
  have HB0 := Lib.hid (Below.refl w.heap.size w)
  go_enter Try.func11, Try.ntmps11
  go_wp2_with fail
  refine (HL.out w HB0.out).mono ?_
  rintro e w1 ⟨v1, rfl, hv1, hb1⟩
  have HB1 := Lib.hid (HB0.out.trans (hb1.mono HB0.out.size))
  have A_1 := Lib.hid (hv1)
  clear hb1 hv1
  go_wp2_with fail
  refine (HCp.out v1 w1 A_1.out).mono ?_
  rintro e w2 ⟨rfl, hb2⟩
  have HB2 := Lib.hid (HB1.out.trans (hb2.mono HB1.out.size))
  have A_2 := Lib.hid (A_1.out.below hb2 (Nat.le_refl _))
  clear hb2
  clear A_2
  go_wp2_with fail
  refine (HRe.out w2 HB2.out).mono ?_
  rintro e w' ⟨rfl, rfl⟩
  go_wp2_with fail
  refine (HGr.out w2).mono ?_
  rintro e w3 ⟨rfl, hb3⟩
  have HB3 := Lib.hid (HB2.out.trans (hb3.mono HB2.out.size))
  clear hb3
  go_wp2_with fail
  refine (HL.out w3 HB3.out).mono ?_
  rintro e w4 ⟨v4, rfl, hv4, hb4⟩
  have HB4 := Lib.hid (HB3.out.trans (hb4.mono HB3.out.size))
  have A_4 := Lib.hid (hv4)
  clear hb4 hv4
  go_wp2_with fail
  refine (HFr.out v4 w4 A_4.out).mono ?_
  rintro e w5 ⟨rfl, hb5⟩
  have HB5 := Lib.hid (HB4.out.trans (hb5.mono HB4.out.size))
  have A_5 := Lib.hid (A_4.out.below hb5 (Nat.le_refl _))
  clear hb5
  clear A_5
  go_wp2_with fail
  refine (HAw.out w5).mono ?_
  rintro e w6 ⟨rfl, hb6⟩
  have HB6 := Lib.hid (HB5.out.trans (hb6.mono HB5.out.size))
  clear hb6
  go_wp2
  go_ret
  exact ⟨rfl, HB6.out⟩

set_option maxHeartbeats 2000000 in
set_option maxRecDepth 100000 in
theorem bounds4_in (v : Value) (l : List Nat) (x : Int) (w : World) (h : Nats w v l) (hk : Deck 4 l) (U q : Nat) (hU : IntKind.u64.wrap x = (U : Int)) (hq : q = U % 81) (hc : capB 4 l = true) (hx : q ∈ l) :
    Calls Try.prog 11 #[.int .i64 4, v, .int .i64 x] w fun e w' => e = .returned (.bool true) ∧ Below w.heap.size w w' := by
  have hq_lt : q < 81 := by omega
  have d3 : (U:Int).tmod 81 = (q:Int) := by rw [hq]; rfl
  have d4 : (U:Int) % 81 = (q:Int) := by rw [hq]; rfl
  have hlen := hk.len (by omega)
  have HL := Lib.hid (fun w' (hb : Below w.heap.size w w') => list_any v _ w' (h.below hb (Nat.le_refl _)))
  rw [nats_take90 (by omega)] at HL
  have HAw := Lib.hid (fun w => awake_any w)
  have HCp := Lib.hid (fun v' w' (h' : Nats w' v' l) => Cap_any 4 v' l w' (by omega) (by omega) hk h')
  rw [hc] at HCp
  have HRe := Lib.hid (fun w' (hb : Below w.heap.size w w') => rCards_any 4 v _ w' (h.below hb (Nat.le_refl _)))
  rw [show deckB 4 (nats l) = true from deck_mk (d := 4) (by omega) (by omega) hk] at HRe
  have HGr := Lib.hid (fun w => Greatest_bad 4 w (by omega))
  have hmost : l.length ≤ 20 := cap_most (d := 4) (by omega) (by omega) ((keeps_capS hk).1 hc)
  have HFr := Lib.hid (fun v' w' (h' : Nats w' v' l) => Free_any 4 v' l w' (by omega) (by omega) hk h' hc)
  have HSz := Lib.hid (fun w => rSize_any 4 w)
  rw [show sizeI 4 = 81 from rfl] at HSz
  have HCo := Lib.hid (fun w' (hb : Below w.heap.size w w') => containsN_any v l q w' (h.below hb (Nat.le_refl _)))
  have HCf := Lib.hid (fun v' w' (h' : Nats w' v' (freeL 4 l)) => containsN_any v' (freeL 4 l) q w' h')
  rw [show l.contains q = true by rw [List.contains_eq_mem]; exact decide_eq_true hx] at HCo
  rw [free_in (d := 4) hq_lt hx] at HCf
  generalize freeL 4 l = fs at *
  have hIx := fun w => (show (Instr.index 56 (.agg #[.int .i64 0, .int .i64 2, .int .i64 4, .int .i64 9, .int .i64 20]) (.int .i64 4)).run Try.prog w = .ok (.int .i64 20) w by kernel_rfl)
  obtain ⟨ao, cap, rfl, h1, h2, hxx⟩ := h.open
  clear h hk hxx hc hq hx
  have HB0 := Lib.hid (Below.refl w.heap.size w)
  go_enter Try.func11, Try.ntmps11
  go_wp2_with fail
  refine (HL.out w HB0.out).mono ?_
  rintro e w1 ⟨v1, rfl, hv1, hb1⟩
  have HB1 := Lib.hid (HB0.out.trans (hb1.mono HB0.out.size))
  have A_1 := Lib.hid (hv1)
  clear hb1 hv1
  go_wp2_with fail
  refine (HCp.out v1 w1 A_1.out).mono ?_
  rintro e w2 ⟨rfl, hb2⟩
  have HB2 := Lib.hid (HB1.out.trans (hb2.mono HB1.out.size))
  have A_2 := Lib.hid (A_1.out.below hb2 (Nat.le_refl _))
  clear hb2
  clear A_2
  go_wp2_with fail
  refine (HRe.out w2 HB2.out).mono ?_
  rintro e w' ⟨rfl, rfl⟩
  go_wp2_with fail
  refine (HGr.out w2).mono ?_
  rintro e w3 ⟨rfl, hb3⟩
  have HB3 := Lib.hid (HB2.out.trans (hb3.mono HB2.out.size))
  clear hb3
  go_wp2_with fail
  refine (HL.out w3 HB3.out).mono ?_
  rintro e w4 ⟨v4, rfl, hv4, hb4⟩
  have HB4 := Lib.hid (HB3.out.trans (hb4.mono HB3.out.size))
  have A_4 := Lib.hid (hv4)
  clear hb4 hv4
  go_wp2_with fail
  refine (HFr.out v4 w4 A_4.out).mono ?_
  rintro e w5 ⟨v5, rfl, hv5, hb5⟩
  have HB5 := Lib.hid (HB4.out.trans (hb5.mono HB4.out.size))
  have A_5 := Lib.hid (A_4.out.below hb5 (Nat.le_refl _))
  have F_5 := Lib.hid (hv5)
  clear hb5 hv5
  clear A_5
  go_wp2_with fail
  refine (HSz.out w5).mono ?_
  rintro e w' ⟨rfl, rfl⟩
  go_wp2_with fail
  refine (HCo.out w5 HB5.out).mono ?_
  rintro e w' ⟨rfl, rfl⟩
  go_wp2_with fail
  refine (HCf.out v5 w5 F_5.out).mono ?_
  rintro e w' ⟨rfl, rfl⟩
  clear F_5
  go_wp2_with fail
  refine (HAw.out w5).mono ?_
  rintro e w6 ⟨rfl, hb6⟩
  have HB6 := Lib.hid (HB5.out.trans (hb6.mono HB5.out.size))
  clear hb6
  go_wp2
  go_ret
  exact ⟨rfl, HB6.out⟩

set_option maxHeartbeats 2000000 in
set_option maxRecDepth 100000 in
theorem bounds4_out (v : Value) (l : List Nat) (x : Int) (w : World) (h : Nats w v l) (hk : Deck 4 l) (U q : Nat) (hU : IntKind.u64.wrap x = (U : Int)) (hq : q = U % 81) (hc : capB 4 l = true) (hx : q ∉ l) :
    Calls Try.prog 11 #[.int .i64 4, v, .int .i64 x] w fun e w' => e = .returned (.bool true) ∧ Below w.heap.size w w' := by
  have hq_lt : q < 81 := by omega
  have d3 : (U:Int).tmod 81 = (q:Int) := by rw [hq]; rfl
  have d4 : (U:Int) % 81 = (q:Int) := by rw [hq]; rfl
  have hlen := hk.len (by omega)
  have HL := Lib.hid (fun w' (hb : Below w.heap.size w w') => list_any v _ w' (h.below hb (Nat.le_refl _)))
  rw [nats_take90 (by omega)] at HL
  have HAw := Lib.hid (fun w => awake_any w)
  have HCp := Lib.hid (fun v' w' (h' : Nats w' v' l) => Cap_any 4 v' l w' (by omega) (by omega) hk h')
  rw [hc] at HCp
  have HRe := Lib.hid (fun w' (hb : Below w.heap.size w w') => rCards_any 4 v _ w' (h.below hb (Nat.le_refl _)))
  rw [show deckB 4 (nats l) = true from deck_mk (d := 4) (by omega) (by omega) hk] at HRe
  have HGr := Lib.hid (fun w => Greatest_bad 4 w (by omega))
  have hmost : l.length ≤ 20 := cap_most (d := 4) (by omega) (by omega) ((keeps_capS hk).1 hc)
  have HFr := Lib.hid (fun v' w' (h' : Nats w' v' l) => Free_any 4 v' l w' (by omega) (by omega) hk h' hc)
  have HSz := Lib.hid (fun w => rSize_any 4 w)
  rw [show sizeI 4 = 81 from rfl] at HSz
  have HCo := Lib.hid (fun w' (hb : Below w.heap.size w w') => containsN_any v l q w' (h.below hb (Nat.le_refl _)))
  have HCf := Lib.hid (fun v' w' (h' : Nats w' v' (freeL 4 l)) => containsN_any v' (freeL 4 l) q w' h')
  rw [show l.contains q = false by rw [List.contains_eq_mem]; exact decide_eq_false hx] at HCo
  rw [free_out (d := 4) hq_lt] at HCf
  have HLo := Lib.hid (fun w' (hb : Below w.heap.size w w') => list_own v l w' (h.below hb (Nat.le_refl _)) (by omega))
  have HSo := Lib.hid (fun base v' w' (ho : w'.ownsRow base 3 1 v' (l ++ [q]).length (ints (nats (l ++ [q])))) (hB : base ≤ w'.heap.size) => sortA_any base v' (l ++ [q]) w' (by simp; omega) (fun y hy => by
    rcases List.mem_append.1 hy with hy | hy
    · have := hk.bd (by omega) y hy; omega
    · simp at hy; omega) ho hB)
  have HCm := Lib.hid (fun v' w' (h' : Nats w' v' (sortN (l ++ [q]))) => Cap_any 4 v' _ w' (by omega) (by omega) (more_deck hk hq_lt hx) h')
  rw [more_cap hk hq_lt hx hc] at HCm
  generalize mayB 4 l q = r at *
  generalize freeL 4 l = fs at *
  have hIx := fun w => (show (Instr.index 56 (.agg #[.int .i64 0, .int .i64 2, .int .i64 4, .int .i64 9, .int .i64 20]) (.int .i64 4)).run Try.prog w = .ok (.int .i64 20) w by kernel_rfl)
  obtain ⟨ao, cap, rfl, h1, h2, hxx⟩ := h.open
  clear h hk hxx hc hq hx
  have HB0 := Lib.hid (Below.refl w.heap.size w)
  go_enter Try.func11, Try.ntmps11
  go_wp2_with fail
  refine (HL.out w HB0.out).mono ?_
  rintro e w1 ⟨v1, rfl, hv1, hb1⟩
  have HB1 := Lib.hid (HB0.out.trans (hb1.mono HB0.out.size))
  have A_1 := Lib.hid (hv1)
  clear hb1 hv1
  go_wp2_with fail
  refine (HCp.out v1 w1 A_1.out).mono ?_
  rintro e w2 ⟨rfl, hb2⟩
  have HB2 := Lib.hid (HB1.out.trans (hb2.mono HB1.out.size))
  have A_2 := Lib.hid (A_1.out.below hb2 (Nat.le_refl _))
  clear hb2
  clear A_2
  go_wp2_with fail
  refine (HRe.out w2 HB2.out).mono ?_
  rintro e w' ⟨rfl, rfl⟩
  go_wp2_with fail
  refine (HGr.out w2).mono ?_
  rintro e w3 ⟨rfl, hb3⟩
  have HB3 := Lib.hid (HB2.out.trans (hb3.mono HB2.out.size))
  clear hb3
  go_wp2_with fail
  refine (HL.out w3 HB3.out).mono ?_
  rintro e w4 ⟨v4, rfl, hv4, hb4⟩
  have HB4 := Lib.hid (HB3.out.trans (hb4.mono HB3.out.size))
  have A_4 := Lib.hid (hv4)
  clear hb4 hv4
  go_wp2_with fail
  refine (HFr.out v4 w4 A_4.out).mono ?_
  rintro e w5 ⟨v5, rfl, hv5, hb5⟩
  have HB5 := Lib.hid (HB4.out.trans (hb5.mono HB4.out.size))
  have A_5 := Lib.hid (A_4.out.below hb5 (Nat.le_refl _))
  have F_5 := Lib.hid (hv5)
  clear hb5 hv5
  clear A_5
  go_wp2_with fail
  refine (HSz.out w5).mono ?_
  rintro e w' ⟨rfl, rfl⟩
  go_wp2_with fail
  refine (HCo.out w5 HB5.out).mono ?_
  rintro e w' ⟨rfl, rfl⟩
  obtain ⟨i0, hi, hz0, hz1, hz2⟩ := info_parts Try.info3
  go_wp2_with fail
  refine (HLo.out w5 HB5.out).mono ?_
  rintro e wl ⟨al, cl, rfl, hol, hbl⟩
  have HBl := Lib.hid (HB5.out.trans (hbl.mono HB5.out.size))
  have HOl := Lib.hid hol
  have HBl2 := Lib.hid hbl
  clear hol hbl
  go_wp2_with (at_builtin; refine wpList_append_own _ rfl _ _ 22 rfl w5.heap.size 3 i0 (.int .i64 0) 1 8 Try.underlying22 hi hz0 hz1 hz2 rfl (by decide) _ _ _ rfl (HOl.out.alloc _) ⟨wl.heap.size, 0, none⟩ 1 1 [.int .i64 (q:Int)] rfl rfl (newOne _ _ _) (oneInt _) (by unfold maxLen; omega) (by omega) (by have := HBl2.out.size; simp; omega) ?_)
  intro v' w2 hown' hgrow _
  have HR := Lib.hid (nat_step HOl.out HBl2.out HBl2.out.size hown' hgrow)
  clear hown' hgrow
  go_wp2_with fail
  refine (HSo.out w5.heap.size v' w2 HR.out.1 HR.out.2.size).mono ?_
  rintro e w3x ⟨rfl, hn3, hb3⟩
  have HB3x := Lib.hid (HB5.out.trans ((HR.out.2.trans hb3).mono HB5.out.size))
  have F_3 := Lib.hid (F_5.out.below (HR.out.2.trans hb3) (Nat.le_refl _))
  have HN3 := Lib.hid hn3
  clear hn3 hb3 F_5
  go_wp2_with fail
  refine (HCm.out _ w3x HN3.out).mono ?_
  rintro e w4x ⟨rfl, hb4⟩
  have HB4x := Lib.hid (HB3x.out.trans (hb4.mono HB3x.out.size))
  have F_4 := Lib.hid (F_3.out.below hb4 (Nat.le_refl _))
  clear hb4 F_3 HN3
  go_wp2_with fail
  refine (HCf.out v5 w4x F_4.out).mono ?_
  rintro e w' ⟨rfl, rfl⟩
  go_wp2_with fail
  refine (HAw.out w4x).mono ?_
  rintro e w5x ⟨rfl, hb5⟩
  have HB5x := Lib.hid (HB4x.out.trans (hb5.mono HB4x.out.size))
  clear hb5
  go_wp2
  go_ret
  exact ⟨rfl, HB5x.out⟩
end Go.Proofs.Ytlalfjkenkmojaa
