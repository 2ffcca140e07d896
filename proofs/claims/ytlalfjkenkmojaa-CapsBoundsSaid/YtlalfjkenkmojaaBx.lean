/- CapsBounds: the walk in dimension 2 -/
import Derived.Test.YtlalfjkenkmojaaBd
namespace Go.Proofs.Ytlalfjkenkmojaa
open Go.RowKit

set_option maxHeartbeats 2000000 in
set_option maxRecDepth 100000 in
theorem bounds2_no (v : Value) (l : List Nat) (x : Int) (w : World) (h : Nats w v l) (hk : Deck 2 l)  (hc : capB 2 l = false) :
    Calls Try.prog 11 #[.int .i64 2, v, .int .i64 x] w fun e w' => e = .returned (.bool true) ∧ Below w.heap.size w w' := by
  have hlen := hk.len (by omega)
  have HL := Lib.hid (fun w' (hb : Below w.heap.size w w') => list_any v _ w' (h.below hb (Nat.le_refl _)))
  rw [nats_take90 (by omega)] at HL
  have HAw := Lib.hid (fun w => awake_any w)
  have HCp := Lib.hid (fun v' w' (h' : Nats w' v' l) => Cap_any 2 v' l w' (by omega) (by omega) hk h')
  rw [hc] at HCp
  have HRe := Lib.hid (fun w' (hb : Below w.heap.size w w') => rCards_any 2 v _ w' (h.below hb (Nat.le_refl _)))
  rw [show deckB 2 (nats l) = true from deck_mk (d := 2) (by omega) (by omega) hk] at HRe
  have HGr := Lib.hid (fun w => Greatest_any 2 w (by omega) (by omega))
  have hgk : Deck 2 (greatN 2) := ⟨greatN_up 2, greatN_bd 2⟩
  have HCg := Lib.hid (fun v' w' (h' : Nats w' v' (greatN 2)) => Cap_any 2 v' _ w' (by omega) (by omega) hgk h')
  rw [show capB 2 (greatN 2) = true from greatN_cap 2] at HCg
  have hgl : (greatN 2).length = 4 := greatN_len (d := 2) (by omega) (by omega)
  clear hgk
  generalize greatN 2 = bs at *
  have HGl := Lib.hid hgl
  clear hgl
  have HFr := Lib.hid (fun v' w' (h' : Nats w' v' l) => Free_no 2 v' l w' (by omega) (by omega) hk h' hc)
  have hIx := fun w => (show (Instr.index 56 (.agg #[.int .i64 0, .int .i64 2, .int .i64 4, .int .i64 9, .int .i64 20]) (.int .i64 2)).run Try.prog w = .ok (.int .i64 4) w by kernel_rfl)
  obtain ⟨ao, cap, rfl, h1, h2, hxx⟩ := h.open
  clear h hk hxx hc 
  have HB0 := Lib.hid (Below.refl w.heap.size w)
  go_enter Try.func11, Try.ntmps11
  go_wp2_with fail
  refine (HL.out w HB0.out).mono ?_
  rintro e w1 ⟨v1, rfl, hv1, hb1⟩
  have HB1 := Lib.hid (HB0.out.trans (hb1.mono HB0.out.size))
  have A_1 := Lib.hid (hv1)
  clear hb1 hv1
  go_wp2_with fail
  refine (HCp.out v1 w1 A_1.out).mono ?_
  rintro e w2 ⟨rfl, hb2⟩
  have HB2 := Lib.hid (HB1.out.trans (hb2.mono HB1.out.size))
  have A_2 := Lib.hid (A_1.out.below hb2 (Nat.le_refl _))
  clear hb2
  clear A_2
  go_wp2_with fail
  refine (HRe.out w2 HB2.out).mono ?_
  rintro e w' ⟨rfl, rfl⟩
  go_wp2_with fail
  refine (HGr.out w2).mono ?_
  rintro e w3 ⟨v3, rfl, hv3, hb3⟩
  have HB3 := Lib.hid (HB2.out.trans (hb3.mono HB2.out.size))
  have G_3 := Lib.hid (hv3)
  clear hb3 hv3
  obtain ⟨ga, gc, rfl⟩ : ∃ a c, v3 = .slice a bs.length c := by obtain ⟨a, c, e, _⟩ := Nats.open G_3.out; exact ⟨a, c, e⟩
  obtain ⟨gn, hgn⟩ : ∃ gn, gn = bs.length := ⟨_, rfl⟩
  rw [← hgn] at G_3
  rw [← hgn]
  obtain rfl : gn = 4 := hgn.trans HGl.out
  clear hgn HGl
  go_wp2_with fail
  refine (HCg.out _ w3 G_3.out).mono ?_
  rintro e w4 ⟨rfl, hb4⟩
  have HB4 := Lib.hid (HB3.out.trans (hb4.mono HB3.out.size))
  have G_4 := Lib.hid (G_3.out.below hb4 (Nat.le_refl _))
  clear hb4
  clear G_4
  go_wp2_with fail
  refine (HL.out w4 HB4.out).mono ?_
  rintro e w5 ⟨v5, rfl, hv5, hb5⟩
  have HB5 := Lib.hid (HB4.out.trans (hb5.mono HB4.out.size))
  have A_5 := Lib.hid (hv5)
  clear hb5 hv5
  go_wp2_with fail
  refine (HFr.out v5 w5 A_5.out).mono ?_
  rintro e w6 ⟨rfl, hb6⟩
  have HB6 := Lib.hid (HB5.out.trans (hb6.mono HB5.out.size))
  have A_6 := Lib.hid (A_5.out.below hb6 (Nat.le_refl _))
  clear hb6
  clear A_6
  go_wp2_with fail
  refine (HAw.out w6).mono ?_
  rintro e w7 ⟨rfl, hb7⟩
  have HB7 := Lib.hid (HB6.out.trans (hb7.mono HB6.out.size))
  clear hb7
  go_wp2
  go_ret
  exact ⟨rfl, HB7.out⟩

set_option maxHeartbeats 2000000 in
set_option maxRecDepth 100000 in
theorem bounds2_in (v : Value) (l : List Nat) (x : Int) (w : World) (h : Nats w v l) (hk : Deck 2 l) (U q : Nat) (hU : IntKind.u64.wrap x = (U : Int)) (hq : q = U % 9) (hc : capB 2 l = true) (hx : q ∈ l) :
    Calls Try.prog 11 #[.int .i64 2, v, .int .i64 x] w fun e w' => e = .returned (.bool true) ∧ Below w.heap.size w w' := by
  have hq_lt : q < 9 := by omega
  have d3 : (U:Int).tmod 9 = (q:Int) := by rw [hq]; rfl
  have d4 : (U:Int) % 9 = (q:Int) := by rw [hq]; rfl
  have hlen := hk.len (by omega)
  have HL := Lib.hid (fun w' (hb : Below w.heap.size w w') => list_any v _ w' (h.below hb (Nat.le_refl _)))
  rw [nats_take90 (by omega)] at HL
  have HAw := Lib.hid (fun w => awake_any w)
  have HCp := Lib.hid (fun v' w' (h' : Nats w' v' l) => Cap_any 2 v' l w' (by omega) (by omega) hk h')
  rw [hc] at HCp
  have HRe := Lib.hid (fun w' (hb : Below w.heap.size w w') => rCards_any 2 v _ w' (h.below hb (Nat.le_refl _)))
  rw [show deckB 2 (nats l) = true from deck_mk (d := 2) (by omega) (by omega) hk] at HRe
  have HGr := Lib.hid (fun w => Greatest_any 2 w (by omega) (by omega))
  have hgk : Deck 2 (greatN 2) := ⟨greatN_up 2, greatN_bd 2⟩
  have HCg := Lib.hid (fun v' w' (h' : Nats w' v' (greatN 2)) => Cap_any 2 v' _ w' (by omega) (by omega) hgk h')
  rw [show capB 2 (greatN 2) = true from greatN_cap 2] at HCg
  have hgl : (greatN 2).length = 4 := greatN_len (d := 2) (by omega) (by omega)
  clear hgk
  generalize greatN 2 = bs at *
  have HGl := Lib.hid hgl
  clear hgl
  have hmost : l.length ≤ 4 := cap_most (d := 2) (by omega) (by omega) ((keeps_capS hk).1 hc)
  have HFr := Lib.hid (fun v' w' (h' : Nats w' v' l) => Free_any 2 v' l w' (by omega) (by omega) hk h' hc)
  have HSz := Lib.hid (fun w => rSize_any 2 w)
  rw [show sizeI 2 = 9 from rfl] at HSz
  have HCo := Lib.hid (fun w' (hb : Below w.heap.size w w') => containsN_any v l q w' (h.below hb (Nat.le_refl _)))
  have HCf := Lib.hid (fun v' w' (h' : Nats w' v' (freeL 2 l)) => containsN_any v' (freeL 2 l) q w' h')
  rw [show l.contains q = true by rw [List.contains_eq_mem]; exact decide_eq_true hx] at HCo
  rw [free_in (d := 2) hq_lt hx] at HCf
  generalize freeL 2 l = fs at *
  have hIx := fun w => (show (Instr.index 56 (.agg #[.int .i64 0, .int .i64 2, .int .i64 4, .int .i64 9, .int .i64 20]) (.int .i64 2)).run Try.prog w = .ok (.int .i64 4) w by kernel_rfl)
  obtain ⟨ao, cap, rfl, h1, h2, hxx⟩ := h.open
  clear h hk hxx hc hq hx
  have HB0 := Lib.hid (Below.refl w.heap.size w)
  go_enter Try.func11, Try.ntmps11
  go_wp2_with fail
  refine (HL.out w HB0.out).mono ?_
  rintro e w1 ⟨v1, rfl, hv1, hb1⟩
  have HB1 := Lib.hid (HB0.out.trans (hb1.mono HB0.out.size))
  have A_1 := Lib.hid (hv1)
  clear hb1 hv1
  go_wp2_with fail
  refine (HCp.out v1 w1 A_1.out).mono ?_
  rintro e w2 ⟨rfl, hb2⟩
  have HB2 := Lib.hid (HB1.out.trans (hb2.mono HB1.out.size))
  have A_2 := Lib.hid (A_1.out.below hb2 (Nat.le_refl _))
  clear hb2
  clear A_2
  go_wp2_with fail
  refine (HRe.out w2 HB2.out).mono ?_
  rintro e w' ⟨rfl, rfl⟩
  go_wp2_with fail
  refine (HGr.out w2).mono ?_
  rintro e w3 ⟨v3, rfl, hv3, hb3⟩
  have HB3 := Lib.hid (HB2.out.trans (hb3.mono HB2.out.size))
  have G_3 := Lib.hid (hv3)
  clear hb3 hv3
  obtain ⟨ga, gc, rfl⟩ : ∃ a c, v3 = .slice a bs.length c := by obtain ⟨a, c, e, _⟩ := Nats.open G_3.out; exact ⟨a, c, e⟩
  obtain ⟨gn, hgn⟩ : ∃ gn, gn = bs.length := ⟨_, rfl⟩
  rw [← hgn] at G_3
  rw [← hgn]
  obtain rfl : gn = 4 := hgn.trans HGl.out
  clear hgn HGl
  go_wp2_with fail
  refine (HCg.out _ w3 G_3.out).mono ?_
  rintro e w4 ⟨rfl, hb4⟩
  have HB4 := Lib.hid (HB3.out.trans (hb4.mono HB3.out.size))
  have G_4 := Lib.hid (G_3.out.below hb4 (Nat.le_refl _))
  clear hb4
  clear G_4
  go_wp2_with fail
  refine (HL.out w4 HB4.out).mono ?_
  rintro e w5 ⟨v5, rfl, hv5, hb5⟩
  have HB5 := Lib.hid (HB4.out.trans (hb5.mono HB4.out.size))
  have A_5 := Lib.hid (hv5)
  clear hb5 hv5
  go_wp2_with fail
  refine (HFr.out v5 w5 A_5.out).mono ?_
  rintro e w6 ⟨v6, rfl, hv6, hb6⟩
  have HB6 := Lib.hid (HB5.out.trans (hb6.mono HB5.out.size))
  have A_6 := Lib.hid (A_5.out.below hb6 (Nat.le_refl _))
  have F_6 := Lib.hid (hv6)
  clear hb6 hv6
  clear A_6
  go_wp2_with fail
  refine (HSz.out w6).mono ?_
  rintro e w' ⟨rfl, rfl⟩
  go_wp2_with fail
  refine (HCo.out w6 HB6.out).mono ?_
  rintro e w' ⟨rfl, rfl⟩
  go_wp2_with fail
  refine (HCf.out v6 w6 F_6.out).mono ?_
  rintro e w' ⟨rfl, rfl⟩
  clear F_6
  go_wp2_with fail
  refine (HAw.out w6).mono ?_
  rintro e w7 ⟨rfl, hb7⟩
  have HB7 := Lib.hid (HB6.out.trans (hb7.mono HB6.out.size))
  clear hb7
  go_wp2
  go_ret
  exact ⟨rfl, HB7.out⟩

set_option maxHeartbeats 2000000 in
set_option maxRecDepth 100000 in
theorem bounds2_out (v : Value) (l : List Nat) (x : Int) (w : World) (h : Nats w v l) (hk : Deck 2 l) (U q : Nat) (hU : IntKind.u64.wrap x = (U : Int)) (hq : q = U % 9) (hc : capB 2 l = true) (hx : q ∉ l) :
    Calls Try.prog 11 #[.int .i64 2, v, .int .i64 x] w fun e w' => e = .returned (.bool true) ∧ Below w.heap.size w w' := by
  have hq_lt : q < 9 := by omega
  have d3 : (U:Int).tmod 9 = (q:Int) := by rw [hq]; rfl
  have d4 : (U:Int) % 9 = (q:Int) := by rw [hq]; rfl
  have hlen := hk.len (by omega)
  have HL := Lib.hid (fun w' (hb : Below w.heap.size w w') => list_any v _ w' (h.below hb (Nat.le_refl _)))
  rw [nats_take90 (by omega)] at HL
  have HAw := Lib.hid (fun w => awake_any w)
  have HCp := Lib.hid (fun v' w' (h' : Nats w' v' l) => Cap_any 2 v' l w' (by omega) (by omega) hk h')
  rw [hc] at HCp
  have HRe := Lib.hid (fun w' (hb : Below w.heap.size w w') => rCards_any 2 v _ w' (h.below hb (Nat.le_refl _)))
  rw [show deckB 2 (nats l) = true from deck_mk (d := 2) (by omega) (by omega) hk] at HRe
  have HGr := Lib.hid (fun w => Greatest_any 2 w (by omega) (by omega))
  have hgk : Deck 2 (greatN 2) := ⟨greatN_up 2, greatN_bd 2⟩
  have HCg := Lib.hid (fun v' w' (h' : Nats w' v' (greatN 2)) => Cap_any 2 v' _ w' (by omega) (by omega) hgk h')
  rw [show capB 2 (greatN 2) = true from greatN_cap 2] at HCg
  have hgl : (greatN 2).length = 4 := greatN_len (d := 2) (by omega) (by omega)
  clear hgk
  generalize greatN 2 = bs at *
  have HGl := Lib.hid hgl
  clear hgl
  have hmost : l.length ≤ 4 := cap_most (d := 2) (by omega) (by omega) ((keeps_capS hk).1 hc)
  have HFr := Lib.hid (fun v' w' (h' : Nats w' v' l) => Free_any 2 v' l w' (by omega) (by omega) hk h' hc)
  have HSz := Lib.hid (fun w => rSize_any 2 w)
  rw [show sizeI 2 = 9 from rfl] at HSz
  have HCo := Lib.hid (fun w' (hb : Below w.heap.size w w') => containsN_any v l q w' (h.below hb (Nat.le_refl _)))
  have HCf := Lib.hid (fun v' w' (h' : Nats w' v' (freeL 2 l)) => containsN_any v' (freeL 2 l) q w' h')
  rw [show l.contains q = false by rw [List.contains_eq_mem]; exact decide_eq_false hx] at HCo
  rw [free_out (d := 2) hq_lt] at HCf
  have HLo := Lib.hid (fun w' (hb : Below w.heap.size w w') => list_own v l w' (h.below hb (Nat.le_refl _)) (by omega))
  have HSo := Lib.hid (fun base v' w' (ho : w'.ownsRow base 3 1 v' (l ++ [q]).length (ints (nats (l ++ [q])))) (hB : base ≤ w'.heap.size) => sortA_any base v' (l ++ [q]) w' (by simp; omega) (fun y hy => by
    rcases List.mem_append.1 hy with hy | hy
    · have := hk.bd (by omega) y hy; omega
    · simp at hy; omega) ho hB)
  have HCm := Lib.hid (fun v' w' (h' : Nats w' v' (sortN (l ++ [q]))) => Cap_any 2 v' _ w' (by omega) (by omega) (more_deck hk hq_lt hx) h')
  rw [more_cap hk hq_lt hx hc] at HCm
  generalize mayB 2 l q = r at *
  generalize freeL 2 l = fs at *
  have hIx := fun w => (show (Instr.index 56 (.agg #[.int .i64 0, .int .i64 2, .int .i64 4, .int .i64 9, .int .i64 20]) (.int .i64 2)).run Try.prog w = .ok (.int .i64 4) w by kernel_rfl)
  obtain ⟨ao, cap, rfl, h1, h2, hxx⟩ := h.open
  clear h hk hxx hc hq hx
  have HB0 := Lib.hid (Below.refl w.heap.size w)
  go_enter Try.func11, Try.ntmps11
  go_wp2_with fail
  refine (HL.out w HB0.out).mono ?_
  rintro e w1 ⟨v1, rfl, hv1, hb1⟩
  have HB1 := Lib.hid (HB0.out.trans (hb1.mono HB0.out.size))
  have A_1 := Lib.hid (hv1)
  clear hb1 hv1
  go_wp2_with fail
  refine (HCp.out v1 w1 A_1.out).mono ?_
  rintro e w2 ⟨rfl, hb2⟩
  have HB2 := Lib.hid (HB1.out.trans (hb2.mono HB1.out.size))
  have A_2 := Lib.hid (A_1.out.below hb2 (Nat.le_refl _))
  clear hb2
  clear A_2
  go_wp2_with fail
  refine (HRe.out w2 HB2.out).mono ?_
  rintro e w' ⟨rfl, rfl⟩
  go_wp2_with fail
  refine (HGr.out w2).mono ?_
  rintro e w3 ⟨v3, rfl, hv3, hb3⟩
  have HB3 := Lib.hid (HB2.out.trans (hb3.mono HB2.out.size))
  have G_3 := Lib.hid (hv3)
  clear hb3 hv3
  obtain ⟨ga, gc, rfl⟩ : ∃ a c, v3 = .slice a bs.length c := by obtain ⟨a, c, e, _⟩ := Nats.open G_3.out; exact ⟨a, c, e⟩
  obtain ⟨gn, hgn⟩ : ∃ gn, gn = bs.length := ⟨_, rfl⟩
  rw [← hgn] at G_3
  rw [← hgn]
  obtain rfl : gn = 4 := hgn.trans HGl.out
  clear hgn HGl
  go_wp2_with fail
  refine (HCg.out _ w3 G_3.out).mono ?_
  rintro e w4 ⟨rfl, hb4⟩
  have HB4 := Lib.hid (HB3.out.trans (hb4.mono HB3.out.size))
  have G_4 := Lib.hid (G_3.out.below hb4 (Nat.le_refl _))
  clear hb4
  clear G_4
  go_wp2_with fail
  refine (HL.out w4 HB4.out).mono ?_
  rintro e w5 ⟨v5, rfl, hv5, hb5⟩
  have HB5 := Lib.hid (HB4.out.trans (hb5.mono HB4.out.size))
  have A_5 := Lib.hid (hv5)
  clear hb5 hv5
  go_wp2_with fail
  refine (HFr.out v5 w5 A_5.out).mono ?_
  rintro e w6 ⟨v6, rfl, hv6, hb6⟩
  have HB6 := Lib.hid (HB5.out.trans (hb6.mono HB5.out.size))
  have A_6 := Lib.hid (A_5.out.below hb6 (Nat.le_refl _))
  have F_6 := Lib.hid (hv6)
  clear hb6 hv6
  clear A_6
  go_wp2_with fail
  refine (HSz.out w6).mono ?_
  rintro e w' ⟨rfl, rfl⟩
  go_wp2_with fail
  refine (HCo.out w6 HB6.out).mono ?_
  rintro e w' ⟨rfl, rfl⟩
  obtain ⟨i0, hi, hz0, hz1, hz2⟩ := info_parts Try.info3
  go_wp2_with fail
  refine (HLo.out w6 HB6.out).mono ?_
  rintro e wl ⟨al, cl, rfl, hol, hbl⟩
  have HBl := Lib.hid (HB6.out.trans (hbl.mono HB6.out.size))
  have HOl := Lib.hid hol
  have HBl2 := Lib.hid hbl
  clear hol hbl
  go_wp2_with (at_builtin; refine wpList_append_own _ rfl _ _ 22 rfl w6.heap.size 3 i0 (.int .i64 0) 1 8 Try.underlying22 hi hz0 hz1 hz2 rfl (by decide) _ _ _ rfl (HOl.out.alloc _) ⟨wl.heap.size, 0, none⟩ 1 1 [.int .i64 (q:Int)] rfl rfl (newOne _ _ _) (oneInt _) (by unfold maxLen; omega) (by omega) (by have := HBl2.out.size; simp; omega) ?_)
  intro v' w2 hown' hgrow _
  have HR := Lib.hid (nat_step HOl.out HBl2.out HBl2.out.size hown' hgrow)
  clear hown' hgrow
  go_wp2_with fail
  refine (HSo.out w6.heap.size v' w2 HR.out.1 HR.out.2.size).mono ?_
  rintro e w3x ⟨rfl, hn3, hb3⟩
  have HB3x := Lib.hid (HB6.out.trans ((HR.out.2.trans hb3).mono HB6.out.size))
  have F_3 := Lib.hid (F_6.out.below (HR.out.2.trans hb3) (Nat.le_refl _))
  have HN3 := Lib.hid hn3
  clear hn3 hb3 F_6
  go_wp2_with fail
  refine (HCm.out _ w3x HN3.out).mono ?_
  rintro e w4x ⟨rfl, hb4⟩
  have HB4x := Lib.hid (HB3x.out.trans (hb4.mono HB3x.out.size))
  have F_4 := Lib.hid (F_3.out.below hb4 (Nat.le_refl _))
  clear hb4 F_3 HN3
  go_wp2_with fail
  refine (HCf.out v6 w4x F_4.out).mono ?_
  rintro e w' ⟨rfl, rfl⟩
  go_wp2_with fail
  refine (HAw.out w4x).mono ?_
  rintro e w5x ⟨rfl, hb5⟩
  have HB5x := Lib.hid (HB4x.out.trans (hb5.mono HB4x.out.size))
  clear hb5
  go_wp2
  go_ret
  exact ⟨rfl, HB5x.out⟩
end Go.Proofs.Ytlalfjkenkmojaa
