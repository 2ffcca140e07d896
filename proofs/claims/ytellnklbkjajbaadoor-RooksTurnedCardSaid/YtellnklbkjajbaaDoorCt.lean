/- RooksCut: the walk -/
import Derived.Test.YtellnklbkjajbaaDoorMd
import Derived.Test.YtellnklbkjajbaaDoorLs
namespace Go.Proofs.YtellnklbkjajbaaDoor
open Go.RowKit

set_option maxHeartbeats 400000 in
theorem list_own (v : Value) (zs : List Int) (w : World) (h : Ints w v zs) (hl : zs.length ≤ 9) (h0 : 0 < zs.length) :
    Calls Tryd.prog 16 #[v] w fun e w' => ∃ g c, e = .returned (.slice (some ⟨g, 0, none⟩) zs.length c) ∧ w.heap.size ≤ g ∧ w'.ownsRow w.heap.size 3 1 (.slice (some ⟨g, 0, none⟩) zs.length c) zs.length (ints zs) ∧ Below w.heap.size w w' := by
  obtain ⟨ao, cap, rfl, h1, h2, hc⟩ := h.open
  have HT' := Lib.hid (clone1_any _ _ w (h.take (Nat.le_refl zs.length)))
  have hm : min (zs.length : Int) 9 = zs.length := by omega
  have hm2 : min zs.length 9 = zs.length := by omega
  rw [List.take_length] at HT'
  clear h hc
  go_enter Tryd.func16, Tryd.ntmps16
  go_wp2_with fail
  refine HT'.out.mono ?_
  rintro e w1 ⟨ao1, c1, rfl, hown, hb1⟩
  obtain ⟨g, rfl, hg⟩ := owns_some hown h0
  have HO := Lib.hid hown
  have HB1 := Lib.hid hb1
  clear hown hb1
  go_wp2
  go_ret
  exact ⟨_, _, rfl, hg, HO.out, HB1.out⟩

theorem Rooks_val (v : Value) (bs : List Nat) (n : Nat) (w : World) (hb : Brd n bs) (h : Nats w v bs) (hT : Tab w) :
    Calls Tryd.prog 15 #[v] w fun e w' => ∃ A, e = .returned (.tuple #[.slice (some ⟨A, 0, none⟩) (n + 1) (n + 1), .int .i64 0]) ∧ Ints w' (.slice (some ⟨A, 0, none⟩) (n + 1) (n + 1)) (rookL bs) ∧ Below w.heap.size w w' :=
  (Rooks_any v bs n w hb h hT).mono fun _ _ ⟨A, he, _, hI, hb'⟩ => ⟨A, he, by
    have := hI.ints (by rw [rookL_length, hb.len]; have := hb.le; omega) (rookL_I64 bs)
    rwa [rookL_length, hb.len] at this, hb'⟩
theorem ints_at {w : World} {A m c : Nat} {xs : List Int} (h : Ints w (.slice (some ⟨A, 0, none⟩) m c) xs) {k : Nat} (hk : k < xs.length) : w.cell? ⟨A, k, none⟩ = some (.int .i64 (xs.getD k 0)) := by
  obtain ⟨ao, cap, hv, _, _, hc⟩ := h.open
  simp only [Value.slice.injEq] at hv
  obtain ⟨rfl, _, _⟩ := hv
  obtain ⟨b, o, e, hck⟩ := hc k hk
  simp only [Option.some.injEq, Addr.mk.injEq, and_true] at e
  obtain ⟨rfl, rfl⟩ := e
  rwa [Nat.zero_add] at hck

theorem cut_brd {n : Nat} {bs : List Nat} (hb : Brd n bs) (i j : Nat) : Brd n (bs.set i (sub (bs.getD i 0) (2 ^ j))) := by
  refine ⟨by rw [List.length_set, hb.len], hb.pos, hb.le, fun x hx => ?_⟩
  rcases List.mem_or_eq_of_mem_set hx with hx | rfl
  · exact hb.lt x hx
  · exact sub_le _ _ _ (hb.get i)
theorem cut_zero (bs : List Nat) (i j : Nat) : (rookL bs).getD 0 0 = (rookL (bs.set i (sub (bs.getD i 0) (2 ^ j)))).getD 0 0 := by
  rw [rookL_get _ (Nat.zero_le _), rookL_get _ (Nat.zero_le _), cnt_zero, cnt_zero]
theorem cut_succ {n : Nat} {bs : List Nat} (hb : Brd n bs) {i j : Nat} (hi : i < n) (hj : j < n) (h : (bs.getD i 0).testBit j = true) {k : Nat} (hk : k < n) :
    (rookL bs).getD (k + 1) 0 = wrap64 ((rookL (bs.set i (sub (bs.getD i 0) (2 ^ j)))).getD (k + 1) 0 + (rookL (withoutL bs i j)).getD k 0) := by
  have h1 := hb.len
  rw [rookL_get _ (by omega), rookL_get _ (by rw [List.length_set]; omega), rookL_get _ (by rw [withoutL_length j (by omega)]; omega), wrap_add, wrap_add', cnt_cut hb hi hj h k, Int.natCast_add]

set_option maxHeartbeats 8000000 in
set_option maxRecDepth 100000 in
theorem rooksCut_law (v : Value) (xs : List Int) (i j : Int) (w : World) (h : Ints w v xs) (hT : Tab w) :
    Calls Tryd.prog 9 #[v, .int .i64 i, .int .i64 j] w fun e w' => e = .returned (.bool true) ∧ Below w.heap.size w w' := by
  have HL := Lib.hid (fun w' (hb : Below w.heap.size w w') => list_any v xs w' (h.below hb (Nat.le_refl _)))
  have HM := Lib.hid (fun w' (hb : Below w.heap.size w w') => Board_any v xs w' (h.below hb (Nat.le_refl _)))
  have HTab := Lib.hid (fun w' (hb : Below w.heap.size w w') => tab_block hT (hb.block 1 (tab_lt hT)))
  have HAw := Lib.hid (fun w' (hb : Below w.heap.size w w') => awake_any w' (HTab.out w' hb))
  cases hs : boardB xs with
  | false =>
    have hg : goodW (xs.take 9) i j = false := by unfold goodW; rw [boardB_take, hs]; rfl
    have HWo := Lib.hid (fun v' w' (h' : Ints w' v' (xs.take 9)) => Without_bad v' (xs.take 9) i j w' h' hg)
    have HRk := Lib.hid (fun v' w' (h' : Ints w' v' (xs.take 9)) => Rooks_bad v' (xs.take 9) w' (by rw [boardB_take, hs]) h')
    clear hs h hg hT HM
    have HB0 := Lib.hid (Below.refl w.heap.size w)
    go_enter Tryd.func9, Tryd.ntmps9
    go_wp2_with fail
    refine (HL.out w HB0.out).mono ?_
    rintro e w1 ⟨v1, rfl, hv1, hb1⟩
    have HB1 := Lib.hid (HB0.out.trans (hb1.mono HB0.out.size))
    have A_1 := Lib.hid (hv1)
    clear hb1 hv1
    go_wp2_with fail
    refine (HRk.out v1 w1 A_1.out).mono ?_
    rintro e w' ⟨rfl, rfl⟩
    clear A_1
    go_wp2_with fail
    refine (HL.out w1 HB1.out).mono ?_
    rintro e w2 ⟨v2, rfl, hv2, hb2⟩
    have HB2 := Lib.hid (HB1.out.trans (hb2.mono HB1.out.size))
    have A_2 := Lib.hid (hv2)
    clear hb2 hv2
    go_wp2_with fail
    refine (HWo.out v2 w2 A_2.out).mono ?_
    rintro e w' ⟨rfl, rfl⟩
    clear A_2
    go_wp2_with fail
    refine (HAw.out w2 HB2.out).mono ?_
    rintro e w3 ⟨rfl, hb3⟩
    have HB3 := Lib.hid (HB2.out.trans (hb3.mono HB2.out.size))
    clear hb3
    go_wp2
    go_ret
    exact ⟨rfl, HB3.out⟩
  | true =>
    obtain ⟨bs, rfl, hb⟩ := boardB_of hs
    rw [nats_length] at hb
    obtain ⟨n, hn⟩ : ∃ n, n = bs.length := ⟨_, rfl⟩
    rw [← hn] at hb
    have hn6 := hb.le
    have ht : (nats bs).take 9 = nats bs := List.take_of_length_le (by rw [nats_length]; omega)
    rw [ht] at HL
    have HRk := Lib.hid (fun v' w' (h' : Nats w' v' bs) (hT' : Tab w') => Rooks_val v' bs n w' hb h' hT')
    rw [hs] at HM
    by_cases hg : 2 ≤ n ∧ (0 ≤ i ∧ i < n) ∧ (0 ≤ j ∧ j < n)
    · obtain ⟨hg1, hg2, hg3⟩ := hg
      obtain ⟨a, rfl⟩ : ∃ a : Nat, i = a := ⟨i.toNat, by omega⟩
      obtain ⟨c, rfl⟩ : ∃ c : Nat, j = c := ⟨j.toNat, by omega⟩
      have ha : a < n := by omega
      have hc : c < n := by omega
      have HWo := Lib.hid (fun v' w' (h' : Nats w' v' bs) => Without_any v' bs n a c w' hb h' hg1 ha hc)
      have hwb := without_brd hb hg1 ha hc
      have hn1 : n - 1 + 1 = n := by omega
      have HRw := Lib.hid (fun v' w' (h' : Nats w' v' (withoutL bs a c)) (hT' : Tab w') => Rooks_val v' (withoutL bs a c) (n - 1) w' hwb h' hT')
      rw [hn1] at HRw
      have HRc := Lib.hid (fun v' w' (h' : Nats w' v' (bs.set a (sub (bs.getD a 0) (2 ^ c)))) (hT' : Tab w') => Rooks_val v' _ n w' (cut_brd hb a c) h' hT')
      have HLo := Lib.hid (fun w' (hb' : Below w.heap.size w w') => list_own v (nats bs) w' (h.below hb' (Nat.le_refl _)) (by rw [nats_length]; omega) (by rw [nats_length]; omega))
      rw [nats_length, ← hn] at HLo
      have HCz := Lib.hid (cut_zero bs a c)
      have HCs := Lib.hid (fun (ht : (bs.getD a 0).testBit c = true) (k : Nat) (hk : k < n) => cut_succ hb ha hc ht hk)
      have hLx : (rookL bs).length = n + 1 := by rw [rookL_length, ← hn]
      have hLu : (rookL (bs.set a (sub (bs.getD a 0) (2 ^ c)))).length = n + 1 := by rw [rookL_length, List.length_set, ← hn]
      have hLv : (rookL (withoutL bs a c)).length = n := by rw [rookL_length, hwb.len]; omega
      have HCb := Lib.hid (cut_brd hb a c)
      have HNl : Hid ((nats bs).length = n) := Lib.hid (by rw [nats_length, hn])
      obtain ⟨ao, cap, rfl, _, _, hx⟩ := Nats.open h
      obtain ⟨b0, o0, rfl, hca⟩ := hx a (by omega)
      rw [← hn] at *
      have hr : bs.getD a 0 < 64 := Nat.lt_of_lt_of_le (hb.get a) (pw6 n hn6).2
      have q2 : ¬ ((a:Int) < 0) := by omega
      have q3 : ¬ ((n:Int) ≤ a) := by omega
      have q4 : ¬ ((c:Int) < 0) := by omega
      have q5 : ¬ ((n:Int) ≤ c) := by omega
      have q6 : (0:Int) ≤ (a:Int) := by omega
      have q7 : (a:Int) < (n:Int) := by omega
      have q8 : (0:Int) ≤ (c:Int) := by omega
      have hbit := bit_and1 (bs.getD a 0) c (by omega)
      have HX := Lib.hid (hx)
      have HNb : Hid (nats (bs.set a (sub (bs.getD a 0) (2 ^ c))) = (nats bs).set a ((sub (bs.getD a 0) (2 ^ c) : Nat) : Int)) := Lib.hid (nats_set _ _ _)
      have HNg : Hid ((nats bs).getD a 0 = ((bs.getD a 0 : Nat) : Int)) := Lib.hid (nats_getD bs a)
      clear hs h hb ht hT hg1 hg2 hg3 hx hwb
      cases htb : (bs.getD a 0).testBit c with
      | false =>
        rw [htb] at hbit
        have hbit0 : bits .and .i64 (((bs.getD a 0 : Nat) : Int) / 2 ^ c) 1 = 0 := hbit
        clear hbit htb HCs HCz HNb HNg HRc HRw HLo
        generalize bs.getD a 0 = r at *
        have HB0 := Lib.hid (Below.refl w.heap.size w)
        go_enter Tryd.func9, Tryd.ntmps9
        go_wp2_with fail
        refine (HL.out w HB0.out).mono ?_
        rintro e w1 ⟨v1, rfl, hv1, hb1⟩
        have HB1 := Lib.hid (HB0.out.trans (hb1.mono HB0.out.size))
        have A_1 := Lib.hid (hv1)
        clear hb1 hv1
        go_wp2_with fail
        refine (HRk.out v1 w1 A_1.out (HTab.out _ HB1.out)).mono ?_
        rintro e w2 ⟨v2, rfl, hv2, hb2⟩
        have HB2 := Lib.hid (HB1.out.trans (hb2.mono HB1.out.size))
        have A_2 := Lib.hid (A_1.out.below hb2 (Nat.le_refl _))
        have X_2 := Lib.hid (hv2)
        clear hb2 hv2
        clear A_2
        go_wp2_with fail
        refine (HL.out w2 HB2.out).mono ?_
        rintro e w3 ⟨v3, rfl, hv3, hb3⟩
        have HB3 := Lib.hid (HB2.out.trans (hb3.mono HB2.out.size))
        have X_3 := Lib.hid (X_2.out.below hb3 (Nat.le_refl _))
        have A_3 := Lib.hid (hv3)
        clear hb3 hv3
        go_wp2_with fail
        refine (HWo.out v3 w3 A_3.out).mono ?_
        rintro e w4 ⟨v4, rfl, hv4, hb4⟩
        have HB4 := Lib.hid (HB3.out.trans (hb4.mono HB3.out.size))
        have X_4 := Lib.hid (X_3.out.below hb4 (Nat.le_refl _))
        have A_4 := Lib.hid (A_3.out.below hb4 (Nat.le_refl _))
        have Y_4 := Lib.hid (hv4)
        clear hb4 hv4
        clear A_4
        go_wp2_with fail
        refine (HM.out w4 HB4.out).mono ?_
        rintro e w' ⟨rfl, rfl⟩
        have hcc := ck hca HB4.out
        go_wp2_with fail
        refine (HAw.out w4 HB4.out).mono ?_
        rintro e w5 ⟨rfl, hb5⟩
        have HB5 := Lib.hid (HB4.out.trans (hb5.mono HB4.out.size))
        have X_5 := Lib.hid (X_4.out.below hb5 (Nat.le_refl _))
        have Y_5 := Lib.hid (Y_4.out.below hb5 (Nat.le_refl _))
        clear hb5
        go_wp2
        go_ret
        exact ⟨rfl, HB5.out⟩
      | true =>
        rw [htb] at hbit
        have hbit1 : bits .and .i64 (((bs.getD a 0 : Nat) : Int) / 2 ^ c) 1 = 1 := hbit
        have HCs' := Lib.hid (HCs.out htb)
        clear hbit htb HCs
        have han := i64_andNot (bs.getD a 0) (2 ^ c) (by omega) (by have := pw6 c (by omega); omega)
        have hpc := pw_bd c (by omega)
        have hw1 : IntKind.i64.wrap ((2:Int) ^ c) = (2:Int) ^ c := i64_of (by omega) (by omega)
        clear hpc
        rw [pw_cast] at han
        have han' : bits .andNot .i64 ((bs.getD a 0 : Nat) : Int) ((2:Int) ^ c) = ((sub (bs.getD a 0) (2 ^ c) : Nat) : Int) := han
        clear han
        generalize bs.set a (sub (bs.getD a 0) (2 ^ c)) = cs at *
        generalize withoutL bs a c = ds at *
        generalize bs.getD a 0 = r at *
        generalize sub r (2 ^ c) = s at *
        have HB0 := Lib.hid (Below.refl w.heap.size w)
        go_enter Tryd.func9, Tryd.ntmps9
        go_wp2_with fail
        refine (HL.out w HB0.out).mono ?_
        rintro e w1 ⟨v1, rfl, hv1, hb1⟩
        have HB1 := Lib.hid (HB0.out.trans (hb1.mono HB0.out.size))
        have A_1 := Lib.hid (hv1)
        clear hb1 hv1
        go_wp2_with fail
        refine (HRk.out v1 w1 A_1.out (HTab.out _ HB1.out)).mono ?_
        rintro e w2 ⟨v2, rfl, hv2, hb2⟩
        have HB2 := Lib.hid (HB1.out.trans (hb2.mono HB1.out.size))
        have A_2 := Lib.hid (A_1.out.below hb2 (Nat.le_refl _))
        have X_2 := Lib.hid (hv2)
        clear hb2 hv2
        clear A_2
        go_wp2_with fail
        refine (HL.out w2 HB2.out).mono ?_
        rintro e w3 ⟨v3, rfl, hv3, hb3⟩
        have HB3 := Lib.hid (HB2.out.trans (hb3.mono HB2.out.size))
        have X_3 := Lib.hid (X_2.out.below hb3 (Nat.le_refl _))
        have A_3 := Lib.hid (hv3)
        clear hb3 hv3
        go_wp2_with fail
        refine (HWo.out v3 w3 A_3.out).mono ?_
        rintro e w4 ⟨v4, rfl, hv4, hb4⟩
        have HB4 := Lib.hid (HB3.out.trans (hb4.mono HB3.out.size))
        have X_4 := Lib.hid (X_3.out.below hb4 (Nat.le_refl _))
        have A_4 := Lib.hid (A_3.out.below hb4 (Nat.le_refl _))
        have Y_4 := Lib.hid (hv4)
        clear hb4 hv4
        clear A_4
        go_wp2_with fail
        refine (HM.out w4 HB4.out).mono ?_
        rintro e w' ⟨rfl, rfl⟩
        have hcc := ck hca HB4.out
        go_wp2_with fail
        refine (HLo.out _ HB4.out).mono ?_
        rintro e w5 ⟨g, lc, rfl, hg, hO, hb5⟩
        obtain ⟨hcg, hfg⟩ := owns_cell hO (k := a) (by rw [HNl.out]; omega)
        rw [HNg.out] at hcg
        have hbs : Below w4.heap.size w4 ((w5.setCell ⟨g, a, none⟩ (.int .i64 s)).drew) := (hb5.setCell (p := ⟨g, a, none⟩) hg (.int .i64 s)).drew
        have HOS : Hid (Nats ((w5.setCell ⟨g, a, none⟩ (.int .i64 s)).drew) (.slice (some ⟨g, 0, none⟩) n lc) cs) := Lib.hid (by
          have := owns_set hO (k := a) (s : Int)
          rw [← HNb.out] at this
          exact Ints.of_owns (w := ((w5.setCell ⟨g, a, none⟩ (.int .i64 s)).drew)) this (by omega) (nats_I64 fun x hx => Nat.lt_of_lt_of_le (HCb.out.lt x hx) (by have := pw6 n hn6; omega)))
        have HBS : Hid (Below w.heap.size w ((w5.setCell ⟨g, a, none⟩ (.int .i64 s)).drew)) := Lib.hid (HB4.out.trans (hbs.mono HB4.out.size))
        have HXS := Lib.hid (X_4.out.below hbs (Nat.le_refl _))
        have HYS := Lib.hid (Y_4.out.below hbs (Nat.le_refl _))
        clear hO hb5 hbs X_4 Y_4 HB4
        go_wp2_with fail
        go_region_with (fail)
        have HB6 := HBS
        have X_6 := HXS
        have Y_6 := HYS
        have C_6 := HOS
        clear HBS HXS HYS HOS hcg hfg hcc han' hbit1 hw1 HNg HNb HX HLo hca
        generalize ((w5.setCell ⟨g, a, none⟩ (.int .i64 s)).drew) = w6 at *
        go_wp2_with fail
        refine (HRc.out _ w6 C_6.out (HTab.out _ HB6.out)).mono ?_
        rintro e w7 ⟨v7, rfl, hv7, hb7⟩
        have HB7 := Lib.hid (HB6.out.trans (hb7.mono HB6.out.size))
        have X_7 := Lib.hid (X_6.out.below hb7 (Nat.le_refl _))
        have Y_7 := Lib.hid (Y_6.out.below hb7 (Nat.le_refl _))
        have C_7 := Lib.hid (C_6.out.below hb7 (Nat.le_refl _))
        have U_7 := Lib.hid (hv7)
        clear hb7 hv7
        clear C_7
        go_wp2_with fail
        refine (HRw.out v4 w7 Y_7.out (HTab.out _ HB7.out)).mono ?_
        rintro e w8 ⟨v8, rfl, hv8, hb8⟩
        have HB8 := Lib.hid (HB7.out.trans (hb8.mono HB7.out.size))
        have X_8 := Lib.hid (X_7.out.below hb8 (Nat.le_refl _))
        have Y_8 := Lib.hid (Y_7.out.below hb8 (Nat.le_refl _))
        have U_8 := Lib.hid (U_7.out.below hb8 (Nat.le_refl _))
        have V_8 := Lib.hid (hv8)
        clear hb8 hv8
        clear Y_8
        clear HRc HRw HRk HL HWo HM
        go_wp2_with fail
        go_loop [134] (fun ii => ∃ k : Nat, k ≤ n + 1 ∧ ii = .int .i64 k) (fun ii => n + 1 - (intOf ii).toNat)
        case atStart => exact ⟨0, Nat.zero_le _, rfl⟩
        case round =>
          obtain ⟨k, hk, rfl⟩ := hrel
          by_cases hlt : k < n + 1
          · have cx := ints_at X_8.out (k := k) (by rw [hLx]; exact hlt)
            have cu := ints_at U_8.out (k := k) (by rw [hLu]; exact hlt)
            cases k with
            | zero =>
              have hq : ((rookL bs).getD 0 0 != (rookL cs).getD 0 0) = false := by rw [HCz.out]; simp
              generalize (rookL bs).getD 0 0 = x at *
              generalize (rookL cs).getD 0 0 = u at *
              go_wp2
              go_round
              case rel => exact ⟨1, by omega, by go_num⟩
              case measure => simp [intOf]
            | succ k =>
              have cv := ints_at V_8.out (k := k) (by rw [hLv]; omega)
              have hq : ((rookL bs).getD (k + 1) 0 != wrap64 ((rookL cs).getD (k + 1) 0 + (rookL ds).getD k 0)) = false := by rw [HCs'.out k (by omega)]; simp
              have hk0 : (0:Int) < (k:Int) + 1 := by omega
              have hk1 : (k:Int) < (n:Int) := by omega
              generalize (rookL bs).getD (k + 1) 0 = x at *
              generalize (rookL cs).getD (k + 1) 0 = u at *
              generalize (rookL ds).getD k 0 = vv at *
              go_wp2
              go_round
              case rel => exact ⟨k + 1 + 1, by omega, by go_num⟩
              case measure => simp [intOf]; omega
          · obtain rfl : k = n + 1 := by omega

            go_wp2_with fail
            refine (HAw.out w8 HB8.out).mono ?_
            rintro e w9 ⟨rfl, hb9⟩
            have HB9 := Lib.hid (HB8.out.trans (hb9.mono HB8.out.size))
            clear hb9
            go_wp2
            go_ret
            exact ⟨rfl, HB9.out⟩
    · have hgw : goodW (nats bs) i j = false := by
        unfold goodW idxB
        rw [nats_length, ← hn]
        simp only [Bool.and_eq_false_iff, decide_eq_false_iff_not]
        omega
      have HWo := Lib.hid (fun v' w' (h' : Nats w' v' bs) => Without_bad v' (nats bs) i j w' h' hgw)
      clear hs h hb ht hT hgw hg HM
      have HB0 := Lib.hid (Below.refl w.heap.size w)
      go_enter Tryd.func9, Tryd.ntmps9
      go_wp2_with fail
      refine (HL.out w HB0.out).mono ?_
      rintro e w1 ⟨v1, rfl, hv1, hb1⟩
      have HB1 := Lib.hid (HB0.out.trans (hb1.mono HB0.out.size))
      have A_1 := Lib.hid (hv1)
      clear hb1 hv1
      go_wp2_with fail
      refine (HRk.out v1 w1 A_1.out (HTab.out _ HB1.out)).mono ?_
      rintro e w2 ⟨v2, rfl, hv2, hb2⟩
      have HB2 := Lib.hid (HB1.out.trans (hb2.mono HB1.out.size))
      have A_2 := Lib.hid (A_1.out.below hb2 (Nat.le_refl _))
      have X_2 := Lib.hid (hv2)
      clear hb2 hv2
      clear A_2
      go_wp2_with fail
      refine (HL.out w2 HB2.out).mono ?_
      rintro e w3 ⟨v3, rfl, hv3, hb3⟩
      have HB3 := Lib.hid (HB2.out.trans (hb3.mono HB2.out.size))
      have X_3 := Lib.hid (X_2.out.below hb3 (Nat.le_refl _))
      have A_3 := Lib.hid (hv3)
      clear hb3 hv3
      go_wp2_with fail
      refine (HWo.out v3 w3 A_3.out).mono ?_
      rintro e w' ⟨rfl, rfl⟩
      clear A_3
      go_wp2_with fail
      refine (HAw.out w3 HB3.out).mono ?_
      rintro e w4 ⟨rfl, hb4⟩
      have HB4 := Lib.hid (HB3.out.trans (hb4.mono HB3.out.size))
      have X_4 := Lib.hid (X_3.out.below hb4 (Nat.le_refl _))
      clear hb4
      go_wp2
      go_ret
      exact ⟨rfl, HB4.out⟩
end Go.Proofs.YtellnklbkjajbaaDoor
