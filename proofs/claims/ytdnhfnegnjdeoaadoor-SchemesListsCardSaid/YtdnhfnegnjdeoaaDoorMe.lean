/- SchemesLists: the walk -/
import Derived.Test.YtdnhfnegnjdeoaaDoorMc
namespace Go.Proofs.YtdnhfnegnjdeoaaDoor
open Go.RowKit

set_option maxRecDepth 100000 in
set_option maxHeartbeats 4000000 in
theorem lists_bad (n : Int) (w : World) (hT : Tab w) (h : n < 4 ∨ 30 < n) : Calls Tryd.prog 9 #[.int .i64 n] w fun e w' => e = .returned (.bool true) ∧ Below w.heap.size w w' := by
  have HAw := Lib.hid (awake_any w hT)
  have HL := Lib.hid (List_bad n w h)
  by_cases h4 : n < 4
  · clear h hT
    go_enter Tryd.func9, Tryd.ntmps9
    go_wp2_with fail
    refine HL.out.mono ?_
    rintro e w1 ⟨rfl, rfl⟩
    go_wp2_with fail
    refine HAw.out.mono ?_
    rintro e w2 ⟨rfl, hb⟩
    have HB := Lib.hid hb
    clear hb
    go_wp2
    go_ret
    exact ⟨rfl, HB.out⟩
  · have h30 : 30 < n := by omega
    clear h hT
    go_enter Tryd.func9, Tryd.ntmps9
    go_wp2_with fail
    refine HL.out.mono ?_
    rintro e w1 ⟨rfl, rfl⟩
    go_wp2_with fail
    refine HAw.out.mono ?_
    rintro e w2 ⟨rfl, hb⟩
    have HB := Lib.hid hb
    clear hb
    go_wp2
    go_ret
    exact ⟨rfl, HB.out⟩

theorem LN_ask {n : Nat} (h1 : 4 ≤ n) (h2 : n ≤ 30) {x : N4} (hx : x ∈ LN n) : AskN x.1 x.2.1 x.2.2.1 x.2.2.2 := by
  unfold LN at hx
  obtain ⟨k, i, j, a, b, c, d, e, rfl⟩ := (mem_kL n x _).1 hx
  exact askN_mk h1 h2 a b c d
set_option maxRecDepth 100000 in
set_option maxHeartbeats 4000000 in
theorem lists_good (n : Nat) (w : World) (hT : Tab w) (h4 : 4 ≤ n) (h30 : n ≤ 30) : Calls Tryd.prog 9 #[.int .i64 n] w fun e w' => e = .returned (.bool true) ∧ Below w.heap.size w w' := by
  have HAw := Lib.hid (fun w' (hb : Below w.heap.size w w') => awake_any w' (tab_below hT hb))
  have HL := Lib.hid (List_any n w h4 h30)
  have HRL := Lib.hid (fun w => rList_any n w h4 h30)
  have HEq := Lib.hid (fun v v' w h h' => EqualFunc_any v v' (LN n) w h h')
  have HCo := Lib.hid (fun v a b c d w h hm => Contains_any v (LN n) a b c d w h hm)
  have HOt := Lib.hid other51_any
  have HAk := Lib.hid (fun x (hx : x ∈ LN n) => LN_ask h4 h30 hx)
  have HOm := Lib.hid (fun x (hx : x ∈ LN n) => oth4_mem h4 h30 hx)
  unfold num4 at HCo HOt
  clear hT
  go_enter Tryd.func9, Tryd.ntmps9
  go_wp2_with fail
  refine HL.out.mono ?_
  rintro e w1 ⟨v, rfl, ho, hb1⟩
  have hr := ho.read
  have HR1 := Lib.hid hr
  have HB1 := Lib.hid hb1
  clear ho hb1
  generalize LN n = l at *
  obtain ⟨ao, cap, rfl, c1, c2, hx⟩ := hr
  have c3 := len_num (Nat.le_trans c1 c2)
  have HX := Lib.hid hx
  have HG : Hid (∀ k, k < l.length → l.getD k z4 ∈ l) := Lib.hid fun k hk => by simp [hk]
  clear hx
  generalize l.length = len at *
  go_wp2_with fail
  refine (HRL.out _).mono ?_
  rintro e w2 ⟨v2, rfl, ho2, hb2⟩
  have HR2 := Lib.hid ho2.read
  have HR12 := Lib.hid (HR1.out.below hb2)
  have HB2 := Lib.hid (HB1.out.trans (hb2.mono HB1.out.size))
  have HB12 := Lib.hid hb2
  clear ho2 hb2
  go_wp2_with fail
  refine (HEq.out _ _ _ HR12.out HR2.out).mono ?_
  rintro e w3 ⟨rfl, hb3⟩
  have HB3 := Lib.hid (HB2.out.trans (hb3.mono HB2.out.size))
  have HB13 := Lib.hid (HB12.out.trans (hb3.mono HB12.out.size))
  clear hb3 HR2 HR12 HB12 HB2 HEq HRL HL
  go_wp2
  go_loopw [39] (fun i wr => ∃ k : Nat, k ≤ len ∧ i = .int .i64 k ∧ Below w3.heap.size w3 wr) (fun i _ => len - (intOf i).toNat)
  case atStart => exact ⟨0, Nat.zero_le _, rfl, Below.refl _ _⟩
  case round =>
    obtain ⟨k, hk, rfl, hb⟩ := hrel
    have HB := Lib.hid hb
    have HB1r := Lib.hid (HB13.out.trans (hb.mono HB13.out.size))
    by_cases hlt : k < len
    · obtain ⟨b, rfl, d0, d1, d2, d3⟩ := HX.out k hlt
      have hmem := HG.out k hlt
      have hak := HAk.out _ hmem
      have hom := HOm.out _ hmem
      generalize l.getD k z4 = x at *
      obtain ⟨x0, x1, x2, x3⟩ := x
      unfold oth4 at hom
      dsimp only at *
      have d0 := ck d0 HB1r.out
      have d1 := ck d1 HB1r.out
      have d2 := ck d2 HB1r.out
      have d3 := ck d3 HB1r.out
      have ba := (Below.refl wr.heap.size wr).alloc (Nat.le_refl _) (.cells #[.int .i64 x0, .int .i64 x1, .int .i64 x2, .int .i64 x3] 24)
      have QA := Q4.new wr 24 x0 x1 x2 x3
      have HBa := Lib.hid (hb.trans (ba.mono hb.size))
      have HB1a := Lib.hid (HB1r.out.trans (ba.mono HB1r.out.size))
      have a0 := QA.c0
      have a1 := QA.c1
      have a2 := QA.c2
      have a3 := QA.c3
      have HC := Lib.hid (fun w => HOt.out x0 x1 x2 x3 w (by have := hak.n4; have := hak.n100; omega) (by have := hak.k1; have := hak.kn; have := hak.n100; omega) (by have := hak.l0; have := hak.lk; have := hak.kn; have := hak.n100; omega) (by have := hak.m0; have := hak.mlk; have := hak.kn; have := hak.n100; omega))
      have HM := Lib.hid hom
      clear ba QA hak hom hmem hb
      generalize x0 - x1 - 1 = y1 at *
      generalize x0 - 2 - 2 * x1 + x3 = y2 at *
      generalize x0 - 2 * x1 + x2 = y3 at *
      go_wp2_with fail
      refine (HC.out _).mono ?_
      rintro e w5 ⟨rfl, hb5⟩
      have HB5 := Lib.hid (HBa.out.trans (hb5.mono HBa.out.size))
      have HB15 := Lib.hid (HB1a.out.trans (hb5.mono HB1a.out.size))
      clear hb5
      go_wp2_with fail
      refine (HCo.out _ x0 y1 y2 y3 _ (HR1.out.below HB15.out) HM.out).mono ?_
      rintro e w6 ⟨rfl, hb6⟩
      have HB6 := Lib.hid (HB5.out.trans (hb6.mono HB5.out.size))
      clear hb6
      go_wp2
      go_roundw
      case rel => exact ⟨k + 1, by omega, by go_num, HB6.out⟩
      case measure => simp [intOf]; omega
    · obtain rfl : k = len := by omega
      have HBf := Lib.hid (HB3.out.trans (hb.mono HB3.out.size))
      clear hb
      go_wp2_with fail
      refine (HAw.out _ HBf.out).mono ?_
      rintro e w5 ⟨rfl, hb5⟩
      have HB5 := Lib.hid (HBf.out.trans (hb5.mono HBf.out.size))
      clear hb5
      go_wp2
      go_ret
      exact ⟨rfl, HB5.out⟩
theorem schemesLists_law (n : Int) (w : World) (hT : Tab w) : Calls Tryd.prog 9 #[.int .i64 n] w fun e w' => e = .returned (.bool true) ∧ Below w.heap.size w w' := by
  by_cases h : n < 4 ∨ 30 < n
  · exact lists_bad n w hT h
  · obtain ⟨m, rfl⟩ : ∃ m : Nat, n = m := ⟨n.toNat, by omega⟩
    exact lists_good m w hT (by omega) (by omega)
end Go.Proofs.YtdnhfnegnjdeoaaDoor
