/- the reference's permutations: the step; the reference's Hits; RooksCounts: the walk; Heights; RooksStairs: the walk; RooksFactors: the walk -/
import Derived.Test.YtellnklbkjajbaaDoorPv
import Derived.Test.YtellnklbkjajbaaDoorHc
import Derived.Test.YtellnklbkjajbaaDoorCt
import Derived.Test.YtellnklbkjajbaaDoorSo
import Derived.Test.YtellnklbkjajbaaDoorOp
import Derived.Test.YtellnklbkjajbaaDoorGq
namespace Go.Proofs.YtellnklbkjajbaaDoor
open Go.RowKit

theorem u46 : Tryd.prog.underlying 46 = some (.slice 22) := by kernel_rfl
theorem Tryd.info22 : (Tryd.prog.info? 22).map (fun i => (i.zero, i.size, i.bytes)) = some (some (.slice none 0 0), 1, 24) := by kernel_rfl
theorem info_partsS {j : Nat} {z : Value} {s b : Nat} (h : (Tryd.prog.info? j).map (fun i => (i.zero, i.size, i.bytes)) = some (some z, s, b)) : ∃ i, Tryd.prog.info? j = some i ∧ i.zero = some z ∧ i.size = s ∧ i.bytes = b := by
  cases hi : Tryd.prog.info? j with
  | none => rw [hi] at h; cases h
  | some i =>
    rw [hi] at h
    simp only [Option.map_some, Option.some.injEq, Prod.mk.injEq] at h
    exact ⟨i, rfl, h.1, h.2.1, h.2.2⟩
theorem owns_low {w : World} {B C e s n : Nat} {v : Value} {xs : List Value} (h : w.ownsRow B e s v n xs) (hC : C ≤ B) : w.ownsRow C e s v n xs := by
  obtain ⟨h1, h2⟩ := h
  refine ⟨h1, ?_⟩
  rcases h2 with h2 | ⟨g, cap, cur, e1, e2, e3⟩
  · exact .inl h2
  · exact .inr ⟨g, cap, cur, e1, Nat.le_trans hC e2, e3⟩
theorem owns_lit {w : World} {B e s n : Nat} {v : Value} {xs : List Value} (h : w.ownsRow B e s v n xs) (hn : 0 < n) : ∃ g c, v = .slice (some ⟨g, 0, none⟩) n c := by
  obtain ⟨_, h2⟩ := h
  rcases h2 with ⟨_, h2⟩ | ⟨g, cap, cur, e1, _⟩
  · omega
  · exact ⟨g, cap, e1⟩
theorem Bg_snoc {w : World} {B C : Nat} {v : Value} {q : List Nat} {j : Nat} (h : w.ownsRow B 3 1 v (q.length + 1) (ints (nats q) ++ [.int .i64 (j : Nat)])) (hC : C ≤ B) : Bg C w v (q ++ [j]) := by
  have h1 := owns_low h hC
  unfold Bg
  have e1 : (nats (q ++ [j])).length = q.length + 1 := by simp [nats]
  have e2 : ints (nats (q ++ [j])) = ints (nats q) ++ [.int .i64 (j : Nat)] := by simp [nats, ints]
  rw [e1, e2]
  exact h1
theorem grow_below {w w' : World} {o : Obj} (h : ((w.alloc o).drew).grownBy w' none) : Below w.heap.size w w' := ((Below.refl _ w).alloc (Nat.le_refl _) o).grown (grownBy_undrew h) (by simp) fun k e => by cases e

/-- What a call answers. -/
def PermPost (D B : Nat) (ps : List (List Nat)) (w : World) (e : Ending) (w' : World) : Prop := ∃ v' vals, e = .returned v' ∧ w'.ownsRow B 22 1 v' vals.length vals ∧ PV D w' vals ps ∧ Below B w w'


set_option maxRecDepth 100000 in
set_option maxHeartbeats 4000000 in
theorem permuted_step (B0 n m tk : Nat) (q : List Nat) (w : World) (g c : Nat) (hg : Bg B0 w (.slice (some ⟨g, 0, none⟩) q.length c) q) (hB0 : B0 ≤ w.heap.size) (hn : n ≤ 6) (hq : q.length + (m + 1) = n) (htk : tk < 64) (hfl : fl (sub (2 ^ n - 1) tk) = m + 1)
    (IH : ∀ (tk : Nat) (q' : List Nat) (v : Value) (w : World), Bg B0 w v q' → B0 ≤ w.heap.size → q'.length + m = n → tk < 64 → fl (sub (2 ^ n - 1) tk) = m →
      Calls Tryd.prog 80 #[.int .i64 n, .int .i64 tk, v] w (PermPost B0 w.heap.size ((comps (2 ^ n - 1) m tk).map fun p => q' ++ p) w)) :
    Calls Tryd.prog 80 #[.int .i64 n, .int .i64 tk, .slice (some ⟨g, 0, none⟩) q.length c] w (PermPost B0 w.heap.size ((comps (2 ^ n - 1) (m + 1) tk).map fun p => q ++ p) w) := by
  have hne : ((q.length:Int) == (n:Int)) = false := by simp; omega
  have HIH := Lib.hid IH
  have hfull := pw6 n hn
  have HE := Lib.hid (cJ_end hn m tk q)
  have HBg := Lib.hid hg
  obtain ⟨hlc, hg1⟩ : q.length ≤ c ∧ g < w.heap.size := by
    obtain ⟨_, h2⟩ := hg
    rw [nats_length] at h2
    rcases h2 with ⟨e, _⟩ | ⟨g', cap, cur, e, _, e3, e4, _⟩
    · cases e
    · simp only [Value.slice.injEq, Option.some.injEq, Addr.mk.injEq] at e
      obtain ⟨⟨rfl, _⟩, _, rfl⟩ := e
      exact ⟨e4, lt_of_block e3⟩
  have HCell : Hid (∀ j u, (ints (nats q))[j]? = some u → w.cell? ⟨g, j, none⟩ = some u) := Lib.hid fun j u hj => by
    unfold Bg at hg
    rw [nats_length] at hg
    have hlt := (List.getElem?_eq_some_iff.1 hj).1
    rw [ints_length, nats_length] at hlt
    rw [World.ownsRow.cellAt hg j (by omega), hj]
  have hl0 : (0:Int) ≤ (q.length:Int) := by omega
  have hlc' : (q.length:Int) ≤ (c:Int) := by omega
  clear hg
  obtain ⟨i3, hi3, hz0, hz1, hz2⟩ := info_parts Tryd.info3
  obtain ⟨i22, hi22, hy0, hy1, hy2⟩ := info_partsS Tryd.info22
  clear IH
  go_enter Tryd.func80, Tryd.ntmps80
  go_wp2_with fail
  go_loopw [7, 16] (fun s ii wr => ∃ (j : Nat) (vals : List Value), j ≤ n ∧ vals.length ≤ j * 720 ∧ ii = .int .i64 j ∧ wr.ownsRow w.heap.size 22 1 s vals.length vals ∧ PV B0 wr vals (cJ (2 ^ n - 1) m tk q j) ∧ Below w.heap.size w wr) (fun _ ii _ => n - (intOf ii).toNat)
  case atStart => exact ⟨0, [], Nat.zero_le _, Nat.zero_le _, rfl, World.ownsRow_nil _ _ _ _, trivial, Below.refl _ _⟩
  case round =>
    obtain ⟨j, vals, hj, hvl, rfl, hO, hPV, hb⟩ := hrel
    have HO := Lib.hid hO
    have HPV := Lib.hid hPV
    have HB := Lib.hid hb
    obtain ⟨ao', c', rfl⟩ := owns_form hO
    clear hO hPV hb
    have HS := Lib.hid (cJ_succ (2 ^ n - 1) m tk q j)
    by_cases hlt : j < n
    · have hb2 := bit_and1 tk j (by omega)
      have hbt : (sub (2 ^ n - 1) tk).testBit j = !tk.testBit j := by
        rw [sub_bit, Nat.testBit_two_pow_sub_one, decide_eq_true hlt]; rfl
      rw [hbt] at HS
      cases htb : tk.testBit j with
      | true =>
        rw [htb] at hb2 HS
        have hb2' : bits .and .i64 ((tk:Int) / 2 ^ j) 1 = 1 := hb2
        clear hb2 htb hbt
        go_wp2_with fail
        go_roundw
        case rel => exact ⟨j + 1, vals, by omega, by omega, by go_num, HO.out, by rw [HS.out]; exact HPV.out, HB.out⟩
        case measure => simp [intOf]; omega
      | false =>
        rw [htb] at hb2 HS hbt
        have hb2' : bits .and .i64 ((tk:Int) / 2 ^ j) 1 = 0 := hb2
        have hp32 : 2 ^ j ≤ 32 := Nat.pow_le_pow_right (n := 2) (by decide) (show j ≤ 5 by omega)
        have hor : bits .or .i64 (tk:Int) ((2:Int) ^ j) = ((tk ||| 2 ^ j : Nat) : Int) := by rw [← pw_cast]; exact i64_or _ _ (by omega) (by omega)
        have hd3 : IntKind.i64.wrap ((2:Int) ^ j) = (2:Int) ^ j := by have := pw_bd j (by omega); exact i64_of (by omega) (by omega)
        have htk2 : tk ||| 2 ^ j < 64 := Nat.or_lt_two_pow (n := 6) htk (Nat.pow_lt_pow_right (by decide) (by omega))
        have hfl2 : fl (sub (2 ^ n - 1) (tk ||| 2 ^ j)) = m := by
          have := fl_less (s := sub (2 ^ n - 1) tk) (j := j) (by omega) (by rw [hbt]; rfl)
          rw [← sub_or] at this
          omega
        have HLen := Lib.hid (comps_len (2 ^ n - 1) (by omega) m (tk ||| 2 ^ j) hfl2)
        have HCl := Lib.hid (HIH.out (tk ||| 2 ^ j) (q ++ [j]))
        have hB0wr : B0 ≤ wr.heap.size := Nat.le_trans hB0 HB.out.size
        have hB0W : B0 ≤ (wr.alloc (.cells #[.int .i64 (j : Nat)] 3)).drew.heap.size := Nat.le_trans hB0wr (by simp)
        have hf7 : fac m ≤ 720 := fac_le m (by omega)
        have hql : (q ++ [j]).length + m = n := by rw [List.length_append]; simp; omega
        have hnq : nats (q ++ [j]) = nats q ++ [(j:Int)] := by simp [nats]
        clear hb2 htb hbt hp32 HIH HE
        generalize tk ||| 2 ^ j = tk2 at *
        go_wp2_with fail
        go_region_held3 (fun _ => True) (trivial) ((first
          | (go_at_call 80; refine (HCl.out v2 w2 (Bg_snoc hown2 hB0W) (Nat.le_trans hB0wr (grow_below hg2).size) hql htk2 hfl2).mono ?_; rintro e w3 ⟨v3, vals3, rfl, hown3, hPV3, hb3⟩; have hl3 : vals3.length = fac m := (by rw [hPV3.length, List.length_map, HLen.out]); obtain ⟨g3, c3', rfl⟩ := owns_lit hown3 (by have := fac_pos m; omega))
          | (rw [if_pos (by rfl)]; refine wp_append_grows _ _ _ 22 rfl 3 i3 (.int .i64 0) 1 8 Tryd.underlying22 hi3 hz0 hz1 hz2 rfl (by decide) _ _ _ (ints (nats q)) rfl (fun e => by cases e) (by rw [ints_length, nats_length, Nat.mul_one]) (fun b0 hb0 i0 u hu => by (cases hb0; rw [Addr.add_lit, Nat.zero_add]; exact alloc_cell _ (ck (HCell.out _ _ hu) HB.out))) ⟨wr.heap.size, 0, none⟩ 1 1 [.int .i64 (j : Nat)] rfl rfl (newOne _ _ _) (oneInt _) (by omega) (by unfold maxLen; omega) (by omega) ?_; intro v2 w2 hown2 hg2)
          | (rw [if_pos (by rfl)]
             have c1 := owns_below (owns_below HO.out (grow_below hg2) (Nat.le_refl _)) hb3 (Nat.le_refl _)
             have c3 : ∀ k u, vals3[k]? = some u → w3.cell? ((⟨g3, 0, none⟩ : Addr).add k) = some u := (fun k u hu => by (have hlt := (List.getElem?_eq_some_iff.1 hu).1; rw [Addr.add_lit, Nat.zero_add, World.ownsRow.cellAt hown3 k (by omega), hu]))
             refine wp_append_own _ _ _ 46 rfl w.heap.size 22 i22 (.slice none 0 0) 1 24 u46 hi22 hy0 hy1 hy2 rfl (by decide) _ _ _ rfl c1 ⟨g3, 0, none⟩ (fac m) c3' vals3 rfl (by rw [hl3, Nat.mul_one]) c3 (PV.one hPV3) (by unfold maxLen; omega) (by omega) (by have := HB.out.size; have := (grow_below hg2).size; have := hb3.size; omega) ?_
             intro v4 w4 hown4 hg4 _)))
        have hBr3 : Below wr.heap.size wr w3 := (grow_below hg2).trans (hb3.mono (grow_below hg2).size)
        have HPV4 : Hid (PV B0 w4 (vals ++ vals3) (cJ (2 ^ n - 1) m tk q (j + 1))) := Lib.hid (by
          rw [HS.out]
          exact PV.append (PV.imp (fun x p h => Bg.row (Bg.below h hBr3) c1 hg4) HPV.out) (PV.imp (fun x p h => Bg.row h c1 hg4) hPV3))
        have HO4 : Hid (w4.ownsRow w.heap.size 22 1 v4 (vals ++ vals3).length (vals ++ vals3)) := Lib.hid (by rw [List.length_append, hl3]; exact hown4)
        have HB4 : Hid (Below w.heap.size w w4) := Lib.hid ((HB.out.trans (hBr3.mono HB.out.size)).grown hg4 (Nat.le_trans HB.out.size hBr3.size) fun k e => (c1.lt k e).1)
        have hvl4 : (vals ++ vals3).length ≤ (j + 1) * 720 := by rw [List.length_append, hl3]; omega
        clear hBr3 hown4 hg4 hPV3 hown3 hb3 hown2 hg2
        go_wp2_with fail
        go_roundw
        case rel => exact ⟨j + 1, vals ++ vals3, by omega, hvl4, by go_num, HO4.out, HPV4.out, HB4.out⟩
        case measure => simp [intOf]; omega
    · obtain rfl : j = n := by omega
      have HPE : Hid (PV B0 wr vals ((comps (2 ^ j - 1) (m + 1) tk).map fun p => q ++ p)) := Lib.hid (by rw [← HE.out]; exact HPV.out)
      go_wp2_with fail
      go_ret
      exact ⟨_, vals, rfl, HO.out, HPE.out, HB.out⟩

set_option maxRecDepth 100000 in
set_option maxHeartbeats 4000000 in
theorem permuted_nil (B0 n m tk : Nat) (w : World)  (hB0 : B0 ≤ w.heap.size) (hn : n ≤ 6) (hq : m + 1 = n) (htk : tk < 64) (hfl : fl (sub (2 ^ n - 1) tk) = m + 1)
    (IH : ∀ (tk : Nat) (q' : List Nat) (v : Value) (w : World), Bg B0 w v q' → B0 ≤ w.heap.size → q'.length + m = n → tk < 64 → fl (sub (2 ^ n - 1) tk) = m →
      Calls Tryd.prog 80 #[.int .i64 n, .int .i64 tk, v] w (PermPost B0 w.heap.size ((comps (2 ^ n - 1) m tk).map fun p => q' ++ p) w)) :
    Calls Tryd.prog 80 #[.int .i64 n, .int .i64 tk, .slice none 0 0] w (PermPost B0 w.heap.size ((comps (2 ^ n - 1) (m + 1) tk).map fun p => [] ++ p) w) := by
  have hne : ((0:Int) == (n:Int)) = false := beq_eq_false_iff_ne.2 (by omega)
  have HIH := Lib.hid IH
  have hfull := pw6 n hn
  have HE := Lib.hid (cJ_end hn m tk [])
  have hl0 : (0:Int) ≤ 0 := by omega
  obtain ⟨i3, hi3, hz0, hz1, hz2⟩ := info_parts Tryd.info3
  obtain ⟨i22, hi22, hy0, hy1, hy2⟩ := info_partsS Tryd.info22
  clear IH
  go_enter Tryd.func80, Tryd.ntmps80
  go_wp2_with fail
  go_loopw [7, 16] (fun s ii wr => ∃ (j : Nat) (vals : List Value), j ≤ n ∧ vals.length ≤ j * 720 ∧ ii = .int .i64 j ∧ wr.ownsRow w.heap.size 22 1 s vals.length vals ∧ PV B0 wr vals (cJ (2 ^ n - 1) m tk [] j) ∧ Below w.heap.size w wr) (fun _ ii _ => n - (intOf ii).toNat)
  case atStart => exact ⟨0, [], Nat.zero_le _, Nat.zero_le _, rfl, World.ownsRow_nil _ _ _ _, trivial, Below.refl _ _⟩
  case round =>
    obtain ⟨j, vals, hj, hvl, rfl, hO, hPV, hb⟩ := hrel
    have HO := Lib.hid hO
    have HPV := Lib.hid hPV
    have HB := Lib.hid hb
    obtain ⟨ao', c', rfl⟩ := owns_form hO
    clear hO hPV hb
    have HS := Lib.hid (cJ_succ (2 ^ n - 1) m tk [] j)
    by_cases hlt : j < n
    · have hb2 := bit_and1 tk j (by omega)
      have hbt : (sub (2 ^ n - 1) tk).testBit j = !tk.testBit j := by
        rw [sub_bit, Nat.testBit_two_pow_sub_one, decide_eq_true hlt]; rfl
      rw [hbt] at HS
      cases htb : tk.testBit j with
      | true =>
        rw [htb] at hb2 HS
        have hb2' : bits .and .i64 ((tk:Int) / 2 ^ j) 1 = 1 := hb2
        clear hb2 htb hbt
        go_wp2_with fail
        go_roundw
        case rel => exact ⟨j + 1, vals, by omega, by omega, by go_num, HO.out, by rw [HS.out]; exact HPV.out, HB.out⟩
        case measure => simp [intOf]; omega
      | false =>
        rw [htb] at hb2 HS hbt
        have hb2' : bits .and .i64 ((tk:Int) / 2 ^ j) 1 = 0 := hb2
        have hp32 : 2 ^ j ≤ 32 := Nat.pow_le_pow_right (n := 2) (by decide) (show j ≤ 5 by omega)
        have hor : bits .or .i64 (tk:Int) ((2:Int) ^ j) = ((tk ||| 2 ^ j : Nat) : Int) := by rw [← pw_cast]; exact i64_or _ _ (by omega) (by omega)
        have hd3 : IntKind.i64.wrap ((2:Int) ^ j) = (2:Int) ^ j := by have := pw_bd j (by omega); exact i64_of (by omega) (by omega)
        have htk2 : tk ||| 2 ^ j < 64 := Nat.or_lt_two_pow (n := 6) htk (Nat.pow_lt_pow_right (by decide) (by omega))
        have hfl2 : fl (sub (2 ^ n - 1) (tk ||| 2 ^ j)) = m := by
          have := fl_less (s := sub (2 ^ n - 1) tk) (j := j) (by omega) (by rw [hbt]; rfl)
          rw [← sub_or] at this
          omega
        have HLen := Lib.hid (comps_len (2 ^ n - 1) (by omega) m (tk ||| 2 ^ j) hfl2)
        have HCl := Lib.hid (HIH.out (tk ||| 2 ^ j) ([] ++ [j]))
        have hB0wr : B0 ≤ wr.heap.size := Nat.le_trans hB0 HB.out.size
        have hB0W : B0 ≤ (wr.alloc (.cells #[.int .i64 (j : Nat)] 3)).drew.heap.size := Nat.le_trans hB0wr (by simp)
        have hf7 : fac m ≤ 720 := fac_le m (by omega)
        have hql : ([] ++ [j]).length + m = n := by rw [List.length_append]; simp; omega
        have hnq : nats ([] ++ [j]) = nats [] ++ [(j:Int)] := by simp [nats]
        clear hb2 htb hbt hp32 HIH HE
        generalize tk ||| 2 ^ j = tk2 at *
        go_wp2_with fail
        go_region_held3 (fun _ => True) (trivial) ((first
          | (go_at_call 80; refine (HCl.out v2 w2 (Bg_snoc (q := []) hown2 hB0W) (Nat.le_trans hB0wr (grow_below hg2).size) hql htk2 hfl2).mono ?_; rintro e w3 ⟨v3, vals3, rfl, hown3, hPV3, hb3⟩; have hl3 : vals3.length = fac m := (by rw [hPV3.length, List.length_map, HLen.out]); obtain ⟨g3, c3', rfl⟩ := owns_lit hown3 (by have := fac_pos m; omega))
          | (rw [if_pos (by rfl)]; refine wp_append_grows _ _ _ 22 rfl 3 i3 (.int .i64 0) 1 8 Tryd.underlying22 hi3 hz0 hz1 hz2 rfl (by decide) _ _ _ (ints (nats [])) rfl (fun _ => ⟨rfl, rfl⟩) (by simp [ints, nats]) (fun b0 hb0 => by cases hb0) ⟨wr.heap.size, 0, none⟩ 1 1 [.int .i64 (j : Nat)] rfl rfl (newOne _ _ _) (oneInt _) (by omega) (by unfold maxLen; omega) (by omega) ?_; intro v2 w2 hown2 hg2)
          | (rw [if_pos (by rfl)]
             have c1 := owns_below (owns_below HO.out (grow_below hg2) (Nat.le_refl _)) hb3 (Nat.le_refl _)
             have c3 : ∀ k u, vals3[k]? = some u → w3.cell? ((⟨g3, 0, none⟩ : Addr).add k) = some u := (fun k u hu => by (have hlt := (List.getElem?_eq_some_iff.1 hu).1; rw [Addr.add_lit, Nat.zero_add, World.ownsRow.cellAt hown3 k (by omega), hu]))
             refine wp_append_own _ _ _ 46 rfl w.heap.size 22 i22 (.slice none 0 0) 1 24 u46 hi22 hy0 hy1 hy2 rfl (by decide) _ _ _ rfl c1 ⟨g3, 0, none⟩ (fac m) c3' vals3 rfl (by rw [hl3, Nat.mul_one]) c3 (PV.one hPV3) (by unfold maxLen; omega) (by omega) (by have := HB.out.size; have := (grow_below hg2).size; have := hb3.size; omega) ?_
             intro v4 w4 hown4 hg4 _)))
        have hBr3 : Below wr.heap.size wr w3 := (grow_below hg2).trans (hb3.mono (grow_below hg2).size)
        have HPV4 : Hid (PV B0 w4 (vals ++ vals3) (cJ (2 ^ n - 1) m tk [] (j + 1))) := Lib.hid (by
          rw [HS.out]
          exact PV.append (PV.imp (fun x p h => Bg.row (Bg.below h hBr3) c1 hg4) HPV.out) (PV.imp (fun x p h => Bg.row h c1 hg4) hPV3))
        have HO4 : Hid (w4.ownsRow w.heap.size 22 1 v4 (vals ++ vals3).length (vals ++ vals3)) := Lib.hid (by rw [List.length_append, hl3]; exact hown4)
        have HB4 : Hid (Below w.heap.size w w4) := Lib.hid ((HB.out.trans (hBr3.mono HB.out.size)).grown hg4 (Nat.le_trans HB.out.size hBr3.size) fun k e => (c1.lt k e).1)
        have hvl4 : (vals ++ vals3).length ≤ (j + 1) * 720 := by rw [List.length_append, hl3]; omega
        clear hBr3 hown4 hg4 hPV3 hown3 hb3 hown2 hg2
        go_wp2_with fail
        go_roundw
        case rel => exact ⟨j + 1, vals ++ vals3, by omega, hvl4, by go_num, HO4.out, HPV4.out, HB4.out⟩
        case measure => simp [intOf]; omega
    · obtain rfl : j = n := by omega
      have HPE : Hid (PV B0 wr vals ((comps (2 ^ j - 1) (m + 1) tk).map fun p => [] ++ p)) := Lib.hid (by rw [← HE.out]; exact HPV.out)
      go_wp2_with fail
      go_ret
      exact ⟨_, vals, rfl, HO.out, HPE.out, HB.out⟩

theorem permuted_any (B0 n : Nat) (hn : n ≤ 6) : ∀ (m tk : Nat) (q : List Nat) (v : Value) (w : World), Bg B0 w v q → B0 ≤ w.heap.size → q.length + m = n → tk < 64 → fl (sub (2 ^ n - 1) tk) = m →
    Calls Tryd.prog 80 #[.int .i64 n, .int .i64 tk, v] w (PermPost B0 w.heap.size ((comps (2 ^ n - 1) m tk).map fun p => q ++ p) w) := by
  intro m
  induction m with
  | zero =>
    intro tk q v w hB _ hq _ _
    obtain ⟨ao, c, rfl⟩ := owns_form hB
    have hl : (nats q).length = n := by rw [nats_length]; omega
    have HO : Hid ((w.alloc (.cells #[.slice ao n c] 22)).ownsRow w.heap.size 22 1 (.slice (some ⟨w.heap.size, 0, none⟩) 1 1) 1 [.slice ao n c]) := Lib.hid (World.ownsRow_lit (size := 1) w #[.slice ao n c] 1 (Nat.le_refl _) (by unfold maxLen; omega) rfl)
    have HB' : Hid (Bg B0 (w.alloc (.cells #[.slice ao n c] 22)) (.slice ao n c) q) := Lib.hid (by rw [hl] at hB; exact Bg.below hB ((Below.refl _ _).alloc (Nat.le_refl _) _))
    rw [hl]
    clear hB
    go_enter Tryd.func80, Tryd.ntmps80
    go_wp2_with fail
    go_ret
    exact ⟨_, [.slice ao n c], rfl, HO.out, by simp only [comps, List.map_cons, List.map_nil, List.append_nil]; exact ⟨HB'.out, trivial⟩, (Below.refl _ _).alloc (Nat.le_refl _) _⟩
  | succ m ih =>
    intro tk q v w hB hB0 hq htk hfl
    have ih' := fun tk' q' v' w' => ih tk' q' v' w'
    cases q with
    | nil =>
      have hv : v = .slice none 0 0 ∨ ∃ g c, v = .slice (some ⟨g, 0, none⟩) ([] : List Nat).length c := by
        obtain ⟨_, h2⟩ := hB
        rcases h2 with ⟨rfl, _⟩ | ⟨g, cap, cur, rfl, _⟩
        · exact .inl rfl
        · exact .inr ⟨g, cap, rfl⟩
      rcases hv with rfl | ⟨g, c, rfl⟩
      · exact permuted_nil B0 n m tk w hB0 hn (by simpa using hq) htk hfl ih'
      · exact permuted_step B0 n m tk [] w g c hB hB0 hn hq htk hfl ih'
    | cons a q =>
      obtain ⟨g, c, rfl⟩ := owns_lit hB (by simp [nats])
      rw [nats_length] at *
      exact permuted_step B0 n m tk (a :: q) w g c hB hB0 hn hq htk hfl ih'

set_option maxHeartbeats 400000 in
theorem rperms_any (n : Nat) (w : World) (hn : n ≤ 6) :
    Calls Tryd.prog 56 #[.int .i64 n] w (PermPost w.heap.size w.heap.size (allP n) w) := by
  have HC := Lib.hid (permuted_any w.heap.size n hn n 0 [] (.slice none 0 0) w (World.ownsRow_nil _ _ _ _) (Nat.le_refl _) (by simp) (by decide) (by
    have : sub (2 ^ n - 1) 0 = 2 ^ n - 1 := Nat.eq_of_testBit_eq fun j => by rw [sub_bit]; simp
    rw [this, fl_full n hn]))
  have e : ((comps (2 ^ n - 1) n 0).map fun p => [] ++ p) = allP n := by rw [allP_comps]; simp
  rw [e] at HC
  generalize allP n = ps at *
  go_enter Tryd.func56, Tryd.ntmps56
  go_wp2_with fail
  refine HC.out.mono ?_
  rintro e w2 ⟨v, vals, rfl, hO, hP, hb⟩
  have HO := Lib.hid hO
  have HP := Lib.hid hP
  have HB := Lib.hid hb
  clear hO hP hb HC
  go_wp2
  go_ret
  exact ⟨_, _, rfl, HO.out, HP.out, HB.out⟩

end Go.Proofs.YtellnklbkjajbaaDoor

namespace Go.Proofs.YtellnklbkjajbaaDoor
open Go.RowKit

theorem PV.get {B : Nat} {w : World} : ∀ {xs : List Value} {ps : List (List Nat)} {k : Nat} {x : Value}, PV B w xs ps → xs[k]? = some x → ∃ p, ps[k]? = some p ∧ Bg B w x p
  | [], [], k, x, _, h => by simp at h
  | y :: xs, p :: ps, 0, x, h1, h => ⟨p, rfl, by simp at h; subst h; exact h1.1⟩
  | y :: xs, p :: ps, k + 1, x, h1, h => by
    have := PV.get (k := k) h1.2 (by simpa using h)
    simpa using this
  | [], _ :: _, _, _, h1, _ => h1.elim
  | _ :: _, [], _, _, h1, _ => h1.elim
theorem Bg.modA {B A : Nat} {w w' : World} {x : Value} {p : List Nat} (h : Bg B w x p) (hA : A < B) (hm : Mod (· = A) w w') : Bg B w' x p := by
  obtain ⟨h1, h2⟩ := h
  refine ⟨h1, ?_⟩
  rcases h2 with h2 | ⟨g, cap, cur, e1, e2, e3, e4⟩
  · exact .inl h2
  · exact .inr ⟨g, cap, cur, e1, e2, (hm.block g (lt_of_block e3) (by omega)).trans e3, e4⟩

set_option maxHeartbeats 400000 in
theorem rhits_any (v v' : Value) (bs p : List Nat) (n : Nat) (w : World) (hb : Brd n bs) (h : Nats w v bs) (h' : Nats w v' p) (hp : p.length = n) (hp6 : ∀ x ∈ p, x < 6) :
    Calls Tryd.prog 57 #[v, v'] w fun e w' => e = .returned (.int .i64 (hitK bs p n : Nat)) ∧ w = w' := by
  obtain ⟨ao, cap, rfl, h1, _, hx⟩ := h.open
  obtain ⟨ao', cap', rfl, h1', _, hx'⟩ := h'.open
  have hl := hb.len
  have hn6 := hb.le
  have HX := Lib.hid hx
  have HX' := Lib.hid hx'
  have HG := Lib.hid (fun k => Nat.lt_of_lt_of_le (hb.get k) (pw6 n hn6).2)
  have HP : Hid (∀ k, k < n → p.getD k 0 < 6) := Lib.hid fun k hk => hp6 _ (natD_mem (by omega))
  rw [hp] at h1' HX' ⊢
  rw [hl] at h1 HX ⊢
  clear h h' hx hx' hb
  go_enter Tryd.func57, Tryd.ntmps57
  go_wp2_with fail
  go_loop [5, 10] (fun s ii => ∃ k : Nat, k ≤ n ∧ ii = .int .i64 k ∧ s = .int .i64 (hitK bs p k : Nat)) (fun _ ii => n - (intOf ii).toNat)
  case atStart => exact ⟨0, Nat.zero_le _, rfl, rfl⟩
  case round =>
    obtain ⟨k, hk, rfl, rfl⟩ := hrel
    by_cases hlt : k < n
    · obtain ⟨b, o, rfl, hcb⟩ := HX.out k hlt
      obtain ⟨b', o', rfl, hcp⟩ := HX'.out k hlt
      have hle := hitK_le bs p k
      have hj := HP.out k hlt
      have hr := HG.out k
      have hbit := bit_and1 (bs.getD k 0) (p.getD k 0) (by omega)
      have HK : Hid (hitK bs p (k + 1) = hitK bs p k + (if (bs.getD k 0).testBit (p.getD k 0) then 1 else 0)) := rfl
      have hj0 : (0:Int) ≤ (p.getD k 0 : Nat) := by omega
      generalize hitK bs p k = h at *
      generalize bs.getD k 0 = r at *
      generalize p.getD k 0 = j at *
      cases hb : r.testBit j with
      | true =>
        rw [hb] at hbit HK
        have hbit' : bits .and .i64 ((r:Int) / 2 ^ j) 1 = 1 := hbit
        clear hbit hb
        go_wp2_with fail
        go_round
        case rel => exact ⟨k + 1, by omega, by go_num, by rw [HK.out]; simp⟩
        case measure => simp [intOf]; omega
      | false =>
        rw [hb] at hbit HK
        have hbit' : bits .and .i64 ((r:Int) / 2 ^ j) 1 = 0 := hbit
        clear hbit hb
        go_wp2_with fail
        go_round
        case rel => exact ⟨k + 1, by omega, by go_num, by rw [HK.out]; simp⟩
        case measure => simp [intOf]; omega
    · obtain rfl : k = n := by omega
      go_wp2
      go_ret
      exact ⟨rfl, rfl⟩

set_option maxHeartbeats 1000000 in
theorem rHits_any (v : Value) (bs : List Nat) (n : Nat) (w : World) (hb : Brd n bs) (h : Nats w v bs) :
    Calls Tryd.prog 22 #[v] w fun e w' => ∃ A, e = .returned (.slice (some ⟨A, 0, none⟩) (n + 1) (n + 1)) ∧ w.heap.size ≤ A ∧ IBlk w' A (hitsL bs) ∧ Below w.heap.size w w' := by
  have h0 := h
  obtain ⟨ao, cap, rfl, h1, _, _⟩ := h.open
  have hl := hb.len
  have hn6 := hb.le
  rw [hl] at h1 h0 ⊢
  have hmk : ∀ W : World, (Instr.makeSlice 22 (.int .i64 ((n:Int) + 1)) (.int .i64 ((n:Int) + 1))).run Tryd.prog W = .ok (.slice (some ⟨W.heap.size, 0, none⟩) (n + 1) (n + 1)) (W.alloc (.cells (ints (List.replicate (n + 1) 0)).toArray 3)) :=
    run_make22 (n + 1) (n + 1) (Nat.le_refl _) (by omega)
  have hI0 : IBlk (w.alloc (.cells (ints (List.replicate (n + 1) 0)).toArray 3)) w.heap.size (List.replicate (n + 1) 0) := heap_alloc_new w _
  have hB0 : Below w.heap.size w (w.alloc (.cells (ints (List.replicate (n + 1) 0)).toArray 3)) := (Below.refl _ _).alloc (Nat.le_refl _) _
  have hs0 : (w.alloc (.cells (ints (List.replicate (n + 1) 0)).toArray 3)).heap.size = w.heap.size + 1 := World.size_alloc _ _
  have HC := Lib.hid (rperms_any n (w.alloc (.cells (ints (List.replicate (n + 1) 0)).toArray 3)) hn6)
  have hlenP : (allP n).length = fac n := by
    rw [allP_comps, comps_len (2 ^ n - 1) (by have := pw6 n hn6; omega) n 0 (by
      have : sub (2 ^ n - 1) 0 = 2 ^ n - 1 := Nat.eq_of_testBit_eq fun j => by rw [sub_bit]; simp
      rw [this, fl_full n hn6])]
  have HPos : Hid (0 < (allP n).length) := Lib.hid (by rw [hlenP]; exact fac_pos n)
  have hps : (allP n).length ≤ 720 := by rw [hlenP]; exact fac_le n hn6
  clear hlenP
  have HI0 := Lib.hid hI0
  have HB0 := Lib.hid hB0
  have HNs := Lib.hid h0
  clear h h0 hI0 hB0
  go_enter Tryd.func22, Tryd.ntmps22
  go_wp2_with fail
  refine HC.out.mono ?_
  rintro e w2 ⟨v2, vals, rfl, hO, hP, hb2⟩
  obtain ⟨g2, c2, rfl⟩ := owns_lit hO (by rw [hP.length]; exact HPos.out)
  rw [hs0] at hO hb2 hP
  have hg2 : w.heap.size + 1 ≤ g2 := (World.ownsRow.lt hO g2 rfl).1
  have hg2' : g2 < w2.heap.size := (World.ownsRow.lt hO g2 rfl).2
  have hvl : vals.length = (allP n).length := hP.length
  have hAll : ∀ p ∈ allP n, p.length = n ∧ ∀ j ∈ p, j < n := fun p hp => by
    rw [allP_comps] at hp
    exact ⟨comps_length _ _ _ _ hp, fun j hj => by
      have := comps_bit _ _ _ _ hp j hj
      rw [Nat.testBit_two_pow_sub_one] at this
      exact of_decide_eq_true this⟩
  have HAll := Lib.hid hAll
  have HE : Hid (((allP n).take (allP n).length).foldl (hit1 bs) (List.replicate (n + 1) 0) = hitsL bs) := Lib.hid (by rw [List.take_length]; unfold hitsL; rw [hl])
  have hI2 : IBlk w2 w.heap.size (List.replicate (n + 1) 0) := HI0.out.mod (hb2.block w.heap.size (by omega))
  have HI2 := Lib.hid hI2
  have hw0 : Below w.heap.size w w2 := HB0.out.trans (hb2.mono (by omega))
  have HW := Lib.hid hw0
  have HO := Lib.hid hO
  have HPV := Lib.hid hP
  have HL := Lib.hid hl
  have HBd := Lib.hid hb
  clear hO hP hb2 HC hmk hAll hI2 hw0 HI0 HB0 HPos hs0 hb
  generalize allP n = ps at *
  go_wp2_with fail
  go_loopw [14] (fun ii wr => ∃ k : Nat, k ≤ ps.length ∧ ii = .int .i64 k ∧ IBlk wr w.heap.size ((ps.take k).foldl (hit1 bs) (List.replicate (n + 1) 0)) ∧ Mod (· = w.heap.size) w2 wr) (fun ii _ => ps.length - (intOf ii).toNat)
  case atStart => exact ⟨0, Nat.zero_le _, rfl, HI2.out, Mod.refl _ _⟩
  case round =>
    obtain ⟨k, hk, rfl, hI, hM⟩ := hrel
    have hBw : Below w.heap.size w wr := ⟨hM.os.trans HW.out.os, hM.tape.trans HW.out.tape, hM.output.trans HW.out.output, Nat.le_trans HW.out.size hM.size, fun j hj => (hM.block j (Nat.lt_of_lt_of_le hj HW.out.size) (by omega)).trans (HW.out.block j hj)⟩
    by_cases hlt : k < ps.length
    · obtain ⟨x, hx⟩ : ∃ x, vals[k]? = some x := ⟨vals[k]'(by omega), List.getElem?_eq_getElem (by omega)⟩
      obtain ⟨p, hp, hBg⟩ := PV.get HPV.out hx
      have hcx : w2.cell? ⟨g2, k, none⟩ = some x := by rw [World.ownsRow.cellAt HO.out k (by omega), hx]
      have hcx' := mod_cell hM (a := ⟨g2, k, none⟩) (show g2 ≠ w.heap.size by omega) hcx
      have hBgr := Bg.modA hBg (by omega) hM
      obtain ⟨hpl, hpj⟩ := HAll.out p (List.mem_of_getElem? hp)
      have hNp := Bg.ints hBgr (by omega) (fun j hj => by have := hpj j hj; omega)
      have HC := Lib.hid (rhits_any _ x bs p n wr HBd.out (HNs.out.below hBw (Nat.le_refl _)) hNp hpl (fun j hj => by have := hpj j hj; omega))
      have hle := hitK_le bs p n
      obtain ⟨hc, hf⟩ := hI.cell (k := hitK bs p n) (by rw [foldl_length _ (hit1_length bs), List.length_replicate]; omega)
      have HS := Lib.hid (hI.set (hitK bs p n) (wrap64 (((ps.take k).foldl (hit1 bs) (List.replicate (n + 1) 0)).getD (hitK bs p n) 0 + 1)))
      have HF : Hid ((ps.take (k + 1)).foldl (hit1 bs) (List.replicate (n + 1) 0) = ((ps.take k).foldl (hit1 bs) (List.replicate (n + 1) 0)).set (hitK bs p n) (wrap64 (((ps.take k).foldl (hit1 bs) (List.replicate (n + 1) 0)).getD (hitK bs p n) 0 + 1))) := Lib.hid (by
        rw [List.take_add_one, hp, List.foldl_append, ← HL.out]; rfl)
      obtain ⟨ao1, c1, rfl⟩ := owns_form hBgr
      have HM := Lib.hid hM
      have hh0 : (0:Int) ≤ (hitK bs p n : Nat) := by omega
      have hh1 : ((hitK bs p n : Nat) : Int) < (n:Int) + 1 := by omega
      clear hcx hBg hBgr hNp hI hM hpj hx hp hBw
      generalize ((ps.take k).foldl (hit1 bs) (List.replicate (n + 1) 0)) = ws at *
      generalize ws.getD (hitK bs p n) 0 = u at *
      generalize hitK bs p n = h at *
      go_wp2_with fail
      refine HC.out.mono ?_
      rintro e w' ⟨rfl, rfl⟩
      go_wp2_with fail
      go_roundw
      case rel => exact ⟨k + 1, by omega, by go_num, by rw [HF.out]; exact HS.out, HM.out.setCell (.inl rfl) _⟩
      case measure => simp [intOf]; omega
    · obtain rfl : k = ps.length := by omega
      rw [HE.out] at hI
      have HIe := Lib.hid hI
      have HBe := Lib.hid hBw
      clear hI hBw hM
      go_wp2_with fail
      go_ret
      exact ⟨_, rfl, Nat.le_refl _, HIe.out, HBe.out⟩
end Go.Proofs.YtellnklbkjajbaaDoor

namespace Go.Proofs.YtellnklbkjajbaaDoor
open Go.RowKit

theorem equal_self (v v' : Value) (xs : List Int) (w : World) (h : Ints w v xs) (h' : Ints w v' xs) :
    Calls Tryd.prog 20 #[v, v'] w fun e w' => e = .returned (.bool true) ∧ Below w.heap.size w w' := by
  have := equal_any v v' xs xs w h h'
  rwa [eqB_refl] at this
theorem rRooks_val (v : Value) (bs : List Nat) (n : Nat) (w : World) (hb : Brd n bs) (h : Nats w v bs) :
    Calls Tryd.prog 21 #[v] w fun e w' => ∃ v', e = .returned v' ∧ Ints w' v' (rookL bs) ∧ Below w.heap.size w w' :=
  (rRooks_any v bs n w hb h).mono fun _ _ ⟨A, he, _, hI, hb'⟩ => ⟨_, he, by
    have := hI.ints (by rw [rookL_length, hb.len]; have := hb.le; omega) (rookL_I64 bs)
    rwa [rookL_length, hb.len] at this, hb'⟩
theorem rHits_val (v : Value) (bs : List Nat) (n : Nat) (w : World) (hb : Brd n bs) (h : Nats w v bs) :
    Calls Tryd.prog 22 #[v] w fun e w' => ∃ v', e = .returned v' ∧ Ints w' v' (hitsL bs) ∧ Below w.heap.size w w' :=
  (rHits_any v bs n w hb h).mono fun _ _ ⟨A, he, _, hI, hb'⟩ => ⟨_, he, by
    have := hI.ints (by rw [hitsL_length, hb.len]; have := hb.le; omega) (hitsL_I64 bs)
    rwa [hitsL_length, hb.len] at this, hb'⟩

set_option maxHeartbeats 4000000 in
set_option maxRecDepth 100000 in
theorem rooksCounts_law (v : Value) (xs : List Int) (w : World) (h : Ints w v xs) (hT : Tab w) :
    Calls Tryd.prog 3 #[v] w fun e w' => e = .returned (.bool true) ∧ Below w.heap.size w w' := by
  have HL := Lib.hid (fun w' (hb : Below w.heap.size w w') => list_any v xs w' (h.below hb (Nat.le_refl _)))
  have HM := Lib.hid (fun w' (hb : Below w.heap.size w w') => Board_any v xs w' (h.below hb (Nat.le_refl _)))
  have HTab := Lib.hid (fun w' (hb : Below w.heap.size w w') => tab_block hT (hb.block 1 (tab_lt hT)))
  have HAw := Lib.hid (fun w' (hb : Below w.heap.size w w') => awake_any w' (HTab.out w' hb))
  cases hs : boardB xs with
  | false =>
    have HRk := Lib.hid (fun v' w' (h' : Ints w' v' (xs.take 9)) => Rooks_bad v' (xs.take 9) w' (by rw [boardB_take, hs]) h')
    have HHt := Lib.hid (fun v' w' (h' : Ints w' v' (xs.take 9)) => Hits_bad v' (xs.take 9) w' (by rw [boardB_take, hs]) h')
    rw [hs] at HM
    clear hs h hT
    have HB0 := Lib.hid (Below.refl w.heap.size w)
    go_enter Tryd.func3, Tryd.ntmps3
    go_wp2_with fail
    refine (HL.out w HB0.out).mono ?_
    rintro e w1 ⟨v1, rfl, hv1, hb1⟩
    have HB1 := Lib.hid (HB0.out.trans (hb1.mono HB0.out.size))
    have A_1 := Lib.hid (hv1)
    clear hb1 hv1
    go_wp2_with fail
    refine (HRk.out v1 w1 A_1.out).mono ?_
    rintro e w' ⟨rfl, rfl⟩
    clear A_1
    go_wp2_with fail
    refine (HL.out w1 HB1.out).mono ?_
    rintro e w2 ⟨v2, rfl, hv2, hb2⟩
    have HB2 := Lib.hid (HB1.out.trans (hb2.mono HB1.out.size))
    have A_2 := Lib.hid (hv2)
    clear hb2 hv2
    go_wp2_with fail
    refine (HHt.out v2 w2 A_2.out).mono ?_
    rintro e w3 ⟨rfl, hb3⟩
    have HB3 := Lib.hid (HB2.out.trans (hb3.mono HB2.out.size))
    have A_3 := Lib.hid (A_2.out.below hb3 (Nat.le_refl _))
    clear hb3
    clear A_3
    go_wp2_with fail
    refine (HM.out w3 HB3.out).mono ?_
    rintro e w' ⟨rfl, rfl⟩
    go_wp2_with fail
    refine (HAw.out w3 HB3.out).mono ?_
    rintro e w4 ⟨rfl, hb4⟩
    have HB4 := Lib.hid (HB3.out.trans (hb4.mono HB3.out.size))
    clear hb4
    go_wp2
    go_ret
    exact ⟨rfl, HB4.out⟩
  | true =>
    obtain ⟨bs, rfl, hb⟩ := boardB_of hs
    rw [nats_length] at hb
    obtain ⟨n, hn⟩ : ∃ n, n = bs.length := ⟨_, rfl⟩
    rw [← hn] at hb
    have hn6 := hb.le
    have ht : (nats bs).take 9 = nats bs := List.take_of_length_le (by rw [nats_length]; omega)
    rw [ht] at HL
    rw [hs] at HM
    have HRk := Lib.hid (fun v' w' (h' : Nats w' v' bs) (hT' : Tab w') => Rooks_val v' bs n w' hb h' hT')
    have HHt := Lib.hid (fun v' w' (h' : Nats w' v' bs) (hT' : Tab w') => Hits_val v' bs n w' hb h' hT')
    have HRr := Lib.hid (fun w' (hb' : Below w.heap.size w w') => rRooks_val v bs n w' hb (h.below hb' (Nat.le_refl _)))
    have HRh := Lib.hid (fun w' (hb' : Below w.heap.size w w') => rHits_val v bs n w' hb (h.below hb' (Nat.le_refl _)))
    have HEq := Lib.hid (fun v v' xs w h h' => equal_self v v' xs w h h')
    generalize rookL bs = rs at *
    generalize hitsL bs = ys at *
    clear hs h hb ht hT hn
    have HB0 := Lib.hid (Below.refl w.heap.size w)
    go_enter Tryd.func3, Tryd.ntmps3
    go_wp2_with fail
    refine (HL.out w HB0.out).mono ?_
    rintro e w1 ⟨v1, rfl, hv1, hb1⟩
    have HB1 := Lib.hid (HB0.out.trans (hb1.mono HB0.out.size))
    have A_1 := Lib.hid (hv1)
    clear hb1 hv1
    go_wp2_with fail
    refine (HRk.out v1 w1 A_1.out (HTab.out w1 HB1.out)).mono ?_
    rintro e w2 ⟨v2, rfl, hv2, hb2⟩
    have HB2 := Lib.hid (HB1.out.trans (hb2.mono HB1.out.size))
    have A_2 := Lib.hid (A_1.out.below hb2 (Nat.le_refl _))
    have X_2 := Lib.hid (hv2)
    clear hb2 hv2
    clear A_2
    go_wp2_with fail
    refine (HL.out w2 HB2.out).mono ?_
    rintro e w3 ⟨v3, rfl, hv3, hb3⟩
    have HB3 := Lib.hid (HB2.out.trans (hb3.mono HB2.out.size))
    have X_3 := Lib.hid (X_2.out.below hb3 (Nat.le_refl _))
    have A_3 := Lib.hid (hv3)
    clear hb3 hv3
    go_wp2_with fail
    refine (HHt.out v3 w3 A_3.out (HTab.out w3 HB3.out)).mono ?_
    rintro e w4 ⟨v4, rfl, hv4, hb4⟩
    have HB4 := Lib.hid (HB3.out.trans (hb4.mono HB3.out.size))
    have X_4 := Lib.hid (X_3.out.below hb4 (Nat.le_refl _))
    have A_4 := Lib.hid (A_3.out.below hb4 (Nat.le_refl _))
    have Y_4 := Lib.hid (hv4)
    clear hb4 hv4
    clear A_4
    go_wp2_with fail
    refine (HM.out w4 HB4.out).mono ?_
    rintro e w' ⟨rfl, rfl⟩
    go_wp2_with fail
    refine (HRr.out w4 HB4.out).mono ?_
    rintro e w5 ⟨v5, rfl, hv5, hb5⟩
    have HB5 := Lib.hid (HB4.out.trans (hb5.mono HB4.out.size))
    have X_5 := Lib.hid (X_4.out.below hb5 (Nat.le_refl _))
    have Y_5 := Lib.hid (Y_4.out.below hb5 (Nat.le_refl _))
    have U_5 := Lib.hid (hv5)
    clear hb5 hv5
    go_wp2_with fail
    refine (HEq.out _ _ _ w5 X_5.out U_5.out).mono ?_
    rintro e w6 ⟨rfl, hb6⟩
    have HB6 := Lib.hid (HB5.out.trans (hb6.mono HB5.out.size))
    have X_6 := Lib.hid (X_5.out.below hb6 (Nat.le_refl _))
    have Y_6 := Lib.hid (Y_5.out.below hb6 (Nat.le_refl _))
    have U_6 := Lib.hid (U_5.out.below hb6 (Nat.le_refl _))
    clear hb6
    clear U_6
    clear X_6
    go_wp2_with fail
    refine (HRh.out w6 HB6.out).mono ?_
    rintro e w7 ⟨v7, rfl, hv7, hb7⟩
    have HB7 := Lib.hid (HB6.out.trans (hb7.mono HB6.out.size))
    have Y_7 := Lib.hid (Y_6.out.below hb7 (Nat.le_refl _))
    have V_7 := Lib.hid (hv7)
    clear hb7 hv7
    go_wp2_with fail
    refine (HEq.out _ _ _ w7 Y_7.out V_7.out).mono ?_
    rintro e w8 ⟨rfl, hb8⟩
    have HB8 := Lib.hid (HB7.out.trans (hb8.mono HB7.out.size))
    have Y_8 := Lib.hid (Y_7.out.below hb8 (Nat.le_refl _))
    have V_8 := Lib.hid (V_7.out.below hb8 (Nat.le_refl _))
    clear hb8
    clear V_8
    clear Y_8
    go_wp2_with fail
    refine (HAw.out w8 HB8.out).mono ?_
    rintro e w9 ⟨rfl, hb9⟩
    have HB9 := Lib.hid (HB8.out.trans (hb9.mono HB8.out.size))
    clear hb9
    go_wp2
    go_ret
    exact ⟨rfl, HB9.out⟩
end Go.Proofs.YtellnklbkjajbaaDoor

namespace Go.Proofs.YtellnklbkjajbaaDoor
open Go.RowKit Go.Proofs

def fin64 (bs : List Nat) : List (Fin 64) := bs.map fun r => ⟨r % 64, Nat.mod_lt _ (by decide)⟩
theorem fin64_val {bs : List Nat} (h : ∀ r ∈ bs, r < 64) : (fin64 bs).map (·.val) = bs := by
  unfold fin64
  rw [List.map_map]
  conv => rhs; rw [← List.map_id bs]
  refine List.map_congr_left fun r hr => ?_
  show r % 64 = r
  exact Nat.mod_eq_of_lt (h r hr)

/-- Rows in a block, sorted by their sizes, not frozen or else: what SortFunc leaves. -/
theorem sortF_any (B g cap : Nat) (bs : List Nat) (w : World) (h64 : ∀ r ∈ bs, r < 64) (hl : bs.length ≤ 6) (ho : w.ownsRow B 3 1 (.slice (some ⟨g, 0, none⟩) bs.length cap) bs.length (ints (nats bs))) (hB : B ≤ w.heap.size) :
    Calls Tryd.prog 66 #[.slice (some ⟨g, 0, none⟩) bs.length cap, .func (.func 67) #[] #[]] w fun e w' => e = .returned (.tuple #[]) ∧ ∃ rs : List Nat, rs.Perm bs ∧ (∀ i, i + 1 < rs.length → fl (rs.getD i 0) ≤ fl (rs.getD (i + 1) 0)) ∧
      (∀ k, k < bs.length → w'.cell? ⟨g, k, none⟩ = some (.int .i64 (rs.getD k 0 : Nat))) ∧ Below B w w' := by
  obtain ⟨hgB, hgw⟩ := ho.lt g rfl
  have hcell : ∀ k, k < bs.length → w.cell? ⟨g, k, none⟩ = some (.int .i64 (bs.getD k 0 : Nat)) := fun k hk => by
    rw [ho.cellAt k (by omega)]
    simp [ints, nats, hk]
  have hfz : ∀ k, w.frozen? ⟨g, k, none⟩ = false := fun k => by
    rcases ho.2 with ⟨h, _⟩ | ⟨g', cap', cur, h, _, hh, _⟩
    · cases h
    · simp only [Value.slice.injEq, Option.some.injEq, Addr.mk.injEq, and_true, true_and] at h
      obtain ⟨rfl, rfl⟩ := h
      simp [World.frozen?, hh]
  have hd : (fin64 bs).toArray.size = bs.length := by simp [fin64]
  have hget : ∀ (d : Array (Fin 64)) (k : Nat), k < d.size → ((d.toList.map (·.val)).getD k 0) = d[k]!.val := fun d k hk => by
    rw [getElem!_pos d k hk]
    simp [hk]
  have hH : Go.Sort.Holds enc64 w g 0 (fin64 bs).toArray := fun j hj => by
    refine ⟨?_, hfz _⟩
    rw [Nat.zero_add, hcell j (by rw [← hd]; exact hj)]
    unfold enc64
    rw [← hget _ j hj]
    simp [fin64_val h64]
  have hc := Any.slices_SortFunc laysSlF6_f66 enc64 (fun _ => rfl) cf64 swo64 67 #[] g 0 cap (fin64 bs).toArray w (enters_of Tryd.func67 (by kernel_rfl) rfl)
    (CmpReads.lays fun m os dk hs x y => (closure67 x y _).mono fun _ _ ⟨he, hw⟩ => ⟨he, 0, hw.symm⟩) hH hgw (by rw [hd]; omega)
  rw [hd] at hc
  refine hc.mono fun e w' ⟨he, d', n, os, hp, hs, hw⟩ => ⟨he, ?_⟩
  have hds : d'.size = bs.length := hp.1.trans hd
  have hperm : (d'.toList.map (·.val)).Perm bs := by
    have h3 := hp.2.2
    have e1 : (d'.extract 0 bs.length) = d' := by rw [← hds]; simp
    have e2 : ((fin64 bs).toArray.extract 0 bs.length) = (fin64 bs).toArray := by rw [← hd]; simp
    rw [e1, e2] at h3
    have := h3.map (·.val)
    rwa [show ((fin64 bs).toArray.toList.map (·.val)) = bs from by simp [fin64_val h64]] at this
  have hHs := Go.Proofs.holds_sortWorld enc64 w g 0 n (fin64 bs).toArray d' os hgw hH (by rw [hds, hd])
  refine ⟨d'.toList.map (·.val), hperm, fun i hi => ?_, fun k hk => ?_, ?_⟩
  · have hi' : i + 1 < d'.size := by simpa using hi
    rw [hget d' i (by omega), hget d' (i + 1) hi']
    have := hs i (i + 1) (Nat.zero_le _) (Nat.lt_succ_self _) (by omega)
    rw [lt64] at this
    have := of_decide_eq_false this
    omega
  · have := (hHs k (by omega)).1
    rw [Nat.zero_add] at this
    rw [hw, this, hget d' k (by omega)]
    rfl
  · rw [hw]
    have hgb : w.grownBy (Go.Proofs.sortWorld enc64 w g 0 n d' os) (some g) := by
      refine ⟨rfl, rfl, rfl, by simp [Go.Proofs.sortWorld], fun k hk hne => ?_⟩
      unfold Go.Proofs.sortWorld
      rw [Go.Sort.heap_grow_old _ _ (by simpa using hk)]
      have : g ≠ k := fun e => hne (by rw [e])
      simp [Go.Sort.putRow, Go.Sort.mapBlock, Sort.ahead, Array.getElem?_modify, this]
    exact (Below.refl B w).grown hgb hB fun k hk => by cases hk; exact hgB

theorem sub_none {a b : Nat} (h : sub a b = 0) : a &&& b = a := Nat.eq_of_testBit_eq fun j => by
  have hj : (sub a b).testBit j = false := by rw [h]; exact Nat.zero_testBit j
  rw [sub_bit] at hj
  rw [Nat.testBit_and]
  cases ha : a.testBit j <;> cases hb : b.testBit j <;> simp_all

set_option maxRecDepth 100000 in
set_option maxHeartbeats 2000000 in
theorem Heights_any (v : Value) (bs : List Nat) (n : Nat) (w : World) (hb : Brd n bs) (h : Nats w v bs) :
    Calls Tryd.prog 32 #[v] w fun e w' => HtPost bs e w' ∧ Below w.heap.size w w' := by
  have hn := hb.le
  have hp1 := hb.pos
  have h64 : ∀ r ∈ bs, r < 64 := fun r hr => Nat.lt_of_lt_of_le (hb.lt r hr) (pw6 n hn).2
  have hl := hb.len
  have HB := Lib.hid (isBoard_any v (nats bs) w h)
  rw [boardB_mk hb] at HB
  have HCl := Lib.hid (clone1_any v (nats bs) w h)
  rw [nats_length, hl] at HCl
  have HSo := Lib.hid (fun B g cap w ho hB => sortF_any B g cap bs w h64 (by omega) ho hB)
  rw [hl] at HSo
  have HSi := Lib.hid (fun x w hx => size_any x w hx)
  have hmk : ∀ W : World, (Instr.makeSlice 22 (.int .i64 (n:Int)) (.int .i64 (n:Int))).run Tryd.prog W = .ok (.slice (some ⟨W.heap.size, 0, none⟩) n n) (W.alloc (.cells (ints (List.replicate n 0)).toArray 3)) :=
    run_make22 n n (Nat.le_refl _) (by omega)
  have H64 := Lib.hid h64
  have HB0 := Lib.hid (Below.refl w.heap.size w)
  clear h hb h64
  go_enter Tryd.func32, Tryd.ntmps32
  go_wp2_with fail
  refine HB.out.mono ?_
  rintro e w' ⟨rfl, rfl⟩
  go_wp2_with fail
  refine HCl.out.mono ?_
  rintro e w1 ⟨ao, c, rfl, hO, hb1⟩
  rcases owns_form' hO with ⟨_, h0⟩ | ⟨g, c', e, _⟩
  · exfalso
    have : (nats bs).length = 0 := by rw [h0]; rfl
    rw [nats_length] at this
    omega
  simp only [Value.slice.injEq, true_and] at e
  obtain ⟨rfl, rfl⟩ := e
  have HO := Lib.hid hO
  have HB1 := Lib.hid hb1
  clear hO hb1
  go_wp2_with fail
  refine (HSo.out w.heap.size g c w1 HO.out HB1.out.size).mono ?_
  rintro e w2 ⟨rfl, rs, hp, hs, hc, hb2⟩
  have HB2 := Lib.hid (HB1.out.trans hb2)
  have hlr : rs.length = n := hp.length_eq.trans hl
  have hr64 : ∀ r ∈ rs, r < 64 := fun r hr => H64.out r (hp.mem_iff.1 hr)
  have HCh := Lib.hid (chain_ok hr64 hs)
  rw [hlr] at HCh
  have HOk := Lib.hid (okB_perm hp)
  have HGt : Hid (∀ k, rs.getD k 0 < 64) := Lib.hid fun k => by
    by_cases hk : k < rs.length
    · exact hr64 _ (natD_mem hk)
    · rw [getD_over (by omega)]; decide
  have HUn : Hid (nats (rs.map fl) = htL bs) := Lib.hid (by
    refine risL_unique ?_ ?_
    · unfold szL nats
      rw [List.map_map, List.map_map]
      exact hp.map _
    · unfold nats
      rw [List.pairwise_map, List.pairwise_map]
      refine List.pairwise_iff_getElem.2 fun i j hi hj hij => ?_
      have up : ∀ d, i + d < rs.length → fl (rs.getD i 0) ≤ fl (rs.getD (i + d) 0) := by
        intro d
        induction d with
        | zero => intro _; exact Nat.le_refl _
        | succ d ih => intro hd; exact Nat.le_trans (ih (by omega)) (hs (i + d) (by omega))
      have := up (j - i) (by omega)
      rw [show i + (j - i) = j by omega] at this
      simp only [List.getD_eq_getElem?_getD, List.getElem?_eq_getElem hi, List.getElem?_eq_getElem hj, Option.getD_some] at this
      omega)
  have hgw := HO.out.lt g rfl
  have hgw2 : g < w2.heap.size := by have := hb2.size; omega
  have HC : Hid (∀ k, k < n → w2.cell? ⟨g, k, none⟩ = some (.int .i64 (rs.getD k 0 : Nat))) := Lib.hid fun k hk => hc k hk
  have HLn : Hid ((rs.map fl).length = n) := Lib.hid (by rw [List.length_map, hlr])
  have HGf : Hid (∀ k, k < n → (rs.map fl).getD k 0 = fl (rs.getD k 0)) := Lib.hid fun k hk => by
    have : k < rs.length := by omega
    simp [this]
  have HZ : Hid (List.replicate n (0:Int) = nats (fillK (rs.map fl) 0)) := Lib.hid (by rw [fillK_zero, HLn.out])
  have HF6 : Hid (∀ x ∈ rs.map fl, x < 65536) := Lib.hid fun x hx => by
    obtain ⟨r, hr, rfl⟩ := List.mem_map.1 hx
    have := fl_bd r (hr64 r hr)
    omega
  clear hp hs hc hb2 hlr hr64 HO HSo
  go_wp2_with fail
  clear hmk
  have hsz3 : (w2.alloc (.cells (ints (List.replicate n 0)).toArray 3)).heap.size = w2.heap.size + 1 := World.size_alloc _ _
  have HM0 : Hid (Below w2.heap.size w2 (w2.alloc (.cells (ints (List.replicate n 0)).toArray 3))) := (Below.refl _ _).alloc (Nat.le_refl _) _
  go_loopw [20] (fun i wr => ∃ k : Nat, k ≤ n ∧ i = .int .i64 k ∧ NatBlk wr w2.heap.size (fillK (rs.map fl) k) ∧ Below w2.heap.size w2 wr ∧ ∀ j, j + 1 < k → rs.getD j 0 &&& rs.getD (j + 1) 0 = rs.getD j 0) (fun i _ => n - (intOf i).toNat)
  case atStart => exact ⟨0, Nat.zero_le _, rfl, by rw [HZ.out]; exact NatBlk.start w2 _, HM0.out, fun j hj => absurd hj (by omega)⟩
  case round =>
    obtain ⟨k, hk, rfl, hN, hb3, hch⟩ := hrel
    have HNB := Lib.hid hN
    have HB3 := Lib.hid hb3
    have HCk := Lib.hid hch
    clear hN hb3 hch
    by_cases hlt : k < n
    · have hck := ck (HC.out k hlt) HB3.out
      obtain ⟨hcz, hfz⟩ := HNB.out.cell (k := k) (by rw [fillK_length _ _ (by rw [HLn.out]; exact hk), HLn.out]; exact hlt)
      have hr := HGt.out k
      have HSz := Lib.hid (HSi.out (rs.getD k 0) wr hr)
      have HS : Hid (NatBlk (wr.setCell ⟨w2.heap.size, k, none⟩ (.int .i64 (fl (rs.getD k 0) : Nat))) w2.heap.size (fillK (rs.map fl) (k + 1))) := Lib.hid (by
        rw [← fillK_set _ k (by rw [HLn.out]; exact hlt), HGf.out k hlt]; exact HNB.out.set k _)
      generalize (fillK (rs.map fl) k).getD k 0 = old at *
      by_cases h0 : 0 < k
      · obtain ⟨m, rfl⟩ : ∃ m, k = m + 1 := ⟨k - 1, by omega⟩
        have hcp := ck (HC.out m (by omega)) HB3.out
        have hrm := HGt.out m
        have hand := i64_andNot (rs.getD m 0) (rs.getD (m + 1) 0) (by omega) (by omega)
        have hsub : ((m + 1 : Nat) : Int) - 1 = (m : Int) := by omega
        have hp0 : (0:Int) < ((m + 1 : Nat) : Int) := by omega
        have hm0 : (0:Int) ≤ (m : Int) := by omega
        have hm1 : (m : Int) < (n : Int) := by omega
        have hlti : ((m + 1 : Nat) : Int) < (n : Int) := by omega
        by_cases cc : rs.getD m 0 &&& rs.getD (m + 1) 0 = rs.getD m 0
        · have HK : Hid (∀ j, j + 1 < m + 1 + 1 → rs.getD j 0 &&& rs.getD (j + 1) 0 = rs.getD j 0) := Lib.hid fun j hj => by
            by_cases e : j = m
            · subst e; exact cc
            · exact HCk.out j (by omega)
          have hz : bits .andNot .i64 ((rs.getD m 0 : Nat) : Int) ((rs.getD (m + 1) 0 : Nat) : Int) = 0 := by rw [hand, cc, Nat.xor_self]; rfl
          clear hand cc
          generalize rs.getD (m + 1) 0 = r1 at *
          generalize rs.getD m 0 = r0 at *
          generalize fl r1 = f at *
          go_wp2_with fail
          refine HSz.out.mono ?_
          rintro e w' ⟨rfl, rfl⟩
          go_wp2_with fail
          go_roundw
          case rel => exact ⟨m + 1 + 1, by omega, by go_num, HS.out, HB3.out.setCell (Nat.le_refl _) _, HK.out⟩
          case measure => simp [intOf]; omega
        · have HR : Hid (okB bs = false) := Lib.hid (by
            rw [← HOk.out]
            cases ho : okB rs with
            | false => rfl
            | true => exact absurd (HCh.out.1 ho m (by omega)) cc)
          have hz : (bits .andNot .i64 ((rs.getD m 0 : Nat) : Int) ((rs.getD (m + 1) 0 : Nat) : Int) != 0) = true := by
            rw [hand]
            refine bne_iff_ne.2 fun h => ?_
            have h : sub (rs.getD m 0) (rs.getD (m + 1) 0) = 0 := by exact_mod_cast h
            exact cc (sub_none h)
          clear hand cc
          generalize rs.getD (m + 1) 0 = r1 at *
          generalize rs.getD m 0 = r0 at *
          go_wp2_with fail
          go_ret2
          exact ⟨.inl ⟨HR.out, rfl⟩, HB2.out.trans (HB3.out.mono HB2.out.size)⟩
      · obtain rfl : k = 0 := by omega
        clear h0
        have HK : Hid (∀ j, j + 1 < 0 + 1 → rs.getD j 0 &&& rs.getD (j + 1) 0 = rs.getD j 0) := Lib.hid fun j hj => absurd hj (by omega)
        generalize rs.getD 0 0 = r1 at *
        generalize fl r1 = f at *
        go_wp2_with fail
        refine HSz.out.mono ?_
        rintro e w' ⟨rfl, rfl⟩
        go_wp2_with fail
        go_roundw
        case rel => exact ⟨1, by omega, by go_num, HS.out, HB3.out.setCell (Nat.le_refl _) _, HK.out⟩
        case measure => simp [intOf]; omega
    · obtain rfl : k = n := by omega
      have HR : Hid (okB bs = true) := Lib.hid (by rw [← HOk.out]; exact HCh.out.2 fun i hi => HCk.out i hi)
      have HE : Hid (fillK (rs.map fl) k = rs.map fl) := Lib.hid (by have := fillK_end (rs.map fl); rwa [HLn.out] at this)
      rw [HE.out] at HNB
      have HV := Lib.hid (HNB.out.nats (by rw [HLn.out]; omega) HF6.out)
      rw [HLn.out] at HV
      go_wp2_with fail
      go_ret2
      exact ⟨.inr ⟨HR.out, _, rfl, by rw [← HUn.out]; exact HV.out⟩, HB2.out.trans (HB3.out.mono HB2.out.size)⟩
theorem Heights_bad (v : Value) (xs : List Int) (w : World) (hb : boardB xs = false) (h : Ints w v xs) :
    Calls Tryd.prog 32 #[v] w fun e w' => e = .returned (.tuple #[.slice none 0 0, .int .i64 2]) ∧ w = w' := by
  have HB := Lib.hid (isBoard_any v xs w h)
  rw [hb] at HB
  clear h
  go_enter Tryd.func32, Tryd.ntmps32
  go_wp2_with fail
  refine HB.out.mono ?_
  rintro e w' ⟨rfl, rfl⟩
  go_wp2
  go_ret2
  exact ⟨rfl, rfl⟩
end Go.Proofs.YtellnklbkjajbaaDoor

namespace Go.Proofs.YtellnklbkjajbaaDoor
open Go.RowKit

def htE (bs : List Nat) : Int := if okB bs then 0 else 4
def htV (bs : List Nat) : List Int := if okB bs then htL bs else []
theorem HtPost.val {bs : List Nat} {e : Ending} {w' : World} (h : HtPost bs e w') : ∃ v', e = .returned (.tuple #[v', .int .i64 (htE bs)]) ∧ Ints w' v' (htV bs) := by
  unfold htE htV
  rcases h with ⟨h, rfl⟩ | ⟨h, v', rfl, hI⟩
  · rw [h]; exact ⟨_, rfl, Ints.nil _⟩
  · rw [h]; exact ⟨v', rfl, hI⟩
theorem Heights_val (v : Value) (bs : List Nat) (n : Nat) (w : World) (hb : Brd n bs) (h : Nats w v bs) :
    Calls Tryd.prog 32 #[v] w fun e w' => ∃ v', e = .returned (.tuple #[v', .int .i64 (htE bs)]) ∧ Ints w' v' (htV bs) ∧ Below w.heap.size w w' :=
  (Heights_any v bs n w hb h).mono fun _ _ ⟨hp, hb'⟩ => by obtain ⟨v', e1, e2⟩ := hp.val; exact ⟨v', e1, e2, hb'⟩
theorem rHeights_val (v : Value) (bs : List Nat) (n : Nat) (w : World) (hb : Brd n bs) (h : Nats w v bs) :
    Calls Tryd.prog 35 #[v] w fun e w' => ∃ v', e = .returned (.tuple #[v', .int .i64 (htE bs)]) ∧ Ints w' v' (htV bs) ∧ Below w.heap.size w w' :=
  (rHeights_any v bs n w hb h).mono fun _ _ ⟨hp, hb'⟩ => by obtain ⟨v', e1, e2⟩ := hp.val; exact ⟨v', e1, e2, hb'⟩
theorem stp_take {n : Nat} {ls : List Nat} (h : Stp n ls) : (nats ls).take 9 = nats ls := List.take_of_length_le (by rw [nats_length, h.len]; have := h.le; omega)
theorem brd_take {n : Nat} {bs : List Nat} (h : Brd n bs) : (nats bs).take 9 = nats bs := List.take_of_length_le (by rw [nats_length, h.len]; have := h.le; omega)

set_option maxHeartbeats 8000000 in
set_option maxRecDepth 100000 in
theorem rooksStairs_law (v : Value) (xs : List Int) (u : Value) (ys : List Int) (w : World) (h : Ints w v xs) (hu : Ints w u ys) (hT : Tab w) :
    Calls Tryd.prog 6 #[v, u] w fun e w' => e = .returned (.bool true) ∧ Below w.heap.size w w' := by
  have HL := Lib.hid (fun w' (hb : Below w.heap.size w w') => list_any v xs w' (h.below hb (Nat.le_refl _)))
  have HLu := Lib.hid (fun w' (hb : Below w.heap.size w w') => list_any u ys w' (hu.below hb (Nat.le_refl _)))
  have HM := Lib.hid (fun w' (hb : Below w.heap.size w w') => Board_any u ys w' (hu.below hb (Nat.le_refl _)))
  have HS := Lib.hid (fun w' (hb : Below w.heap.size w w') => Steps_any v xs w' (h.below hb (Nat.le_refl _)))
  have HTab := Lib.hid (fun w' (hb : Below w.heap.size w w') => tab_block hT (hb.block 1 (tab_lt hT)))
  have HAw := Lib.hid (fun w' (hb : Below w.heap.size w w') => awake_any w' (HTab.out w' hb))
  have HEq := Lib.hid (fun v v' xs w h h' => equal_self v v' xs w h h')
  cases hs : stepsB xs with
  | false =>
    cases hbd : boardB ys with
    | false =>
      rw [hs] at HS
      have HSt := Lib.hid (fun v' w' (h' : Ints w' v' (xs.take 9)) => Stair_bad v' (xs.take 9) w' (by rw [stepsB_take, hs]) h')
      rw [hbd] at HM
      have HHt := Lib.hid (fun v' w' (h' : Ints w' v' (ys.take 9)) => Heights_bad v' (ys.take 9) w' (by rw [boardB_take, hbd]) h')
      clear hs hbd h hu hT
      have HB0 := Lib.hid (Below.refl w.heap.size w)
      go_enter Tryd.func6, Tryd.ntmps6
      go_wp2_with fail
      refine (HL.out w HB0.out).mono ?_
      rintro e w1 ⟨v1, rfl, hv1, hb1⟩
      have HB1 := Lib.hid (HB0.out.trans (hb1.mono HB0.out.size))
      have A_1 := Lib.hid (hv1)
      clear hb1 hv1
      go_wp2_with fail
      refine (HSt.out v1 w1 A_1.out).mono ?_
      rintro e w2 ⟨rfl, hb2⟩
      have HB2 := Lib.hid (HB1.out.trans (hb2.mono HB1.out.size))
      have A_2 := Lib.hid (A_1.out.below hb2 (Nat.le_refl _))
      clear hb2
      clear A_2
      go_wp2_with fail
      refine (HLu.out w2 HB2.out).mono ?_
      rintro e w3 ⟨v3, rfl, hv3, hb3⟩
      have HB3 := Lib.hid (HB2.out.trans (hb3.mono HB2.out.size))
      have B_3 := Lib.hid (hv3)
      clear hb3 hv3
      go_wp2_with fail
      refine (HHt.out v3 w3 B_3.out).mono ?_
      rintro e w' ⟨rfl, rfl⟩
      clear B_3
      go_wp2_with fail
      refine (HS.out w3 HB3.out).mono ?_
      rintro e w' ⟨rfl, rfl⟩
      go_wp2_with fail
      refine (HS.out w3 HB3.out).mono ?_
      rintro e w' ⟨rfl, rfl⟩
      go_wp2_with fail
      refine (HAw.out w3 HB3.out).mono ?_
      rintro e w4 ⟨rfl, hb4⟩
      have HB4 := Lib.hid (HB3.out.trans (hb4.mono HB3.out.size))
      clear hb4
      go_wp2_with fail
      refine (HM.out w4 HB4.out).mono ?_
      rintro e w' ⟨rfl, rfl⟩
      go_wp2
      go_ret
      exact ⟨rfl, HB4.out⟩
    | true =>
      rw [hs] at HS
      have HSt := Lib.hid (fun v' w' (h' : Ints w' v' (xs.take 9)) => Stair_bad v' (xs.take 9) w' (by rw [stepsB_take, hs]) h')
      obtain ⟨bs, rfl, hb⟩ := boardB_of hbd
      rw [nats_length] at hb
      obtain ⟨m, hm⟩ : ∃ m, m = bs.length := ⟨_, rfl⟩
      rw [← hm] at hb
      rw [brd_take hb] at HLu
      rw [hbd] at HM
      have HHt := Lib.hid (fun v' w' (h' : Nats w' v' bs) => Heights_val v' bs m w' hb h')
      have HRh := Lib.hid (fun w' (hb' : Below w.heap.size w w') => rHeights_val u bs m w' hb (hu.below hb' (Nat.le_refl _)))
      generalize htV bs = hv at *
      generalize htE bs = he at *
      clear hs hbd h hu hT hb hm
      have HB0 := Lib.hid (Below.refl w.heap.size w)
      go_enter Tryd.func6, Tryd.ntmps6
      go_wp2_with fail
      refine (HL.out w HB0.out).mono ?_
      rintro e w1 ⟨v1, rfl, hv1, hb1⟩
      have HB1 := Lib.hid (HB0.out.trans (hb1.mono HB0.out.size))
      have A_1 := Lib.hid (hv1)
      clear hb1 hv1
      go_wp2_with fail
      refine (HSt.out v1 w1 A_1.out).mono ?_
      rintro e w2 ⟨rfl, hb2⟩
      have HB2 := Lib.hid (HB1.out.trans (hb2.mono HB1.out.size))
      have A_2 := Lib.hid (A_1.out.below hb2 (Nat.le_refl _))
      clear hb2
      clear A_2
      go_wp2_with fail
      refine (HLu.out w2 HB2.out).mono ?_
      rintro e w3 ⟨v3, rfl, hv3, hb3⟩
      have HB3 := Lib.hid (HB2.out.trans (hb3.mono HB2.out.size))
      have B_3 := Lib.hid (hv3)
      clear hb3 hv3
      go_wp2_with fail
      refine (HHt.out v3 w3 B_3.out).mono ?_
      rintro e w4 ⟨v4, rfl, hv4, hb4⟩
      have HB4 := Lib.hid (HB3.out.trans (hb4.mono HB3.out.size))
      have B_4 := Lib.hid (B_3.out.below hb4 (Nat.le_refl _))
      have Y_4 := Lib.hid (hv4)
      clear hb4 hv4
      clear B_4
      go_wp2_with fail
      refine (HS.out w4 HB4.out).mono ?_
      rintro e w' ⟨rfl, rfl⟩
      go_wp2_with fail
      refine (HS.out w4 HB4.out).mono ?_
      rintro e w' ⟨rfl, rfl⟩
      go_wp2_with fail
      refine (HAw.out w4 HB4.out).mono ?_
      rintro e w5 ⟨rfl, hb5⟩
      have HB5 := Lib.hid (HB4.out.trans (hb5.mono HB4.out.size))
      have Y_5 := Lib.hid (Y_4.out.below hb5 (Nat.le_refl _))
      clear hb5
      go_wp2_with fail
      refine (HM.out w5 HB5.out).mono ?_
      rintro e w' ⟨rfl, rfl⟩
      go_wp2_with fail
      refine (HRh.out w5 HB5.out).mono ?_
      rintro e w6 ⟨v6, rfl, hv6, hb6⟩
      have HB6 := Lib.hid (HB5.out.trans (hb6.mono HB5.out.size))
      have Y_6 := Lib.hid (Y_5.out.below hb6 (Nat.le_refl _))
      have V_6 := Lib.hid (hv6)
      clear hb6 hv6
      go_wp2_with fail
      refine (HEq.out _ _ _ w6 Y_6.out V_6.out).mono ?_
      rintro e w7 ⟨rfl, hb7⟩
      have HB7 := Lib.hid (HB6.out.trans (hb7.mono HB6.out.size))
      have Y_7 := Lib.hid (Y_6.out.below hb7 (Nat.le_refl _))
      have V_7 := Lib.hid (V_6.out.below hb7 (Nat.le_refl _))
      clear hb7
      clear Y_7
      clear V_7
      go_wp2
      go_ret
      exact ⟨rfl, HB7.out⟩
  | true =>
    cases hbd : boardB ys with
    | false =>
      obtain ⟨ls, rfl, hst⟩ := stepsB_of hs
      rw [nats_length] at hst
      obtain ⟨n, hn⟩ : ∃ n, n = ls.length := ⟨_, rfl⟩
      rw [← hn] at hst
      rw [stp_take hst] at HL
      rw [hs] at HS
      have HSt := Lib.hid (fun v' w' (h' : Nats w' v' ls) => Stair_any v' ls n w' hst h')
      have HRs := Lib.hid (fun w' (hb' : Below w.heap.size w w') => rStair_any v ls n w' hst (h.below hb' (Nat.le_refl _)))
      generalize stL ls = sl at *
      rw [hbd] at HM
      have HHt := Lib.hid (fun v' w' (h' : Ints w' v' (ys.take 9)) => Heights_bad v' (ys.take 9) w' (by rw [boardB_take, hbd]) h')
      clear hs hbd h hu hT hst hn
      have HB0 := Lib.hid (Below.refl w.heap.size w)
      go_enter Tryd.func6, Tryd.ntmps6
      go_wp2_with fail
      refine (HL.out w HB0.out).mono ?_
      rintro e w1 ⟨v1, rfl, hv1, hb1⟩
      have HB1 := Lib.hid (HB0.out.trans (hb1.mono HB0.out.size))
      have A_1 := Lib.hid (hv1)
      clear hb1 hv1
      go_wp2_with fail
      refine (HSt.out v1 w1 A_1.out).mono ?_
      rintro e w2 ⟨v2, rfl, hv2, hb2⟩
      have HB2 := Lib.hid (HB1.out.trans (hb2.mono HB1.out.size))
      have A_2 := Lib.hid (A_1.out.below hb2 (Nat.le_refl _))
      have X_2 := Lib.hid (hv2)
      clear hb2 hv2
      clear A_2
      go_wp2_with fail
      refine (HLu.out w2 HB2.out).mono ?_
      rintro e w3 ⟨v3, rfl, hv3, hb3⟩
      have HB3 := Lib.hid (HB2.out.trans (hb3.mono HB2.out.size))
      have X_3 := Lib.hid (X_2.out.below hb3 (Nat.le_refl _))
      have B_3 := Lib.hid (hv3)
      clear hb3 hv3
      go_wp2_with fail
      refine (HHt.out v3 w3 B_3.out).mono ?_
      rintro e w' ⟨rfl, rfl⟩
      clear B_3
      go_wp2_with fail
      refine (HS.out w3 HB3.out).mono ?_
      rintro e w' ⟨rfl, rfl⟩
      go_wp2_with fail
      refine (HRs.out w3 HB3.out).mono ?_
      rintro e w4 ⟨v4, rfl, hv4, hb4⟩
      have HB4 := Lib.hid (HB3.out.trans (hb4.mono HB3.out.size))
      have X_4 := Lib.hid (X_3.out.below hb4 (Nat.le_refl _))
      have U_4 := Lib.hid (hv4)
      clear hb4 hv4
      go_wp2_with fail
      refine (HEq.out _ _ _ w4 X_4.out U_4.out).mono ?_
      rintro e w5 ⟨rfl, hb5⟩
      have HB5 := Lib.hid (HB4.out.trans (hb5.mono HB4.out.size))
      have X_5 := Lib.hid (X_4.out.below hb5 (Nat.le_refl _))
      have U_5 := Lib.hid (U_4.out.below hb5 (Nat.le_refl _))
      clear hb5
      clear X_5
      clear U_5
      go_wp2_with fail
      refine (HS.out w5 HB5.out).mono ?_
      rintro e w' ⟨rfl, rfl⟩
      go_wp2_with fail
      refine (HAw.out w5 HB5.out).mono ?_
      rintro e w6 ⟨rfl, hb6⟩
      have HB6 := Lib.hid (HB5.out.trans (hb6.mono HB5.out.size))
      clear hb6
      go_wp2_with fail
      refine (HM.out w6 HB6.out).mono ?_
      rintro e w' ⟨rfl, rfl⟩
      go_wp2
      go_ret
      exact ⟨rfl, HB6.out⟩
    | true =>
      obtain ⟨ls, rfl, hst⟩ := stepsB_of hs
      rw [nats_length] at hst
      obtain ⟨n, hn⟩ : ∃ n, n = ls.length := ⟨_, rfl⟩
      rw [← hn] at hst
      rw [stp_take hst] at HL
      rw [hs] at HS
      have HSt := Lib.hid (fun v' w' (h' : Nats w' v' ls) => Stair_any v' ls n w' hst h')
      have HRs := Lib.hid (fun w' (hb' : Below w.heap.size w w') => rStair_any v ls n w' hst (h.below hb' (Nat.le_refl _)))
      generalize stL ls = sl at *
      obtain ⟨bs, rfl, hb⟩ := boardB_of hbd
      rw [nats_length] at hb
      obtain ⟨m, hm⟩ : ∃ m, m = bs.length := ⟨_, rfl⟩
      rw [← hm] at hb
      rw [brd_take hb] at HLu
      rw [hbd] at HM
      have HHt := Lib.hid (fun v' w' (h' : Nats w' v' bs) => Heights_val v' bs m w' hb h')
      have HRh := Lib.hid (fun w' (hb' : Below w.heap.size w w') => rHeights_val u bs m w' hb (hu.below hb' (Nat.le_refl _)))
      generalize htV bs = hv at *
      generalize htE bs = he at *
      clear hs hbd h hu hT hst hn hb hm
      have HB0 := Lib.hid (Below.refl w.heap.size w)
      go_enter Tryd.func6, Tryd.ntmps6
      go_wp2_with fail
      refine (HL.out w HB0.out).mono ?_
      rintro e w1 ⟨v1, rfl, hv1, hb1⟩
      have HB1 := Lib.hid (HB0.out.trans (hb1.mono HB0.out.size))
      have A_1 := Lib.hid (hv1)
      clear hb1 hv1
      go_wp2_with fail
      refine (HSt.out v1 w1 A_1.out).mono ?_
      rintro e w2 ⟨v2, rfl, hv2, hb2⟩
      have HB2 := Lib.hid (HB1.out.trans (hb2.mono HB1.out.size))
      have A_2 := Lib.hid (A_1.out.below hb2 (Nat.le_refl _))
      have X_2 := Lib.hid (hv2)
      clear hb2 hv2
      clear A_2
      go_wp2_with fail
      refine (HLu.out w2 HB2.out).mono ?_
      rintro e w3 ⟨v3, rfl, hv3, hb3⟩
      have HB3 := Lib.hid (HB2.out.trans (hb3.mono HB2.out.size))
      have X_3 := Lib.hid (X_2.out.below hb3 (Nat.le_refl _))
      have B_3 := Lib.hid (hv3)
      clear hb3 hv3
      go_wp2_with fail
      refine (HHt.out v3 w3 B_3.out).mono ?_
      rintro e w4 ⟨v4, rfl, hv4, hb4⟩
      have HB4 := Lib.hid (HB3.out.trans (hb4.mono HB3.out.size))
      have X_4 := Lib.hid (X_3.out.below hb4 (Nat.le_refl _))
      have B_4 := Lib.hid (B_3.out.below hb4 (Nat.le_refl _))
      have Y_4 := Lib.hid (hv4)
      clear hb4 hv4
      clear B_4
      go_wp2_with fail
      refine (HS.out w4 HB4.out).mono ?_
      rintro e w' ⟨rfl, rfl⟩
      go_wp2_with fail
      refine (HRs.out w4 HB4.out).mono ?_
      rintro e w5 ⟨v5, rfl, hv5, hb5⟩
      have HB5 := Lib.hid (HB4.out.trans (hb5.mono HB4.out.size))
      have X_5 := Lib.hid (X_4.out.below hb5 (Nat.le_refl _))
      have Y_5 := Lib.hid (Y_4.out.below hb5 (Nat.le_refl _))
      have U_5 := Lib.hid (hv5)
      clear hb5 hv5
      go_wp2_with fail
      refine (HEq.out _ _ _ w5 X_5.out U_5.out).mono ?_
      rintro e w6 ⟨rfl, hb6⟩
      have HB6 := Lib.hid (HB5.out.trans (hb6.mono HB5.out.size))
      have X_6 := Lib.hid (X_5.out.below hb6 (Nat.le_refl _))
      have Y_6 := Lib.hid (Y_5.out.below hb6 (Nat.le_refl _))
      have U_6 := Lib.hid (U_5.out.below hb6 (Nat.le_refl _))
      clear hb6
      clear X_6
      clear U_6
      go_wp2_with fail
      refine (HS.out w6 HB6.out).mono ?_
      rintro e w' ⟨rfl, rfl⟩
      go_wp2_with fail
      refine (HAw.out w6 HB6.out).mono ?_
      rintro e w7 ⟨rfl, hb7⟩
      have HB7 := Lib.hid (HB6.out.trans (hb7.mono HB6.out.size))
      have Y_7 := Lib.hid (Y_6.out.below hb7 (Nat.le_refl _))
      clear hb7
      go_wp2_with fail
      refine (HM.out w7 HB7.out).mono ?_
      rintro e w' ⟨rfl, rfl⟩
      go_wp2_with fail
      refine (HRh.out w7 HB7.out).mono ?_
      rintro e w8 ⟨v8, rfl, hv8, hb8⟩
      have HB8 := Lib.hid (HB7.out.trans (hb8.mono HB7.out.size))
      have Y_8 := Lib.hid (Y_7.out.below hb8 (Nat.le_refl _))
      have V_8 := Lib.hid (hv8)
      clear hb8 hv8
      go_wp2_with fail
      refine (HEq.out _ _ _ w8 Y_8.out V_8.out).mono ?_
      rintro e w9 ⟨rfl, hb9⟩
      have HB9 := Lib.hid (HB8.out.trans (hb9.mono HB8.out.size))
      have Y_9 := Lib.hid (Y_8.out.below hb9 (Nat.le_refl _))
      have V_9 := Lib.hid (V_8.out.below hb9 (Nat.le_refl _))
      clear hb9
      clear Y_9
      clear V_9
      go_wp2
      go_ret
      exact ⟨rfl, HB9.out⟩
end Go.Proofs.YtellnklbkjajbaaDoor

namespace Go.Proofs.YtellnklbkjajbaaDoor
open Go.RowKit

theorem Clone_val (v : Value) (zs : List Int) (w : World) (h : Ints w v zs) (hl : zs.length ≤ 100) :
    Calls Tryd.prog 45 #[v] w fun e w' => ∃ v', e = .returned v' ∧ Ints w' v' zs ∧ Below w.heap.size w w' :=
  (clone1_any v zs w h).mono fun _ _ ⟨_, _, he, ho, hb⟩ => ⟨_, he, Ints.of_owns ho (by omega) h.2, hb⟩
theorem nats_bd {n : Nat} {ls : List Nat} (h : Stp n ls) : ∀ x ∈ nats ls, -1000 ≤ x ∧ x ≤ 1000 := fun x hx => by
  obtain ⟨r, hr, rfl⟩ := List.mem_map.1 hx
  have := h.lt r hr
  have := h.le
  omega

set_option maxHeartbeats 16000000 in
set_option maxRecDepth 100000 in
theorem rooksFactors_law (v : Value) (xs : List Int) (u : Value) (ys : List Int) (x : Int) (w : World) (h : Ints w v xs) (hu : Ints w u ys) (hT : Tab w) :
    Calls Tryd.prog 12 #[v, u, .int .i64 x] w fun e w' => e = .returned (.bool true) ∧ Below w.heap.size w w' := by
  have HL := Lib.hid (fun w' (hb : Below w.heap.size w w') => list_any v xs w' (h.below hb (Nat.le_refl _)))
  have HS := Lib.hid (fun w' (hb : Below w.heap.size w w') => Steps_any v xs w' (h.below hb (Nat.le_refl _)))
  have HTab := Lib.hid (fun w' (hb : Below w.heap.size w w') => tab_block hT (hb.block 1 (tab_lt hT)))
  have HAw := Lib.hid (fun w' (hb : Below w.heap.size w w') => awake_any w' (HTab.out w' hb))
  cases hs : stepsB xs with
  | false =>
    have HFa := Lib.hid (fun v' w' (h' : Ints w' v' (xs.take 9)) => Factor_bad v' (xs.take 9) x w' h' (.inl (by rw [stepsB_take, hs])))
    have HSt := Lib.hid (fun v' w' (h' : Ints w' v' (xs.take 9)) => Steep_bad v' (xs.take 9) w' (by rw [stepsB_take, hs]) h')
    clear hs h hu hT
    have HB0 := Lib.hid (Below.refl w.heap.size w)
    go_enter Tryd.func12, Tryd.ntmps12
    go_wp2_with fail
    refine (HL.out w HB0.out).mono ?_
    rintro e w1 ⟨v1, rfl, hv1, hb1⟩
    have HB1 := Lib.hid (HB0.out.trans (hb1.mono HB0.out.size))
    have A_1 := Lib.hid (hv1)
    clear hb1 hv1
    go_wp2_with fail
    refine (HFa.out v1 w1 A_1.out).mono ?_
    rintro e w2 ⟨rfl, hb2⟩
    have HB2 := Lib.hid (HB1.out.trans (hb2.mono HB1.out.size))
    have A_2 := Lib.hid (A_1.out.below hb2 (Nat.le_refl _))
    clear hb2
    clear A_2
    go_wp2_with fail
    refine (HL.out w2 HB2.out).mono ?_
    rintro e w3 ⟨v3, rfl, hv3, hb3⟩
    have HB3 := Lib.hid (HB2.out.trans (hb3.mono HB2.out.size))
    have B_3 := Lib.hid (hv3)
    clear hb3 hv3
    go_wp2_with fail
    refine (HSt.out v3 w3 B_3.out).mono ?_
    rintro e w4 ⟨rfl, hb4⟩
    have HB4 := Lib.hid (HB3.out.trans (hb4.mono HB3.out.size))
    have B_4 := Lib.hid (B_3.out.below hb4 (Nat.le_refl _))
    clear hb4
    clear B_4
    go_wp2_with fail
    refine (HAw.out w4 HB4.out).mono ?_
    rintro e w5 ⟨rfl, hb5⟩
    have HB5 := Lib.hid (HB4.out.trans (hb5.mono HB4.out.size))
    clear hb5
    go_wp2
    go_ret
    exact ⟨rfl, HB5.out⟩
  | true =>
    obtain ⟨ls, rfl, hst⟩ := stepsB_of hs
    rw [nats_length] at hst
    obtain ⟨n, hn⟩ : ∃ n, n = ls.length := ⟨_, rfl⟩
    rw [← hn] at hst
    rw [stp_take hst] at HL
    rw [hs] at HS
    by_cases c1 : x < 0
    · have HFa := Lib.hid (fun v' w' (h' : Nats w' v' ls) => Factor_bad v' (nats ls) x w' h' (.inr (.inl c1)))
      have HSt := Lib.hid (fun v' w' (h' : Nats w' v' ls) => Steep_any v' ls n w' hst h')
      clear hs h hu hT hst hn
      have HB0 := Lib.hid (Below.refl w.heap.size w)
      go_enter Tryd.func12, Tryd.ntmps12
      go_wp2_with fail
      refine (HL.out w HB0.out).mono ?_
      rintro e w1 ⟨v1, rfl, hv1, hb1⟩
      have HB1 := Lib.hid (HB0.out.trans (hb1.mono HB0.out.size))
      have A_1 := Lib.hid (hv1)
      clear hb1 hv1
      go_wp2_with fail
      refine (HFa.out v1 w1 A_1.out).mono ?_
      rintro e w2 ⟨rfl, hb2⟩
      have HB2 := Lib.hid (HB1.out.trans (hb2.mono HB1.out.size))
      have A_2 := Lib.hid (A_1.out.below hb2 (Nat.le_refl _))
      clear hb2
      clear A_2
      go_wp2_with fail
      refine (HL.out w2 HB2.out).mono ?_
      rintro e w3 ⟨v3, rfl, hv3, hb3⟩
      have HB3 := Lib.hid (HB2.out.trans (hb3.mono HB2.out.size))
      have B_3 := Lib.hid (hv3)
      clear hb3 hv3
      go_wp2_with fail
      refine (HSt.out v3 w3 B_3.out).mono ?_
      rintro e w4 ⟨v4, rfl, hv4, hb4⟩
      have HB4 := Lib.hid (HB3.out.trans (hb4.mono HB3.out.size))
      have B_4 := Lib.hid (B_3.out.below hb4 (Nat.le_refl _))
      have S_4 := Lib.hid (hv4)
      clear hb4 hv4
      clear B_4
      clear S_4
      go_wp2_with fail
      refine (HAw.out w4 HB4.out).mono ?_
      rintro e w5 ⟨rfl, hb5⟩
      have HB5 := Lib.hid (HB4.out.trans (hb5.mono HB4.out.size))
      clear hb5
      go_wp2
      go_ret
      exact ⟨rfl, HB5.out⟩
    by_cases c2 : 10 < x
    · have HFa := Lib.hid (fun v' w' (h' : Nats w' v' ls) => Factor_bad v' (nats ls) x w' h' (.inr (.inr c2)))
      have HSt := Lib.hid (fun v' w' (h' : Nats w' v' ls) => Steep_any v' ls n w' hst h')
      clear hs h hu hT hst hn
      have HB0 := Lib.hid (Below.refl w.heap.size w)
      go_enter Tryd.func12, Tryd.ntmps12
      go_wp2_with fail
      refine (HL.out w HB0.out).mono ?_
      rintro e w1 ⟨v1, rfl, hv1, hb1⟩
      have HB1 := Lib.hid (HB0.out.trans (hb1.mono HB0.out.size))
      have A_1 := Lib.hid (hv1)
      clear hb1 hv1
      go_wp2_with fail
      refine (HFa.out v1 w1 A_1.out).mono ?_
      rintro e w2 ⟨rfl, hb2⟩
      have HB2 := Lib.hid (HB1.out.trans (hb2.mono HB1.out.size))
      have A_2 := Lib.hid (A_1.out.below hb2 (Nat.le_refl _))
      clear hb2
      clear A_2
      go_wp2_with fail
      refine (HL.out w2 HB2.out).mono ?_
      rintro e w3 ⟨v3, rfl, hv3, hb3⟩
      have HB3 := Lib.hid (HB2.out.trans (hb3.mono HB2.out.size))
      have B_3 := Lib.hid (hv3)
      clear hb3 hv3
      go_wp2_with fail
      refine (HSt.out v3 w3 B_3.out).mono ?_
      rintro e w4 ⟨v4, rfl, hv4, hb4⟩
      have HB4 := Lib.hid (HB3.out.trans (hb4.mono HB3.out.size))
      have B_4 := Lib.hid (B_3.out.below hb4 (Nat.le_refl _))
      have S_4 := Lib.hid (hv4)
      clear hb4 hv4
      clear B_4
      clear S_4
      go_wp2_with fail
      refine (HAw.out w4 HB4.out).mono ?_
      rintro e w5 ⟨rfl, hb5⟩
      have HB5 := Lib.hid (HB4.out.trans (hb5.mono HB4.out.size))
      clear hb5
      go_wp2
      go_ret
      exact ⟨rfl, HB5.out⟩
    · have hx0 : 0 ≤ x := by omega
      have hx1 : x ≤ 10 := by omega
      have HFa := Lib.hid (fun v' w' (h' : Nats w' v' ls) (hT' : Tab w') => Factor_any v' ls n x w' hst h' hT' hx0 hx1)
      have HSt := Lib.hid (fun v' w' (h' : Nats w' v' ls) => Steep_any v' ls n w' hst h')
      have HSa := Lib.hid (fun v' w' (h' : Nats w' v' ls) => Stair_any v' ls n w' hst h')
      have hff := ff_of hst
      obtain ⟨hp1, hp2⟩ := facV_prod hst hx0 hx1
      have HSl := Lib.hid hff.len
      have HSp := Lib.hid hff.stp
      have hn6 := hst.le
      have hn1 := hst.pos
      have HL6 : Hid (∀ k, k < n → ls.getD k 0 ≤ 6) := Lib.hid fun k hk => by have := hst.lt _ (natD_mem (hs := ls) (k := k) (by rw [hst.len]; exact hk)); omega
      have h0 := h
      have h0u := hu
      obtain ⟨ao, cap, rfl, h1, _, hx⟩ := h.cells
      obtain ⟨aou, capu, rfl, h1u, _, _⟩ := hu.cells
      have HX := Lib.hid hx
      have HV := Lib.hid h0
      have HU := Lib.hid h0u
      rw [nats_length, ← hn] at h1 HX HL HS HV ⊢
      clear h hu hx h0 h0u hff hn
      have HSs : Hid (steepV (dfL (nats ls)) = steepV (dfL (nats ls))) := rfl
      have HB0 := Lib.hid (Below.refl w.heap.size w)
      go_enter Tryd.func12, Tryd.ntmps12
      go_wp2_with fail
      refine (HL.out w HB0.out).mono ?_
      rintro e w1 ⟨v1, rfl, hv1, hb1⟩
      have HB1 := Lib.hid (HB0.out.trans (hb1.mono HB0.out.size))
      have A_1 := Lib.hid (hv1)
      clear hb1 hv1
      go_wp2_with fail
      refine (HFa.out v1 w1 A_1.out (HTab.out w1 HB1.out)).mono ?_
      rintro e w2 ⟨rfl, hb2⟩
      have HB2 := Lib.hid (HB1.out.trans (hb2.mono HB1.out.size))
      have A_2 := Lib.hid (A_1.out.below hb2 (Nat.le_refl _))
      clear hb2
      clear A_2
      go_wp2_with fail
      refine (HL.out w2 HB2.out).mono ?_
      rintro e w3 ⟨v3, rfl, hv3, hb3⟩
      have HB3 := Lib.hid (HB2.out.trans (hb3.mono HB2.out.size))
      have B_3 := Lib.hid (hv3)
      clear hb3 hv3
      go_wp2_with fail
      refine (HSt.out v3 w3 B_3.out).mono ?_
      rintro e w4 ⟨v4, rfl, hv4, hb4⟩
      have HB4 := Lib.hid (HB3.out.trans (hb4.mono HB3.out.size))
      have B_4 := Lib.hid (B_3.out.below hb4 (Nat.le_refl _))
      have S_4 := Lib.hid (hv4)
      clear hb4 hv4
      clear B_4
      go_wp2_with fail
      refine (HS.out w4 HB4.out).mono ?_
      rintro e w' ⟨rfl, rfl⟩
      obtain ⟨aos, caps, rfl, _, _, hxs⟩ := S_4.out.cells
      have HXs := Lib.hid hxs
      have HSv := Lib.hid S_4.out
      rw [HSl.out] at HXs HSv ⊢
      clear hxs S_4
      have HP2 := Lib.hid hp2
      clear hp1 hp2
      go_wp2_with fail
      go_loopw [11, 12, 74] (fun a b i wr => ∃ k : Nat, k ≤ n ∧ i = .int .i64 k ∧ a = .int .i64 (pK (nats ls) x k) ∧ b = .int .i64 (pK (steepV (dfL (nats ls))) x k) ∧ Below w4.heap.size w4 wr) (fun _ _ i _ => n - (intOf i).toNat)
      case atStart => exact ⟨0, Nat.zero_le _, rfl, rfl, rfl, Below.refl _ _⟩
      case round =>
        obtain ⟨k, hk, rfl, rfl, rfl, hB⟩ := hrel
        have hBw := HB4.out.trans (hB.mono HB4.out.size)
        by_cases hlt : k < n
        · obtain ⟨b, o, rfl, hck⟩ := HX.out wr hBw k hlt
          rw [nats_getD] at hck
          obtain ⟨bs, os, rfl, hcs⟩ := HXs.out wr hB k hlt
          have h6 := HL6.out k hlt
          obtain ⟨⟨s0, s20⟩, srise⟩ := HSp.out k hlt
          have HPa : Hid (pK (nats ls) x (k + 1) = wrap64 (pK (nats ls) x k * (x + ((ls.getD k 0 : Nat) : Int) - k))) := Lib.hid (by rw [pK, nats_getD])
          have HPb : Hid (pK (steepV (dfL (nats ls))) x (k + 1) = wrap64 (pK (steepV (dfL (nats ls))) x k * (x + (steepV (dfL (nats ls))).getD k 0 - k))) := rfl
          have g1 : ¬ ((steepV (dfL (nats ls))).getD k 0 < 0) := by omega
          have g2 : ¬ (20 < (steepV (dfL (nats ls))).getD k 0) := by omega
          have HB := Lib.hid hB
          clear hB hBw
          generalize pK (nats ls) x k = pa at *
          generalize pK (steepV (dfL (nats ls))) x k = pb at *
          by_cases k0 : 0 < k
          · obtain ⟨m, rfl⟩ : ∃ m, k = m + 1 := ⟨k - 1, by omega⟩
            obtain ⟨bs', os', e, hcp⟩ := HXs.out wr HB.out m (by omega)
            cases e
            obtain ⟨r1, r2⟩ := srise k0
            simp only [Nat.add_sub_cancel] at r1 r2
            have g3 : ¬ ((steepV (dfL (nats ls))).getD (m + 1) 0 < (steepV (dfL (nats ls))).getD m 0) := by omega
            have hsub : ((m + 1 : Nat) : Int) - 1 = (m : Int) := by omega
            have hm0 : (0:Int) ≤ (m : Int) := by omega
            have hm1 : (m : Int) < (n : Int) := by omega
            have hk1 : ((m + 1 : Nat) : Int) < (n : Int) := by omega
            have hk2 : (0:Int) < ((m + 1 : Nat) : Int) := by omega
            have hq0 : (0:Int) ≤ (m : Int) + 1 := by omega
            have hq1 : (m : Int) + 1 < (n : Int) := by omega
            have hq2 : (0:Int) < (m : Int) + 1 := by omega
            have hq3 : (m : Int) + 1 - 1 = (m : Int) := by omega
            have hw1 : IntKind.i64.wrap ((m : Int) + 1 - 1) = (m : Int) := by rw [hq3]; exact i64_of (by omega) (by omega)
            have hw2 : IntKind.i64.wrap (m : Int) = (m : Int) := i64_of (by omega) (by omega)
            have hcs' : wr.cell? ⟨bs, os + ((m : Int) + 1).toNat, none⟩ = some (.int .i64 ((steepV (dfL (nats ls))).getD (m + 1) 0)) := by rw [show ((m : Int) + 1).toNat = m + 1 by omega]; exact hcs
            by_cases z0 : (steepV (dfL (nats ls))).getD (m + 1) 0 ≤ 0
            · have g4 : ¬ (0 < (steepV (dfL (nats ls))).getD (m + 1) 0) := by omega
              have g5 : decide (0 < (steepV (dfL (nats ls))).getD (m + 1) 0) = false := decide_eq_false g4
              have z1 : (steepV (dfL (nats ls))).getD (m + 1) 0 = 0 := by omega
              have z2 : (steepV (dfL (nats ls))).getD m 0 = 0 := by have := (HSp.out m (by omega)).1.1; omega
              rw [z1] at hcs hcs' HPb
              rw [z2] at hcp
              clear r1 r2 srise k0 s0 s20 g1 g2 g3 g4 g5 z0 z1 z2
              generalize ls.getD (m + 1) 0 = r at *
              go_wp2_with fail
              go_quiet (fail)
              go_wp2_with fail
              go_roundw
              case rel => exact ⟨m + 1 + 1, by omega, by go_num, by rw [HPa.out] <;> (first | go_num | simp), by rw [HPb.out] <;> (first | go_num | simp), below_drewN HB.out _⟩
              case measure => simp [intOf]; omega
            · have g4 : 0 < (steepV (dfL (nats ls))).getD (m + 1) 0 := by omega
              have g5 : ((steepV (dfL (nats ls))).getD m 0 == (steepV (dfL (nats ls))).getD (m + 1) 0) = false := by
                have := r2.resolve_left z0
                simpa using this
              clear r1 r2 srise z0 k0
              generalize (steepV (dfL (nats ls))).getD (m + 1) 0 = s1 at *
              generalize (steepV (dfL (nats ls))).getD m 0 = sp at *
              generalize ls.getD (m + 1) 0 = r at *
              go_wp2_with fail
              go_quiet (fail)
              go_wp2_with fail
              go_roundw
              case rel => exact ⟨m + 1 + 1, by omega, by go_num, by rw [HPa.out] <;> (first | go_num | simp), by rw [HPb.out] <;> (first | go_num | simp), below_drewN HB.out _⟩
              case measure => simp [intOf]; omega
          · obtain rfl : k = 0 := by omega
            clear srise k0
            rw [Nat.add_zero] at hck hcs
            have hq1 : (0:Int) < (n : Int) := by omega
            generalize (steepV (dfL (nats ls))).getD 0 0 = s1 at *
            generalize ls.getD 0 0 = r at *
            go_wp2_with fail
            have g1' : ¬ s1 < 0 := by omega
            have g2' : ¬ 20 < s1 := by omega
            go_quiet (fail)
            go_wp2_with fail
            go_roundw
            case rel => exact ⟨1, by omega, by go_num, by rw [HPa.out] <;> (first | go_num | simp), by rw [HPb.out] <;> (first | go_num | simp), below_drewN HB.out _⟩
            case measure => simp [intOf]; omega
        · obtain rfl : k = n := by omega
          obtain ⟨w20, hw20⟩ : ∃ z, z = wr := ⟨_, rfl⟩
          subst hw20
          have HB20 := Lib.hid hBw
          have S_20 := Lib.hid (HSv.out.below hB (Nat.le_refl _))
          clear hB hBw HSv HXs HSp HL6 HX
          rw [HP2.out]
          clear HP2
          generalize pK (nats ls) x k = P at *
          have HLu := Lib.hid (fun w' (hb : Below w.heap.size w w') => list_any _ ys w' (HU.out.below hb (Nat.le_refl _)))
          cases hs' : stepsB ys with
          | false =>
            have HSb := Lib.hid (fun v' w' (h' : Ints w' v' (ys.take 9)) => Stair_bad v' (ys.take 9) w' (by rw [stepsB_take, hs']) h')
            clear hs'
            go_wp2_with fail
            refine (HL.out w20 HB20.out).mono ?_
            rintro e w21 ⟨v21, rfl, hv21, hb21⟩
            have HB21 := Lib.hid (HB20.out.trans (hb21.mono HB20.out.size))
            have S_21 := Lib.hid (S_20.out.below hb21 (Nat.le_refl _))
            have A_21 := Lib.hid (hv21)
            clear hb21 hv21
            go_wp2_with fail
            refine (HSa.out v21 w21 A_21.out).mono ?_
            rintro e w22 ⟨v22, rfl, hv22, hb22⟩
            have HB22 := Lib.hid (HB21.out.trans (hb22.mono HB21.out.size))
            have S_22 := Lib.hid (S_21.out.below hb22 (Nat.le_refl _))
            have A_22 := Lib.hid (A_21.out.below hb22 (Nat.le_refl _))
            have U_22 := Lib.hid (hv22)
            clear hb22 hv22
            clear A_22
            go_wp2_with fail
            refine (HLu.out w22 HB22.out).mono ?_
            rintro e w23 ⟨v23, rfl, hv23, hb23⟩
            have HB23 := Lib.hid (HB22.out.trans (hb23.mono HB22.out.size))
            have S_23 := Lib.hid (S_22.out.below hb23 (Nat.le_refl _))
            have U_23 := Lib.hid (U_22.out.below hb23 (Nat.le_refl _))
            have B_23 := Lib.hid (hv23)
            clear hb23 hv23
            go_wp2_with fail
            refine (HSb.out v23 w23 B_23.out).mono ?_
            rintro e w24 ⟨rfl, hb24⟩
            have HB24 := Lib.hid (HB23.out.trans (hb24.mono HB23.out.size))
            have S_24 := Lib.hid (S_23.out.below hb24 (Nat.le_refl _))
            have U_24 := Lib.hid (U_23.out.below hb24 (Nat.le_refl _))
            have B_24 := Lib.hid (B_23.out.below hb24 (Nat.le_refl _))
            clear hb24
            clear B_24
            go_wp2_with fail
            refine (HAw.out w24 HB24.out).mono ?_
            rintro e w25 ⟨rfl, hb25⟩
            have HB25 := Lib.hid (HB24.out.trans (hb25.mono HB24.out.size))
            have S_25 := Lib.hid (S_24.out.below hb25 (Nat.le_refl _))
            have U_25 := Lib.hid (U_24.out.below hb25 (Nat.le_refl _))
            clear hb25
            go_wp2
            go_ret
            exact ⟨rfl, HB25.out⟩
          | true =>
            obtain ⟨ms, rfl, hst'⟩ := stepsB_of hs'
            rw [nats_length] at hst'
            obtain ⟨n', hn'⟩ : ∃ n', n' = ms.length := ⟨_, rfl⟩
            rw [← hn'] at hst'
            rw [stp_take hst'] at HLu
            rw [nats_length, ← hn'] at h1u HLu HU ⊢
            have HSb := Lib.hid (fun v' w' (h' : Nats w' v' ms) => Stair_any v' ms n' w' hst' h')
            clear hn'
            by_cases hnn : k = n'
            · subst hnn
              have hft := ff_of hst
              have hro := rooks_same hst hst'
              have hss := steeps_same hst hst'
              have HCl := Lib.hid (fun v' w' (h' : Nats w' v' (stL ls)) => Clone_val v' (nats (stL ls)) w' h' (by rw [nats_length, stL_length, hst.len]; omega))
              have HRo := Lib.hid (fun v' w' (h' : Nats w' v' (stL ls)) (hT' : Tab w') => Rooks_val v' (stL ls) k w' (stL_brd hst) h' hT')
              have HRm := Lib.hid (fun v' w' (h' : Nats w' v' (stL ms)) (hT' : Tab w') => Rooks_val v' (stL ms) k w' (stL_brd hst') h' hT')
              have HSm := Lib.hid (fun v' w' (h' : Nats w' v' ms) => Steep_any v' ms k w' hst' h')
              have hht := fun v' w' (h' : Nats w' v' (stL ls)) => Heights_val v' (stL ls) k w' (stL_brd hst) h'
              have he0 : htE (stL ls) = 0 := by unfold htE; rw [hft.ok]; rfl
              have hv0 : htV (stL ls) = nats ls := by unfold htV; rw [hft.ok, if_pos rfl, hft.ht]
              rw [he0, hv0] at hht
              have HHt := Lib.hid hht
              have HEs := Lib.hid (fun v v' xs w h h' => equal_self v v' xs w h h')
              have HDl := Lib.hid (fun w' (hb : Below w.heap.size w w') => rDiff_any _ (nats ls) w' (HV.out.below hb (Nat.le_refl _)) (by rw [nats_length, hst.len]; omega) (nats_bd hst))
              have HDm := Lib.hid (fun w' (hb : Below w.heap.size w w') => rDiff_any _ (nats ms) w' (HU.out.below hb (Nat.le_refl _)) (by rw [nats_length, hst'.len]; omega) (nats_bd hst'))
              have hEy := fun v v' w h h' => equal_any v v' (rookL (stL ls)) (rookL (stL ms)) w h h'
              have hEd := fun v v' w h h' => equal_any v v' (dfL (nats ls)) (dfL (nats ms)) w h h'
              have hEt := fun v v' w h h' => equal_any v v' (steepV (dfL (nats ls))) (steepV (dfL (nats ms))) w h h'
              rw [hro] at hEy
              rw [hss] at hEt
              have HEy := Lib.hid hEy
              have HEd := Lib.hid hEd
              have HEt := Lib.hid hEt
              clear hEy hEd hEt hro hss hft hht he0 hv0 hst hst' hs hs'
              cases hbq : eqB (dfL (nats ls)) (dfL (nats ms)) with
              | false =>
                rw [hbq] at HEy HEd HEt
                clear hbq
                go_wp2_with fail
                refine (HL.out w20 HB20.out).mono ?_
                rintro e w21 ⟨v21, rfl, hv21, hb21⟩
                have HB21 := Lib.hid (HB20.out.trans (hb21.mono HB20.out.size))
                have S_21 := Lib.hid (S_20.out.below hb21 (Nat.le_refl _))
                have A_21 := Lib.hid (hv21)
                clear hb21 hv21
                go_wp2_with fail
                refine (HSa.out v21 w21 A_21.out).mono ?_
                rintro e w22 ⟨v22, rfl, hv22, hb22⟩
                have HB22 := Lib.hid (HB21.out.trans (hb22.mono HB21.out.size))
                have S_22 := Lib.hid (S_21.out.below hb22 (Nat.le_refl _))
                have A_22 := Lib.hid (A_21.out.below hb22 (Nat.le_refl _))
                have U_22 := Lib.hid (hv22)
                clear hb22 hv22
                clear A_22
                go_wp2_with fail
                refine (HLu.out w22 HB22.out).mono ?_
                rintro e w23 ⟨v23, rfl, hv23, hb23⟩
                have HB23 := Lib.hid (HB22.out.trans (hb23.mono HB22.out.size))
                have S_23 := Lib.hid (S_22.out.below hb23 (Nat.le_refl _))
                have U_23 := Lib.hid (U_22.out.below hb23 (Nat.le_refl _))
                have B_23 := Lib.hid (hv23)
                clear hb23 hv23
                go_wp2_with fail
                refine (HSb.out v23 w23 B_23.out).mono ?_
                rintro e w24 ⟨v24, rfl, hv24, hb24⟩
                have HB24 := Lib.hid (HB23.out.trans (hb24.mono HB23.out.size))
                have S_24 := Lib.hid (S_23.out.below hb24 (Nat.le_refl _))
                have U_24 := Lib.hid (U_23.out.below hb24 (Nat.le_refl _))
                have B_24 := Lib.hid (B_23.out.below hb24 (Nat.le_refl _))
                have Z_24 := Lib.hid (hv24)
                clear hb24 hv24
                clear B_24
                go_wp2_with fail
                refine (HCl.out _ w24 U_24.out).mono ?_
                rintro e w25 ⟨v25, rfl, hv25, hb25⟩
                have HB25 := Lib.hid (HB24.out.trans (hb25.mono HB24.out.size))
                have S_25 := Lib.hid (S_24.out.below hb25 (Nat.le_refl _))
                have U_25 := Lib.hid (U_24.out.below hb25 (Nat.le_refl _))
                have Z_25 := Lib.hid (Z_24.out.below hb25 (Nat.le_refl _))
                have C_25 := Lib.hid (hv25)
                clear hb25 hv25
                go_wp2_with fail
                refine (HRo.out _ w25 C_25.out (HTab.out w25 HB25.out)).mono ?_
                rintro e w26 ⟨v26, rfl, hv26, hb26⟩
                have HB26 := Lib.hid (HB25.out.trans (hb26.mono HB25.out.size))
                have S_26 := Lib.hid (S_25.out.below hb26 (Nat.le_refl _))
                have U_26 := Lib.hid (U_25.out.below hb26 (Nat.le_refl _))
                have Z_26 := Lib.hid (Z_25.out.below hb26 (Nat.le_refl _))
                have C_26 := Lib.hid (C_25.out.below hb26 (Nat.le_refl _))
                have Y_26 := Lib.hid (hv26)
                clear hb26 hv26
                clear C_26
                go_wp2_with fail
                refine (HRm.out _ w26 Z_26.out (HTab.out w26 HB26.out)).mono ?_
                rintro e w27 ⟨v27, rfl, hv27, hb27⟩
                have HB27 := Lib.hid (HB26.out.trans (hb27.mono HB26.out.size))
                have S_27 := Lib.hid (S_26.out.below hb27 (Nat.le_refl _))
                have U_27 := Lib.hid (U_26.out.below hb27 (Nat.le_refl _))
                have Z_27 := Lib.hid (Z_26.out.below hb27 (Nat.le_refl _))
                have Y_27 := Lib.hid (Y_26.out.below hb27 (Nat.le_refl _))
                have R_27 := Lib.hid (hv27)
                clear hb27 hv27
                clear Z_27
                go_wp2_with fail
                refine (HLu.out w27 HB27.out).mono ?_
                rintro e w28 ⟨v28, rfl, hv28, hb28⟩
                have HB28 := Lib.hid (HB27.out.trans (hb28.mono HB27.out.size))
                have S_28 := Lib.hid (S_27.out.below hb28 (Nat.le_refl _))
                have U_28 := Lib.hid (U_27.out.below hb28 (Nat.le_refl _))
                have Y_28 := Lib.hid (Y_27.out.below hb28 (Nat.le_refl _))
                have R_28 := Lib.hid (R_27.out.below hb28 (Nat.le_refl _))
                have D_28 := Lib.hid (hv28)
                clear hb28 hv28
                go_wp2_with fail
                refine (HSm.out _ w28 D_28.out).mono ?_
                rintro e w29 ⟨v29, rfl, hv29, hb29⟩
                have HB29 := Lib.hid (HB28.out.trans (hb29.mono HB28.out.size))
                have S_29 := Lib.hid (S_28.out.below hb29 (Nat.le_refl _))
                have U_29 := Lib.hid (U_28.out.below hb29 (Nat.le_refl _))
                have Y_29 := Lib.hid (Y_28.out.below hb29 (Nat.le_refl _))
                have R_29 := Lib.hid (R_28.out.below hb29 (Nat.le_refl _))
                have D_29 := Lib.hid (D_28.out.below hb29 (Nat.le_refl _))
                have T_29 := Lib.hid (hv29)
                clear hb29 hv29
                clear D_29
                go_wp2_with fail
                refine (HHt.out _ w29 U_29.out).mono ?_
                rintro e w30 ⟨v30, rfl, hv30, hb30⟩
                have HB30 := Lib.hid (HB29.out.trans (hb30.mono HB29.out.size))
                have S_30 := Lib.hid (S_29.out.below hb30 (Nat.le_refl _))
                have U_30 := Lib.hid (U_29.out.below hb30 (Nat.le_refl _))
                have Y_30 := Lib.hid (Y_29.out.below hb30 (Nat.le_refl _))
                have R_30 := Lib.hid (R_29.out.below hb30 (Nat.le_refl _))
                have T_30 := Lib.hid (T_29.out.below hb30 (Nat.le_refl _))
                have H_30 := Lib.hid (hv30)
                clear hb30 hv30
                clear U_30
                go_wp2_with fail
                refine (HEs.out _ _ _ w30 H_30.out (HV.out.below HB30.out (Nat.le_refl _))).mono ?_
                rintro e w31 ⟨rfl, hb31⟩
                have HB31 := Lib.hid (HB30.out.trans (hb31.mono HB30.out.size))
                have S_31 := Lib.hid (S_30.out.below hb31 (Nat.le_refl _))
                have Y_31 := Lib.hid (Y_30.out.below hb31 (Nat.le_refl _))
                have R_31 := Lib.hid (R_30.out.below hb31 (Nat.le_refl _))
                have T_31 := Lib.hid (T_30.out.below hb31 (Nat.le_refl _))
                have H_31 := Lib.hid (H_30.out.below hb31 (Nat.le_refl _))
                clear hb31
                clear H_31
                go_wp2_with fail
                refine (HEy.out _ _ w31 Y_31.out R_31.out).mono ?_
                rintro e w32 ⟨rfl, hb32⟩
                have HB32 := Lib.hid (HB31.out.trans (hb32.mono HB31.out.size))
                have S_32 := Lib.hid (S_31.out.below hb32 (Nat.le_refl _))
                have Y_32 := Lib.hid (Y_31.out.below hb32 (Nat.le_refl _))
                have R_32 := Lib.hid (R_31.out.below hb32 (Nat.le_refl _))
                have T_32 := Lib.hid (T_31.out.below hb32 (Nat.le_refl _))
                clear hb32
                go_wp2_with fail
                refine (HDl.out w32 HB32.out).mono ?_
                rintro e w33 ⟨v33, rfl, hv33, hb33⟩
                have HB33 := Lib.hid (HB32.out.trans (hb33.mono HB32.out.size))
                have S_33 := Lib.hid (S_32.out.below hb33 (Nat.le_refl _))
                have Y_33 := Lib.hid (Y_32.out.below hb33 (Nat.le_refl _))
                have R_33 := Lib.hid (R_32.out.below hb33 (Nat.le_refl _))
                have T_33 := Lib.hid (T_32.out.below hb33 (Nat.le_refl _))
                have E_33 := Lib.hid (hv33)
                clear hb33 hv33
                go_wp2_with fail
                refine (HDm.out w33 HB33.out).mono ?_
                rintro e w34 ⟨v34, rfl, hv34, hb34⟩
                have HB34 := Lib.hid (HB33.out.trans (hb34.mono HB33.out.size))
                have S_34 := Lib.hid (S_33.out.below hb34 (Nat.le_refl _))
                have Y_34 := Lib.hid (Y_33.out.below hb34 (Nat.le_refl _))
                have R_34 := Lib.hid (R_33.out.below hb34 (Nat.le_refl _))
                have T_34 := Lib.hid (T_33.out.below hb34 (Nat.le_refl _))
                have E_34 := Lib.hid (E_33.out.below hb34 (Nat.le_refl _))
                have F_34 := Lib.hid (hv34)
                clear hb34 hv34
                go_wp2_with fail
                refine (HEd.out _ _ w34 E_34.out F_34.out).mono ?_
                rintro e w35 ⟨rfl, hb35⟩
                have HB35 := Lib.hid (HB34.out.trans (hb35.mono HB34.out.size))
                have S_35 := Lib.hid (S_34.out.below hb35 (Nat.le_refl _))
                have Y_35 := Lib.hid (Y_34.out.below hb35 (Nat.le_refl _))
                have R_35 := Lib.hid (R_34.out.below hb35 (Nat.le_refl _))
                have T_35 := Lib.hid (T_34.out.below hb35 (Nat.le_refl _))
                have E_35 := Lib.hid (E_34.out.below hb35 (Nat.le_refl _))
                have F_35 := Lib.hid (F_34.out.below hb35 (Nat.le_refl _))
                clear hb35
                clear E_35
                clear F_35
                go_wp2_with fail
                refine (HEt.out _ _ w35 S_35.out T_35.out).mono ?_
                rintro e w36 ⟨rfl, hb36⟩
                have HB36 := Lib.hid (HB35.out.trans (hb36.mono HB35.out.size))
                have S_36 := Lib.hid (S_35.out.below hb36 (Nat.le_refl _))
                have Y_36 := Lib.hid (Y_35.out.below hb36 (Nat.le_refl _))
                have R_36 := Lib.hid (R_35.out.below hb36 (Nat.le_refl _))
                have T_36 := Lib.hid (T_35.out.below hb36 (Nat.le_refl _))
                clear hb36
                clear S_36
                clear T_36
                go_wp2_with fail
                refine (HEy.out _ _ w36 Y_36.out R_36.out).mono ?_
                rintro e w37 ⟨rfl, hb37⟩
                have HB37 := Lib.hid (HB36.out.trans (hb37.mono HB36.out.size))
                have Y_37 := Lib.hid (Y_36.out.below hb37 (Nat.le_refl _))
                have R_37 := Lib.hid (R_36.out.below hb37 (Nat.le_refl _))
                clear hb37
                clear Y_37
                clear R_37
                go_wp2_with fail
                refine (HAw.out w37 HB37.out).mono ?_
                rintro e w38 ⟨rfl, hb38⟩
                have HB38 := Lib.hid (HB37.out.trans (hb38.mono HB37.out.size))
                clear hb38
                go_wp2
                go_ret
                exact ⟨rfl, HB38.out⟩
              | true =>
                rw [hbq] at HEy HEd HEt
                clear hbq
                go_wp2_with fail
                refine (HL.out w20 HB20.out).mono ?_
                rintro e w21 ⟨v21, rfl, hv21, hb21⟩
                have HB21 := Lib.hid (HB20.out.trans (hb21.mono HB20.out.size))
                have S_21 := Lib.hid (S_20.out.below hb21 (Nat.le_refl _))
                have A_21 := Lib.hid (hv21)
                clear hb21 hv21
                go_wp2_with fail
                refine (HSa.out v21 w21 A_21.out).mono ?_
                rintro e w22 ⟨v22, rfl, hv22, hb22⟩
                have HB22 := Lib.hid (HB21.out.trans (hb22.mono HB21.out.size))
                have S_22 := Lib.hid (S_21.out.below hb22 (Nat.le_refl _))
                have A_22 := Lib.hid (A_21.out.below hb22 (Nat.le_refl _))
                have U_22 := Lib.hid (hv22)
                clear hb22 hv22
                clear A_22
                go_wp2_with fail
                refine (HLu.out w22 HB22.out).mono ?_
                rintro e w23 ⟨v23, rfl, hv23, hb23⟩
                have HB23 := Lib.hid (HB22.out.trans (hb23.mono HB22.out.size))
                have S_23 := Lib.hid (S_22.out.below hb23 (Nat.le_refl _))
                have U_23 := Lib.hid (U_22.out.below hb23 (Nat.le_refl _))
                have B_23 := Lib.hid (hv23)
                clear hb23 hv23
                go_wp2_with fail
                refine (HSb.out v23 w23 B_23.out).mono ?_
                rintro e w24 ⟨v24, rfl, hv24, hb24⟩
                have HB24 := Lib.hid (HB23.out.trans (hb24.mono HB23.out.size))
                have S_24 := Lib.hid (S_23.out.below hb24 (Nat.le_refl _))
                have U_24 := Lib.hid (U_23.out.below hb24 (Nat.le_refl _))
                have B_24 := Lib.hid (B_23.out.below hb24 (Nat.le_refl _))
                have Z_24 := Lib.hid (hv24)
                clear hb24 hv24
                clear B_24
                go_wp2_with fail
                refine (HCl.out _ w24 U_24.out).mono ?_
                rintro e w25 ⟨v25, rfl, hv25, hb25⟩
                have HB25 := Lib.hid (HB24.out.trans (hb25.mono HB24.out.size))
                have S_25 := Lib.hid (S_24.out.below hb25 (Nat.le_refl _))
                have U_25 := Lib.hid (U_24.out.below hb25 (Nat.le_refl _))
                have Z_25 := Lib.hid (Z_24.out.below hb25 (Nat.le_refl _))
                have C_25 := Lib.hid (hv25)
                clear hb25 hv25
                go_wp2_with fail
                refine (HRo.out _ w25 C_25.out (HTab.out w25 HB25.out)).mono ?_
                rintro e w26 ⟨v26, rfl, hv26, hb26⟩
                have HB26 := Lib.hid (HB25.out.trans (hb26.mono HB25.out.size))
                have S_26 := Lib.hid (S_25.out.below hb26 (Nat.le_refl _))
                have U_26 := Lib.hid (U_25.out.below hb26 (Nat.le_refl _))
                have Z_26 := Lib.hid (Z_25.out.below hb26 (Nat.le_refl _))
                have C_26 := Lib.hid (C_25.out.below hb26 (Nat.le_refl _))
                have Y_26 := Lib.hid (hv26)
                clear hb26 hv26
                clear C_26
                go_wp2_with fail
                refine (HRm.out _ w26 Z_26.out (HTab.out w26 HB26.out)).mono ?_
                rintro e w27 ⟨v27, rfl, hv27, hb27⟩
                have HB27 := Lib.hid (HB26.out.trans (hb27.mono HB26.out.size))
                have S_27 := Lib.hid (S_26.out.below hb27 (Nat.le_refl _))
                have U_27 := Lib.hid (U_26.out.below hb27 (Nat.le_refl _))
                have Z_27 := Lib.hid (Z_26.out.below hb27 (Nat.le_refl _))
                have Y_27 := Lib.hid (Y_26.out.below hb27 (Nat.le_refl _))
                have R_27 := Lib.hid (hv27)
                clear hb27 hv27
                clear Z_27
                go_wp2_with fail
                refine (HLu.out w27 HB27.out).mono ?_
                rintro e w28 ⟨v28, rfl, hv28, hb28⟩
                have HB28 := Lib.hid (HB27.out.trans (hb28.mono HB27.out.size))
                have S_28 := Lib.hid (S_27.out.below hb28 (Nat.le_refl _))
                have U_28 := Lib.hid (U_27.out.below hb28 (Nat.le_refl _))
                have Y_28 := Lib.hid (Y_27.out.below hb28 (Nat.le_refl _))
                have R_28 := Lib.hid (R_27.out.below hb28 (Nat.le_refl _))
                have D_28 := Lib.hid (hv28)
                clear hb28 hv28
                go_wp2_with fail
                refine (HSm.out _ w28 D_28.out).mono ?_
                rintro e w29 ⟨v29, rfl, hv29, hb29⟩
                have HB29 := Lib.hid (HB28.out.trans (hb29.mono HB28.out.size))
                have S_29 := Lib.hid (S_28.out.below hb29 (Nat.le_refl _))
                have U_29 := Lib.hid (U_28.out.below hb29 (Nat.le_refl _))
                have Y_29 := Lib.hid (Y_28.out.below hb29 (Nat.le_refl _))
                have R_29 := Lib.hid (R_28.out.below hb29 (Nat.le_refl _))
                have D_29 := Lib.hid (D_28.out.below hb29 (Nat.le_refl _))
                have T_29 := Lib.hid (hv29)
                clear hb29 hv29
                clear D_29
                go_wp2_with fail
                refine (HHt.out _ w29 U_29.out).mono ?_
                rintro e w30 ⟨v30, rfl, hv30, hb30⟩
                have HB30 := Lib.hid (HB29.out.trans (hb30.mono HB29.out.size))
                have S_30 := Lib.hid (S_29.out.below hb30 (Nat.le_refl _))
                have U_30 := Lib.hid (U_29.out.below hb30 (Nat.le_refl _))
                have Y_30 := Lib.hid (Y_29.out.below hb30 (Nat.le_refl _))
                have R_30 := Lib.hid (R_29.out.below hb30 (Nat.le_refl _))
                have T_30 := Lib.hid (T_29.out.below hb30 (Nat.le_refl _))
                have H_30 := Lib.hid (hv30)
                clear hb30 hv30
                clear U_30
                go_wp2_with fail
                refine (HEs.out _ _ _ w30 H_30.out (HV.out.below HB30.out (Nat.le_refl _))).mono ?_
                rintro e w31 ⟨rfl, hb31⟩
                have HB31 := Lib.hid (HB30.out.trans (hb31.mono HB30.out.size))
                have S_31 := Lib.hid (S_30.out.below hb31 (Nat.le_refl _))
                have Y_31 := Lib.hid (Y_30.out.below hb31 (Nat.le_refl _))
                have R_31 := Lib.hid (R_30.out.below hb31 (Nat.le_refl _))
                have T_31 := Lib.hid (T_30.out.below hb31 (Nat.le_refl _))
                have H_31 := Lib.hid (H_30.out.below hb31 (Nat.le_refl _))
                clear hb31
                clear H_31
                go_wp2_with fail
                refine (HEy.out _ _ w31 Y_31.out R_31.out).mono ?_
                rintro e w32 ⟨rfl, hb32⟩
                have HB32 := Lib.hid (HB31.out.trans (hb32.mono HB31.out.size))
                have S_32 := Lib.hid (S_31.out.below hb32 (Nat.le_refl _))
                have Y_32 := Lib.hid (Y_31.out.below hb32 (Nat.le_refl _))
                have R_32 := Lib.hid (R_31.out.below hb32 (Nat.le_refl _))
                have T_32 := Lib.hid (T_31.out.below hb32 (Nat.le_refl _))
                clear hb32
                go_wp2_with fail
                refine (HDl.out w32 HB32.out).mono ?_
                rintro e w33 ⟨v33, rfl, hv33, hb33⟩
                have HB33 := Lib.hid (HB32.out.trans (hb33.mono HB32.out.size))
                have S_33 := Lib.hid (S_32.out.below hb33 (Nat.le_refl _))
                have Y_33 := Lib.hid (Y_32.out.below hb33 (Nat.le_refl _))
                have R_33 := Lib.hid (R_32.out.below hb33 (Nat.le_refl _))
                have T_33 := Lib.hid (T_32.out.below hb33 (Nat.le_refl _))
                have E_33 := Lib.hid (hv33)
                clear hb33 hv33
                go_wp2_with fail
                refine (HDm.out w33 HB33.out).mono ?_
                rintro e w34 ⟨v34, rfl, hv34, hb34⟩
                have HB34 := Lib.hid (HB33.out.trans (hb34.mono HB33.out.size))
                have S_34 := Lib.hid (S_33.out.below hb34 (Nat.le_refl _))
                have Y_34 := Lib.hid (Y_33.out.below hb34 (Nat.le_refl _))
                have R_34 := Lib.hid (R_33.out.below hb34 (Nat.le_refl _))
                have T_34 := Lib.hid (T_33.out.below hb34 (Nat.le_refl _))
                have E_34 := Lib.hid (E_33.out.below hb34 (Nat.le_refl _))
                have F_34 := Lib.hid (hv34)
                clear hb34 hv34
                go_wp2_with fail
                refine (HEd.out _ _ w34 E_34.out F_34.out).mono ?_
                rintro e w35 ⟨rfl, hb35⟩
                have HB35 := Lib.hid (HB34.out.trans (hb35.mono HB34.out.size))
                have S_35 := Lib.hid (S_34.out.below hb35 (Nat.le_refl _))
                have Y_35 := Lib.hid (Y_34.out.below hb35 (Nat.le_refl _))
                have R_35 := Lib.hid (R_34.out.below hb35 (Nat.le_refl _))
                have T_35 := Lib.hid (T_34.out.below hb35 (Nat.le_refl _))
                have E_35 := Lib.hid (E_34.out.below hb35 (Nat.le_refl _))
                have F_35 := Lib.hid (F_34.out.below hb35 (Nat.le_refl _))
                clear hb35
                clear E_35
                clear F_35
                go_wp2_with fail
                refine (HEt.out _ _ w35 S_35.out T_35.out).mono ?_
                rintro e w36 ⟨rfl, hb36⟩
                have HB36 := Lib.hid (HB35.out.trans (hb36.mono HB35.out.size))
                have S_36 := Lib.hid (S_35.out.below hb36 (Nat.le_refl _))
                have Y_36 := Lib.hid (Y_35.out.below hb36 (Nat.le_refl _))
                have R_36 := Lib.hid (R_35.out.below hb36 (Nat.le_refl _))
                have T_36 := Lib.hid (T_35.out.below hb36 (Nat.le_refl _))
                clear hb36
                clear S_36
                clear T_36
                go_wp2_with fail
                refine (HEy.out _ _ w36 Y_36.out R_36.out).mono ?_
                rintro e w37 ⟨rfl, hb37⟩
                have HB37 := Lib.hid (HB36.out.trans (hb37.mono HB36.out.size))
                have Y_37 := Lib.hid (Y_36.out.below hb37 (Nat.le_refl _))
                have R_37 := Lib.hid (R_36.out.below hb37 (Nat.le_refl _))
                clear hb37
                clear Y_37
                clear R_37
                go_wp2_with fail
                refine (HAw.out w37 HB37.out).mono ?_
                rintro e w38 ⟨rfl, hb38⟩
                have HB38 := Lib.hid (HB37.out.trans (hb38.mono HB37.out.size))
                clear hb38
                go_wp2
                go_ret
                exact ⟨rfl, HB38.out⟩
            · have hne : ((k : Int) != (n' : Int)) = true := bne_iff_ne.2 fun h => hnn (by exact_mod_cast h)
              clear hnn
              go_wp2_with fail
              refine (HL.out w20 HB20.out).mono ?_
              rintro e w21 ⟨v21, rfl, hv21, hb21⟩
              have HB21 := Lib.hid (HB20.out.trans (hb21.mono HB20.out.size))
              have S_21 := Lib.hid (S_20.out.below hb21 (Nat.le_refl _))
              have A_21 := Lib.hid (hv21)
              clear hb21 hv21
              go_wp2_with fail
              refine (HSa.out v21 w21 A_21.out).mono ?_
              rintro e w22 ⟨v22, rfl, hv22, hb22⟩
              have HB22 := Lib.hid (HB21.out.trans (hb22.mono HB21.out.size))
              have S_22 := Lib.hid (S_21.out.below hb22 (Nat.le_refl _))
              have A_22 := Lib.hid (A_21.out.below hb22 (Nat.le_refl _))
              have U_22 := Lib.hid (hv22)
              clear hb22 hv22
              clear A_22
              go_wp2_with fail
              refine (HLu.out w22 HB22.out).mono ?_
              rintro e w23 ⟨v23, rfl, hv23, hb23⟩
              have HB23 := Lib.hid (HB22.out.trans (hb23.mono HB22.out.size))
              have S_23 := Lib.hid (S_22.out.below hb23 (Nat.le_refl _))
              have U_23 := Lib.hid (U_22.out.below hb23 (Nat.le_refl _))
              have B_23 := Lib.hid (hv23)
              clear hb23 hv23
              go_wp2_with fail
              refine (HSb.out v23 w23 B_23.out).mono ?_
              rintro e w24 ⟨v24, rfl, hv24, hb24⟩
              have HB24 := Lib.hid (HB23.out.trans (hb24.mono HB23.out.size))
              have S_24 := Lib.hid (S_23.out.below hb24 (Nat.le_refl _))
              have U_24 := Lib.hid (U_23.out.below hb24 (Nat.le_refl _))
              have B_24 := Lib.hid (B_23.out.below hb24 (Nat.le_refl _))
              have Z_24 := Lib.hid (hv24)
              clear hb24 hv24
              clear B_24
              go_wp2_with fail
              refine (HAw.out w24 HB24.out).mono ?_
              rintro e w25 ⟨rfl, hb25⟩
              have HB25 := Lib.hid (HB24.out.trans (hb25.mono HB24.out.size))
              have S_25 := Lib.hid (S_24.out.below hb25 (Nat.le_refl _))
              have U_25 := Lib.hid (U_24.out.below hb25 (Nat.le_refl _))
              have Z_25 := Lib.hid (Z_24.out.below hb25 (Nat.le_refl _))
              clear hb25
              go_wp2
              go_ret
              exact ⟨rfl, HB25.out⟩
end Go.Proofs.YtellnklbkjajbaaDoor
