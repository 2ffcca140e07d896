/- the reference's permutations: the step; the reference's search for a steep sequence; RooksSteep: the walk -/
import Derived.Test.YtellnklbkjajbaaDoorPv
import Derived.Test.YtellnklbkjajbaaDoorHc
import Derived.Test.YtellnklbkjajbaaDoorUq
import Derived.Test.YtellnklbkjajbaaDoorOp
namespace Go.Proofs.YtellnklbkjajbaaDoor
open Go.RowKit

theorem u46 : Tryd.prog.underlying 46 = some (.slice 22) := by kernel_rfl
theorem Tryd.info22 : (Tryd.prog.info? 22).map (fun i => (i.zero, i.size, i.bytes)) = some (some (.slice none 0 0), 1, 24) := by kernel_rfl
theorem info_partsS {j : Nat} {z : Value} {s b : Nat} (h : (Tryd.prog.info? j).map (fun i => (i.zero, i.size, i.bytes)) = some (some z, s, b)) : ∃ i, Tryd.prog.info? j = some i ∧ i.zero = some z ∧ i.size = s ∧ i.bytes = b := by
  cases hi : Tryd.prog.info? j with
  | none => rw [hi] at h; cases h
  | some i =>
    rw [hi] at h
    simp only [Option.map_some, Option.some.injEq, Prod.mk.injEq] at h
    exact ⟨i, rfl, h.1, h.2.1, h.2.2⟩
theorem owns_low {w : World} {B C e s n : Nat} {v : Value} {xs : List Value} (h : w.ownsRow B e s v n xs) (hC : C ≤ B) : w.ownsRow C e s v n xs := by
  obtain ⟨h1, h2⟩ := h
  refine ⟨h1, ?_⟩
  rcases h2 with h2 | ⟨g, cap, cur, e1, e2, e3⟩
  · exact .inl h2
  · exact .inr ⟨g, cap, cur, e1, Nat.le_trans hC e2, e3⟩
theorem owns_lit {w : World} {B e s n : Nat} {v : Value} {xs : List Value} (h : w.ownsRow B e s v n xs) (hn : 0 < n) : ∃ g c, v = .slice (some ⟨g, 0, none⟩) n c := by
  obtain ⟨_, h2⟩ := h
  rcases h2 with ⟨_, h2⟩ | ⟨g, cap, cur, e1, _⟩
  · omega
  · exact ⟨g, cap, e1⟩
theorem Bg_snoc {w : World} {B C : Nat} {v : Value} {q : List Nat} {j : Nat} (h : w.ownsRow B 3 1 v (q.length + 1) (ints (nats q) ++ [.int .i64 (j : Nat)])) (hC : C ≤ B) : Bg C w v (q ++ [j]) := by
  have h1 := owns_low h hC
  unfold Bg
  have e1 : (nats (q ++ [j])).length = q.length + 1 := by simp [nats]
  have e2 : ints (nats (q ++ [j])) = ints (nats q) ++ [.int .i64 (j : Nat)] := by simp [nats, ints]
  rw [e1, e2]
  exact h1
theorem grow_below {w w' : World} {o : Obj} (h : ((w.alloc o).drew).grownBy w' none) : Below w.heap.size w w' := ((Below.refl _ w).alloc (Nat.le_refl _) o).grown (grownBy_undrew h) (by simp) fun k e => by cases e

/-- What a call answers. -/
def PermPost (D B : Nat) (ps : List (List Nat)) (w : World) (e : Ending) (w' : World) : Prop := ∃ v' vals, e = .returned v' ∧ w'.ownsRow B 22 1 v' vals.length vals ∧ PV D w' vals ps ∧ Below B w w'


set_option maxRecDepth 100000 in
set_option maxHeartbeats 4000000 in
theorem permuted_step (B0 n m tk : Nat) (q : List Nat) (w : World) (g c : Nat) (hg : Bg B0 w (.slice (some ⟨g, 0, none⟩) q.length c) q) (hB0 : B0 ≤ w.heap.size) (hn : n ≤ 6) (hq : q.length + (m + 1) = n) (htk : tk < 64) (hfl : fl (sub (2 ^ n - 1) tk) = m + 1)
    (IH : ∀ (tk : Nat) (q' : List Nat) (v : Value) (w : World), Bg B0 w v q' → B0 ≤ w.heap.size → q'.length + m = n → tk < 64 → fl (sub (2 ^ n - 1) tk) = m →
      Calls Tryd.prog 80 #[.int .i64 n, .int .i64 tk, v] w (PermPost B0 w.heap.size ((comps (2 ^ n - 1) m tk).map fun p => q' ++ p) w)) :
    Calls Tryd.prog 80 #[.int .i64 n, .int .i64 tk, .slice (some ⟨g, 0, none⟩) q.length c] w (PermPost B0 w.heap.size ((comps (2 ^ n - 1) (m + 1) tk).map fun p => q ++ p) w) := by
  have hne : ((q.length:Int) == (n:Int)) = false := by simp; omega
  have HIH := Lib.hid IH
  have hfull := pw6 n hn
  have HE := Lib.hid (cJ_end hn m tk q)
  have HBg := Lib.hid hg
  obtain ⟨hlc, hg1⟩ : q.length ≤ c ∧ g < w.heap.size := by
    obtain ⟨_, h2⟩ := hg
    rw [nats_length] at h2
    rcases h2 with ⟨e, _⟩ | ⟨g', cap, cur, e, _, e3, e4, _⟩
    · cases e
    · simp only [Value.slice.injEq, Option.some.injEq, Addr.mk.injEq] at e
      obtain ⟨⟨rfl, _⟩, _, rfl⟩ := e
      exact ⟨e4, lt_of_block e3⟩
  have HCell : Hid (∀ j u, (ints (nats q))[j]? = some u → w.cell? ⟨g, j, none⟩ = some u) := Lib.hid fun j u hj => by
    unfold Bg at hg
    rw [nats_length] at hg
    have hlt := (List.getElem?_eq_some_iff.1 hj).1
    rw [ints_length, nats_length] at hlt
    rw [World.ownsRow.cellAt hg j (by omega), hj]
  have hl0 : (0:Int) ≤ (q.length:Int) := by omega
  have hlc' : (q.length:Int) ≤ (c:Int) := by omega
  clear hg
  obtain ⟨i3, hi3, hz0, hz1, hz2⟩ := info_parts Tryd.info3
  obtain ⟨i22, hi22, hy0, hy1, hy2⟩ := info_partsS Tryd.info22
  clear IH
  go_enter Tryd.func80, Tryd.ntmps80
  go_wp2_with fail
  go_loopw [7, 16] (fun s ii wr => ∃ (j : Nat) (vals : List Value), j ≤ n ∧ vals.length ≤ j * 720 ∧ ii = .int .i64 j ∧ wr.ownsRow w.heap.size 22 1 s vals.length vals ∧ PV B0 wr vals (cJ (2 ^ n - 1) m tk q j) ∧ Below w.heap.size w wr) (fun _ ii _ => n - (intOf ii).toNat)
  case atStart => exact ⟨0, [], Nat.zero_le _, Nat.zero_le _, rfl, World.ownsRow_nil _ _ _ _, trivial, Below.refl _ _⟩
  case round =>
    obtain ⟨j, vals, hj, hvl, rfl, hO, hPV, hb⟩ := hrel
    have HO := Lib.hid hO
    have HPV := Lib.hid hPV
    have HB := Lib.hid hb
    obtain ⟨ao', c', rfl⟩ := owns_form hO
    clear hO hPV hb
    have HS := Lib.hid (cJ_succ (2 ^ n - 1) m tk q j)
    by_cases hlt : j < n
    · have hb2 := bit_and1 tk j (by omega)
      have hbt : (sub (2 ^ n - 1) tk).testBit j = !tk.testBit j := by
        rw [sub_bit, Nat.testBit_two_pow_sub_one, decide_eq_true hlt]; rfl
      rw [hbt] at HS
      cases htb : tk.testBit j with
      | true =>
        rw [htb] at hb2 HS
        have hb2' : bits .and .i64 ((tk:Int) / 2 ^ j) 1 = 1 := hb2
        clear hb2 htb hbt
        go_wp2_with fail
        go_roundw
        case rel => exact ⟨j + 1, vals, by omega, by omega, by go_num, HO.out, by rw [HS.out]; exact HPV.out, HB.out⟩
        case measure => simp [intOf]; omega
      | false =>
        rw [htb] at hb2 HS hbt
        have hb2' : bits .and .i64 ((tk:Int) / 2 ^ j) 1 = 0 := hb2
        have hp32 : 2 ^ j ≤ 32 := Nat.pow_le_pow_right (n := 2) (by decide) (show j ≤ 5 by omega)
        have hor : bits .or .i64 (tk:Int) ((2:Int) ^ j) = ((tk ||| 2 ^ j : Nat) : Int) := by rw [← pw_cast]; exact i64_or _ _ (by omega) (by omega)
        have hd3 : IntKind.i64.wrap ((2:Int) ^ j) = (2:Int) ^ j := by have := pw_bd j (by omega); exact i64_of (by omega) (by omega)
        have htk2 : tk ||| 2 ^ j < 64 := Nat.or_lt_two_pow (n := 6) htk (Nat.pow_lt_pow_right (by decide) (by omega))
        have hfl2 : fl (sub (2 ^ n - 1) (tk ||| 2 ^ j)) = m := by
          have := fl_less (s := sub (2 ^ n - 1) tk) (j := j) (by omega) (by rw [hbt]; rfl)
          rw [← sub_or] at this
          omega
        have HLen := Lib.hid (comps_len (2 ^ n - 1) (by omega) m (tk ||| 2 ^ j) hfl2)
        have HCl := Lib.hid (HIH.out (tk ||| 2 ^ j) (q ++ [j]))
        have hB0wr : B0 ≤ wr.heap.size := Nat.le_trans hB0 HB.out.size
        have hB0W : B0 ≤ (wr.alloc (.cells #[.int .i64 (j : Nat)] 3)).drew.heap.size := Nat.le_trans hB0wr (by simp)
        have hf7 : fac m ≤ 720 := fac_le m (by omega)
        have hql : (q ++ [j]).length + m = n := by rw [List.length_append]; simp; omega
        have hnq : nats (q ++ [j]) = nats q ++ [(j:Int)] := by simp [nats]
        clear hb2 htb hbt hp32 HIH HE
        generalize tk ||| 2 ^ j = tk2 at *
        go_wp2_with fail
        go_region_held3 (fun _ => True) (trivial) ((first
          | (go_at_call 80; refine (HCl.out v2 w2 (Bg_snoc hown2 hB0W) (Nat.le_trans hB0wr (grow_below hg2).size) hql htk2 hfl2).mono ?_; rintro e w3 ⟨v3, vals3, rfl, hown3, hPV3, hb3⟩; have hl3 : vals3.length = fac m := (by rw [hPV3.length, List.length_map, HLen.out]); obtain ⟨g3, c3', rfl⟩ := owns_lit hown3 (by have := fac_pos m; omega))
          | (rw [if_pos (by rfl)]; refine wp_append_grows _ _ _ 22 rfl 3 i3 (.int .i64 0) 1 8 Tryd.underlying22 hi3 hz0 hz1 hz2 rfl (by decide) _ _ _ (ints (nats q)) rfl (fun e => by cases e) (by rw [ints_length, nats_length, Nat.mul_one]) (fun b0 hb0 i0 u hu => by (cases hb0; rw [Addr.add_lit, Nat.zero_add]; exact alloc_cell _ (ck (HCell.out _ _ hu) HB.out))) ⟨wr.heap.size, 0, none⟩ 1 1 [.int .i64 (j : Nat)] rfl rfl (newOne _ _ _) (oneInt _) (by omega) (by unfold maxLen; omega) (by omega) ?_; intro v2 w2 hown2 hg2)
          | (rw [if_pos (by rfl)]
             have c1 := owns_below (owns_below HO.out (grow_below hg2) (Nat.le_refl _)) hb3 (Nat.le_refl _)
             have c3 : ∀ k u, vals3[k]? = some u → w3.cell? ((⟨g3, 0, none⟩ : Addr).add k) = some u := (fun k u hu => by (have hlt := (List.getElem?_eq_some_iff.1 hu).1; rw [Addr.add_lit, Nat.zero_add, World.ownsRow.cellAt hown3 k (by omega), hu]))
             refine wp_append_own _ _ _ 46 rfl w.heap.size 22 i22 (.slice none 0 0) 1 24 u46 hi22 hy0 hy1 hy2 rfl (by decide) _ _ _ rfl c1 ⟨g3, 0, none⟩ (fac m) c3' vals3 rfl (by rw [hl3, Nat.mul_one]) c3 (PV.one hPV3) (by unfold maxLen; omega) (by omega) (by have := HB.out.size; have := (grow_below hg2).size; have := hb3.size; omega) ?_
             intro v4 w4 hown4 hg4 _)))
        have hBr3 : Below wr.heap.size wr w3 := (grow_below hg2).trans (hb3.mono (grow_below hg2).size)
        have HPV4 : Hid (PV B0 w4 (vals ++ vals3) (cJ (2 ^ n - 1) m tk q (j + 1))) := Lib.hid (by
          rw [HS.out]
          exact PV.append (PV.imp (fun x p h => Bg.row (Bg.below h hBr3) c1 hg4) HPV.out) (PV.imp (fun x p h => Bg.row h c1 hg4) hPV3))
        have HO4 : Hid (w4.ownsRow w.heap.size 22 1 v4 (vals ++ vals3).length (vals ++ vals3)) := Lib.hid (by rw [List.length_append, hl3]; exact hown4)
        have HB4 : Hid (Below w.heap.size w w4) := Lib.hid ((HB.out.trans (hBr3.mono HB.out.size)).grown hg4 (Nat.le_trans HB.out.size hBr3.size) fun k e => (c1.lt k e).1)
        have hvl4 : (vals ++ vals3).length ≤ (j + 1) * 720 := by rw [List.length_append, hl3]; omega
        clear hBr3 hown4 hg4 hPV3 hown3 hb3 hown2 hg2
        go_wp2_with fail
        go_roundw
        case rel => exact ⟨j + 1, vals ++ vals3, by omega, hvl4, by go_num, HO4.out, HPV4.out, HB4.out⟩
        case measure => simp [intOf]; omega
    · obtain rfl : j = n := by omega
      have HPE : Hid (PV B0 wr vals ((comps (2 ^ j - 1) (m + 1) tk).map fun p => q ++ p)) := Lib.hid (by rw [← HE.out]; exact HPV.out)
      go_wp2_with fail
      go_ret
      exact ⟨_, vals, rfl, HO.out, HPE.out, HB.out⟩

set_option maxRecDepth 100000 in
set_option maxHeartbeats 4000000 in
theorem permuted_nil (B0 n m tk : Nat) (w : World)  (hB0 : B0 ≤ w.heap.size) (hn : n ≤ 6) (hq : m + 1 = n) (htk : tk < 64) (hfl : fl (sub (2 ^ n - 1) tk) = m + 1)
    (IH : ∀ (tk : Nat) (q' : List Nat) (v : Value) (w : World), Bg B0 w v q' → B0 ≤ w.heap.size → q'.length + m = n → tk < 64 → fl (sub (2 ^ n - 1) tk) = m →
      Calls Tryd.prog 80 #[.int .i64 n, .int .i64 tk, v] w (PermPost B0 w.heap.size ((comps (2 ^ n - 1) m tk).map fun p => q' ++ p) w)) :
    Calls Tryd.prog 80 #[.int .i64 n, .int .i64 tk, .slice none 0 0] w (PermPost B0 w.heap.size ((comps (2 ^ n - 1) (m + 1) tk).map fun p => [] ++ p) w) := by
  have hne : ((0:Int) == (n:Int)) = false := beq_eq_false_iff_ne.2 (by omega)
  have HIH := Lib.hid IH
  have hfull := pw6 n hn
  have HE := Lib.hid (cJ_end hn m tk [])
  have hl0 : (0:Int) ≤ 0 := by omega
  obtain ⟨i3, hi3, hz0, hz1, hz2⟩ := info_parts Tryd.info3
  obtain ⟨i22, hi22, hy0, hy1, hy2⟩ := info_partsS Tryd.info22
  clear IH
  go_enter Tryd.func80, Tryd.ntmps80
  go_wp2_with fail
  go_loopw [7, 16] (fun s ii wr => ∃ (j : Nat) (vals : List Value), j ≤ n ∧ vals.length ≤ j * 720 ∧ ii = .int .i64 j ∧ wr.ownsRow w.heap.size 22 1 s vals.length vals ∧ PV B0 wr vals (cJ (2 ^ n - 1) m tk [] j) ∧ Below w.heap.size w wr) (fun _ ii _ => n - (intOf ii).toNat)
  case atStart => exact ⟨0, [], Nat.zero_le _, Nat.zero_le _, rfl, World.ownsRow_nil _ _ _ _, trivial, Below.refl _ _⟩
  case round =>
    obtain ⟨j, vals, hj, hvl, rfl, hO, hPV, hb⟩ := hrel
    have HO := Lib.hid hO
    have HPV := Lib.hid hPV
    have HB := Lib.hid hb
    obtain ⟨ao', c', rfl⟩ := owns_form hO
    clear hO hPV hb
    have HS := Lib.hid (cJ_succ (2 ^ n - 1) m tk [] j)
    by_cases hlt : j < n
    · have hb2 := bit_and1 tk j (by omega)
      have hbt : (sub (2 ^ n - 1) tk).testBit j = !tk.testBit j := by
        rw [sub_bit, Nat.testBit_two_pow_sub_one, decide_eq_true hlt]; rfl
      rw [hbt] at HS
      cases htb : tk.testBit j with
      | true =>
        rw [htb] at hb2 HS
        have hb2' : bits .and .i64 ((tk:Int) / 2 ^ j) 1 = 1 := hb2
        clear hb2 htb hbt
        go_wp2_with fail
        go_roundw
        case rel => exact ⟨j + 1, vals, by omega, by omega, by go_num, HO.out, by rw [HS.out]; exact HPV.out, HB.out⟩
        case measure => simp [intOf]; omega
      | false =>
        rw [htb] at hb2 HS hbt
        have hb2' : bits .and .i64 ((tk:Int) / 2 ^ j) 1 = 0 := hb2
        have hp32 : 2 ^ j ≤ 32 := Nat.pow_le_pow_right (n := 2) (by decide) (show j ≤ 5 by omega)
        have hor : bits .or .i64 (tk:Int) ((2:Int) ^ j) = ((tk ||| 2 ^ j : Nat) : Int) := by rw [← pw_cast]; exact i64_or _ _ (by omega) (by omega)
        have hd3 : IntKind.i64.wrap ((2:Int) ^ j) = (2:Int) ^ j := by have := pw_bd j (by omega); exact i64_of (by omega) (by omega)
        have htk2 : tk ||| 2 ^ j < 64 := Nat.or_lt_two_pow (n := 6) htk (Nat.pow_lt_pow_right (by decide) (by omega))
        have hfl2 : fl (sub (2 ^ n - 1) (tk ||| 2 ^ j)) = m := by
          have := fl_less (s := sub (2 ^ n - 1) tk) (j := j) (by omega) (by rw [hbt]; rfl)
          rw [← sub_or] at this
          omega
        have HLen := Lib.hid (comps_len (2 ^ n - 1) (by omega) m (tk ||| 2 ^ j) hfl2)
        have HCl := Lib.hid (HIH.out (tk ||| 2 ^ j) ([] ++ [j]))
        have hB0wr : B0 ≤ wr.heap.size := Nat.le_trans hB0 HB.out.size
        have hB0W : B0 ≤ (wr.alloc (.cells #[.int .i64 (j : Nat)] 3)).drew.heap.size := Nat.le_trans hB0wr (by simp)
        have hf7 : fac m ≤ 720 := fac_le m (by omega)
        have hql : ([] ++ [j]).length + m = n := by rw [List.length_append]; simp; omega
        have hnq : nats ([] ++ [j]) = nats [] ++ [(j:Int)] := by simp [nats]
        clear hb2 htb hbt hp32 HIH HE
        generalize tk ||| 2 ^ j = tk2 at *
        go_wp2_with fail
        go_region_held3 (fun _ => True) (trivial) ((first
          | (go_at_call 80; refine (HCl.out v2 w2 (Bg_snoc (q := []) hown2 hB0W) (Nat.le_trans hB0wr (grow_below hg2).size) hql htk2 hfl2).mono ?_; rintro e w3 ⟨v3, vals3, rfl, hown3, hPV3, hb3⟩; have hl3 : vals3.length = fac m := (by rw [hPV3.length, List.length_map, HLen.out]); obtain ⟨g3, c3', rfl⟩ := owns_lit hown3 (by have := fac_pos m; omega))
          | (rw [if_pos (by rfl)]; refine wp_append_grows _ _ _ 22 rfl 3 i3 (.int .i64 0) 1 8 Tryd.underlying22 hi3 hz0 hz1 hz2 rfl (by decide) _ _ _ (ints (nats [])) rfl (fun _ => ⟨rfl, rfl⟩) (by simp [ints, nats]) (fun b0 hb0 => by cases hb0) ⟨wr.heap.size, 0, none⟩ 1 1 [.int .i64 (j : Nat)] rfl rfl (newOne _ _ _) (oneInt _) (by omega) (by unfold maxLen; omega) (by omega) ?_; intro v2 w2 hown2 hg2)
          | (rw [if_pos (by rfl)]
             have c1 := owns_below (owns_below HO.out (grow_below hg2) (Nat.le_refl _)) hb3 (Nat.le_refl _)
             have c3 : ∀ k u, vals3[k]? = some u → w3.cell? ((⟨g3, 0, none⟩ : Addr).add k) = some u := (fun k u hu => by (have hlt := (List.getElem?_eq_some_iff.1 hu).1; rw [Addr.add_lit, Nat.zero_add, World.ownsRow.cellAt hown3 k (by omega), hu]))
             refine wp_append_own _ _ _ 46 rfl w.heap.size 22 i22 (.slice none 0 0) 1 24 u46 hi22 hy0 hy1 hy2 rfl (by decide) _ _ _ rfl c1 ⟨g3, 0, none⟩ (fac m) c3' vals3 rfl (by rw [hl3, Nat.mul_one]) c3 (PV.one hPV3) (by unfold maxLen; omega) (by omega) (by have := HB.out.size; have := (grow_below hg2).size; have := hb3.size; omega) ?_
             intro v4 w4 hown4 hg4 _)))
        have hBr3 : Below wr.heap.size wr w3 := (grow_below hg2).trans (hb3.mono (grow_below hg2).size)
        have HPV4 : Hid (PV B0 w4 (vals ++ vals3) (cJ (2 ^ n - 1) m tk [] (j + 1))) := Lib.hid (by
          rw [HS.out]
          exact PV.append (PV.imp (fun x p h => Bg.row (Bg.below h hBr3) c1 hg4) HPV.out) (PV.imp (fun x p h => Bg.row h c1 hg4) hPV3))
        have HO4 : Hid (w4.ownsRow w.heap.size 22 1 v4 (vals ++ vals3).length (vals ++ vals3)) := Lib.hid (by rw [List.length_append, hl3]; exact hown4)
        have HB4 : Hid (Below w.heap.size w w4) := Lib.hid ((HB.out.trans (hBr3.mono HB.out.size)).grown hg4 (Nat.le_trans HB.out.size hBr3.size) fun k e => (c1.lt k e).1)
        have hvl4 : (vals ++ vals3).length ≤ (j + 1) * 720 := by rw [List.length_append, hl3]; omega
        clear hBr3 hown4 hg4 hPV3 hown3 hb3 hown2 hg2
        go_wp2_with fail
        go_roundw
        case rel => exact ⟨j + 1, vals ++ vals3, by omega, hvl4, by go_num, HO4.out, HPV4.out, HB4.out⟩
        case measure => simp [intOf]; omega
    · obtain rfl : j = n := by omega
      have HPE : Hid (PV B0 wr vals ((comps (2 ^ j - 1) (m + 1) tk).map fun p => [] ++ p)) := Lib.hid (by rw [← HE.out]; exact HPV.out)
      go_wp2_with fail
      go_ret
      exact ⟨_, vals, rfl, HO.out, HPE.out, HB.out⟩

theorem permuted_any (B0 n : Nat) (hn : n ≤ 6) : ∀ (m tk : Nat) (q : List Nat) (v : Value) (w : World), Bg B0 w v q → B0 ≤ w.heap.size → q.length + m = n → tk < 64 → fl (sub (2 ^ n - 1) tk) = m →
    Calls Tryd.prog 80 #[.int .i64 n, .int .i64 tk, v] w (PermPost B0 w.heap.size ((comps (2 ^ n - 1) m tk).map fun p => q ++ p) w) := by
  intro m
  induction m with
  | zero =>
    intro tk q v w hB _ hq _ _
    obtain ⟨ao, c, rfl⟩ := owns_form hB
    have hl : (nats q).length = n := by rw [nats_length]; omega
    have HO : Hid ((w.alloc (.cells #[.slice ao n c] 22)).ownsRow w.heap.size 22 1 (.slice (some ⟨w.heap.size, 0, none⟩) 1 1) 1 [.slice ao n c]) := Lib.hid (World.ownsRow_lit (size := 1) w #[.slice ao n c] 1 (Nat.le_refl _) (by unfold maxLen; omega) rfl)
    have HB' : Hid (Bg B0 (w.alloc (.cells #[.slice ao n c] 22)) (.slice ao n c) q) := Lib.hid (by rw [hl] at hB; exact Bg.below hB ((Below.refl _ _).alloc (Nat.le_refl _) _))
    rw [hl]
    clear hB
    go_enter Tryd.func80, Tryd.ntmps80
    go_wp2_with fail
    go_ret
    exact ⟨_, [.slice ao n c], rfl, HO.out, by simp only [comps, List.map_cons, List.map_nil, List.append_nil]; exact ⟨HB'.out, trivial⟩, (Below.refl _ _).alloc (Nat.le_refl _) _⟩
  | succ m ih =>
    intro tk q v w hB hB0 hq htk hfl
    have ih' := fun tk' q' v' w' => ih tk' q' v' w'
    cases q with
    | nil =>
      have hv : v = .slice none 0 0 ∨ ∃ g c, v = .slice (some ⟨g, 0, none⟩) ([] : List Nat).length c := by
        obtain ⟨_, h2⟩ := hB
        rcases h2 with ⟨rfl, _⟩ | ⟨g, cap, cur, rfl, _⟩
        · exact .inl rfl
        · exact .inr ⟨g, cap, rfl⟩
      rcases hv with rfl | ⟨g, c, rfl⟩
      · exact permuted_nil B0 n m tk w hB0 hn (by simpa using hq) htk hfl ih'
      · exact permuted_step B0 n m tk [] w g c hB hB0 hn hq htk hfl ih'
    | cons a q =>
      obtain ⟨g, c, rfl⟩ := owns_lit hB (by simp [nats])
      rw [nats_length] at *
      exact permuted_step B0 n m tk (a :: q) w g c hB hB0 hn hq htk hfl ih'

set_option maxHeartbeats 400000 in
theorem rperms_any (n : Nat) (w : World) (hn : n ≤ 6) :
    Calls Tryd.prog 56 #[.int .i64 n] w (PermPost w.heap.size w.heap.size (allP n) w) := by
  have HC := Lib.hid (permuted_any w.heap.size n hn n 0 [] (.slice none 0 0) w (World.ownsRow_nil _ _ _ _) (Nat.le_refl _) (by simp) (by decide) (by
    have : sub (2 ^ n - 1) 0 = 2 ^ n - 1 := Nat.eq_of_testBit_eq fun j => by rw [sub_bit]; simp
    rw [this, fl_full n hn]))
  have e : ((comps (2 ^ n - 1) n 0).map fun p => [] ++ p) = allP n := by rw [allP_comps]; simp
  rw [e] at HC
  generalize allP n = ps at *
  go_enter Tryd.func56, Tryd.ntmps56
  go_wp2_with fail
  refine HC.out.mono ?_
  rintro e w2 ⟨v, vals, rfl, hO, hP, hb⟩
  have HO := Lib.hid hO
  have HP := Lib.hid hP
  have HB := Lib.hid hb
  clear hO hP hb HC
  go_wp2
  go_ret
  exact ⟨_, _, rfl, HO.out, HP.out, HB.out⟩

end Go.Proofs.YtellnklbkjajbaaDoor

namespace Go.Proofs.YtellnklbkjajbaaDoor
open Go.RowKit

theorem list_grows {w : World} {o : Oper} {ops : Array Oper} {rest : List Oper} {a : Act} {Q : Exit → Act → World → Prop} (s x : Operand) (hgd : o.guard = none)
    (ho : o.op = .call { callee := .builtin .append, args := #[s, x], argTypes := #[22, 22] }) (ao : Option Addr) (cap : Nat) (q : List Nat) (y : Nat) (hs : a.eval s = .slice ao q.length cap)
    (hnone : ao = none → q.length = 0 ∧ cap = 0) (holds : ∀ b, ao = some b → ∀ j u, (ints (nats q))[j]? = some u → (w.alloc (.cells #[.int .i64 (y : Nat)] 3)).cell? (b.add j) = some u)
    (hx : a.eval x = .slice (some ⟨w.heap.size, 0, none⟩) 1 1) (hfull : cap < q.length + 1) (hl : q.length ≤ 1000)
    (h : ∀ v' w', Bg 0 w' v' (q ++ [y]) → Below w.heap.size w w' → wpList Tryd.prog ops Q rest (a.put o.dst v') w') :
    wpList Tryd.prog ops Q (o :: rest) a (w.alloc (.cells #[.int .i64 (y : Nat)] 3)) := by
  obtain ⟨i0, hi, hz0, hz1, hz2⟩ := info_parts Tryd.info3
  refine wpList_plain hgd fun K hK => ?_
  refine wp_append_grows _ s x 22 ho 3 i0 (.int .i64 0) 1 8 Tryd.underlying22 hi hz0 hz1 hz2 rfl (by decide) ao q.length cap (ints (nats q)) hs hnone (by rw [ints_length, nats_length, Nat.mul_one]) holds ⟨w.heap.size, 0, none⟩ 1 1 [.int .i64 (y : Nat)] hx rfl (newOne _ _ _) (oneInt _) hfull (by unfold maxLen; omega) (by omega) fun v' w' h1 h2 => hK _ _ (h v' w' (Bg_snoc h1 (Nat.zero_le _)) ?_)
  exact ((Below.refl _ w).alloc (Nat.le_refl _) _).grown h2 (by simp) fun k e => by cases e

/-- What a call answers. -/
def SPost (U bs : List Nat) (w : World) (e : Ending) (w' : World) : Prop :=
  Below w.heap.size w w' ∧ ((U.take bs.length = bs ∧ ∃ v', e = .returned v' ∧ Bg 0 w' v' U) ∨ (U.take bs.length ≠ bs ∧ e = .returned (.slice none 0 0)))
theorem Sq.ints {w : World} {v : Value} {s : List Nat} (h : Bg 0 w v s) (hs : Sq s) (hl : s.length ≤ 6) : Nats w v s := Bg.ints h (by omega) fun x hx => by
  obtain ⟨k, hk, e⟩ := List.getElem_of_mem hx
  have := hs.le k hk
  rw [List.getD_eq_getElem?_getD, List.getElem?_eq_getElem hk, e] at this
  simp at this
  omega
theorem Sq.bd {s : List Nat} (hs : Sq s) : ∀ x ∈ nats s, -1000 ≤ x ∧ x ≤ 1000 := fun x hx => by
  obtain ⟨r, hr, rfl⟩ := List.mem_map.1 hx
  obtain ⟨k, hk, e⟩ := List.getElem_of_mem hr
  have := hs.le k hk
  rw [List.getD_eq_getElem?_getD, List.getElem?_eq_getElem hk, e] at this
  simp at this
  omega
theorem getD_snoc (bs : List Nat) (x k : Nat) : (bs ++ [x]).getD k 0 = if k < bs.length then bs.getD k 0 else if k = bs.length then x else 0 := by
  simp only [List.getD_eq_getElem?_getD, List.getElem?_append]
  split
  · rfl
  · rename_i h
    split
    · rename_i e; subst e; simp
    · rename_i e
      rw [List.getElem?_eq_none (by simp; omega)]
      rfl
theorem Sq.snoc {bs : List Nat} {x : Nat} (h : Sq bs) (hx : x ≤ 12) (hu : 0 < bs.length → bs.getD (bs.length - 1) 0 < x ∨ (bs.getD (bs.length - 1) 0 = x ∧ x = 0)) : Sq (bs ++ [x]) := by
  refine ⟨fun k hk => ?_, fun k hk h0 => ?_⟩
  · rw [getD_snoc]
    split
    · exact h.le k (by assumption)
    · split <;> omega
  · have hk' : k < bs.length + 1 := by simpa using hk
    by_cases e : k = bs.length
    · subst e
      rw [getD_snoc, getD_snoc, if_neg (Nat.lt_irrefl _), if_pos rfl, if_pos (by omega)]
      exact hu h0
    · rw [getD_snoc, getD_snoc, if_pos (by omega), if_pos (by omega)]
      exact h.up k (by omega) h0
theorem takeS_snoc {U bs : List Nat} {x : Nat} (hl : bs.length < U.length) : U.take (bs ++ [x]).length = bs ++ [x] ↔ (U.take bs.length = bs ∧ U.getD bs.length 0 = x) := by
  have e : U.take (bs ++ [x]).length = U.take bs.length ++ [U.getD bs.length 0] := by
    rw [List.length_append, List.length_singleton, List.take_add_one, List.getElem?_eq_getElem hl, List.getD_eq_getElem?_getD, List.getElem?_eq_getElem hl]
    rfl
  rw [e]
  constructor
  · intro h
    have := List.append_inj h (by simp; omega)
    exact ⟨this.1, by simpa using this.2⟩
  · rintro ⟨h1, h2⟩
    rw [h1, h2]
theorem Tgt.last {D : List Int} {n : Nat} {U bs : List Nat} (h : Tgt D n U) (hl : bs.length < n) (h0 : 0 < bs.length) (e : U.take bs.length = bs) : bs.getD (bs.length - 1) 0 < U.getD bs.length 0 ∨ (bs.getD (bs.length - 1) 0 = U.getD bs.length 0 ∧ U.getD bs.length 0 = 0) := by
  have hu := h.sq.up bs.length (by rw [h.len]; exact hl) h0
  have e2 : bs.getD (bs.length - 1) 0 = U.getD (bs.length - 1) 0 := by
    conv => lhs; rw [← e]
    rw [List.getD_eq_getElem?_getD, List.getD_eq_getElem?_getD, List.getElem?_take_of_lt (by rw [List.length_take, h.len]; omega)]
    congr 2
    rw [e]
  rw [e2]
  exact hu

set_option maxRecDepth 100000 in
set_option maxHeartbeats 4000000 in
theorem steep_base (D : List Int) (n : Nat) (U : List Nat) (hT : Tgt D n U) (h0 : 0 < n) (hn : n ≤ 6) (hDl : D.length = n) (bs : List Nat) (hq : bs.length = n) (hs : Sq bs) (d v : Value) (w : World) (hd : Ints w d D) (hg : Bg 0 w v bs) :
    Calls Tryd.prog 71 #[d, v] w (SPost U bs w) := by
  have hlf := hT.leaf h0 hn hs hq
  have HDi := Lib.hid (fun w' (hb : Below w.heap.size w w') => rDiff_any v (nats bs) w' ((Sq.ints hg hs (by omega)).below hb (Nat.le_refl _)) (by rw [nats_length]; omega) hs.bd)
  have HSa := Lib.hid (fun v' w' (hb : Below w.heap.size w w') (h' : Ints w' v' (dfL (nats bs))) => same_any v' d _ D w' h' (hd.below hb (Nat.le_refl _)))
  rw [hlf] at HSa
  have hUl := hT.len
  have HG := Lib.hid hg
  obtain ⟨ao, cap, rfl, _, _, _⟩ := hd.cells
  obtain ⟨g, c, rfl⟩ := owns_lit hg (by rw [nats_length]; omega)
  have hlen : (nats bs).length = n := by rw [nats_length, hq]
  rw [hlen] at HDi HG ⊢
  rw [hDl] at HSa ⊢
  have HT1 : Hid (bs = U → U.take bs.length = bs) := Lib.hid fun e => by rw [e]; exact List.take_length
  have HT2 : Hid (bs ≠ U → U.take bs.length ≠ bs) := Lib.hid fun e h => e (by rw [hq, ← hUl, List.take_length] at h; exact h.symm)
  clear hd hg hlen hDl hq hUl hlf
  by_cases e : bs = U
  · rw [decide_eq_true e] at HSa
    have HP := Lib.hid (HT1.out e)
    have He := Lib.hid e
    clear e HT1 HT2
    go_enter Tryd.func71, Tryd.ntmps71
    go_wp2_with fail
    refine (HDi.out w (Below.refl _ _)).mono ?_
    rintro e1 w1 ⟨v1, rfl, hv1, hb1⟩
    have HV := Lib.hid hv1
    have HB1 := Lib.hid hb1
    clear hv1 hb1
    go_wp2_with fail
    refine (HSa.out v1 w1 HB1.out HV.out).mono ?_
    rintro e2 w2 ⟨rfl, hb2⟩
    have HB2 := Lib.hid (HB1.out.trans (hb2.mono HB1.out.size))
    clear hb2
    go_wp2_with fail
    go_ret
    exact ⟨HB2.out, .inl ⟨HP.out, _, rfl, by have := Bg.below HG.out HB2.out; rw [He.out] at this; exact this⟩⟩
  · rw [decide_eq_false e] at HSa
    have HP := Lib.hid (HT2.out e)
    clear e HT1 HT2
    go_enter Tryd.func71, Tryd.ntmps71
    go_wp2_with fail
    refine (HDi.out w (Below.refl _ _)).mono ?_
    rintro e1 w1 ⟨v1, rfl, hv1, hb1⟩
    have HV := Lib.hid hv1
    have HB1 := Lib.hid hb1
    clear hv1 hb1
    go_wp2_with fail
    refine (HSa.out v1 w1 HB1.out HV.out).mono ?_
    rintro e2 w2 ⟨rfl, hb2⟩
    have HB2 := Lib.hid (HB1.out.trans (hb2.mono HB1.out.size))
    clear hb2
    go_wp2_with fail
    go_ret
    exact ⟨HB2.out, .inr ⟨HP.out, rfl⟩⟩

theorem list_growsN {w : World} {o : Oper} {ops : Array Oper} {rest : List Oper} {a : Act} {Q : Exit → Act → World → Prop} (n : Nat) {q : List Nat} (hq : q.length = n) (s x : Operand) (hgd : o.guard = none)
    (ho : o.op = .call { callee := .builtin .append, args := #[s, x], argTypes := #[22, 22] }) (ao : Option Addr) (cap : Nat) (y : Nat) (hs : a.eval s = .slice ao n cap)
    (hnone : ao = none → n = 0 ∧ cap = 0) (holds : ∀ b, ao = some b → ∀ j u, (ints (nats q))[j]? = some u → (w.alloc (.cells #[.int .i64 (y : Nat)] 3)).cell? (b.add j) = some u)
    (hx : a.eval x = .slice (some ⟨w.heap.size, 0, none⟩) 1 1) (hfull : cap < n + 1) (hl : n ≤ 1000)
    (h : ∀ v' w', Bg 0 w' v' (q ++ [y]) → Below w.heap.size w w' → wpList Tryd.prog ops Q rest (a.put o.dst v') w') :
    wpList Tryd.prog ops Q (o :: rest) a (w.alloc (.cells #[.int .i64 (y : Nat)] 3)) := by
  subst hq
  exact list_grows s x hgd ho ao cap q y hs hnone holds hx hfull hl h

set_option maxRecDepth 100000 in
set_option maxHeartbeats 8000000 in
theorem steep_nil (D : List Int) (n : Nat) (U : List Nat) (hT : Tgt D n U) (hn : n ≤ 6) (hDl : D.length = n) (r : Nat) (bs : List Nat) (hbs : bs = []) (hq : bs.length + (r + 1) = n) (hs : Sq bs) (d : Value) (w : World) (hd : Ints w d D)
    (IH : ∀ (bs' : List Nat) (v' : Value) (w' : World), bs'.length + r = n → 0 < bs'.length → Sq bs' → Ints w' d D → Bg 0 w' v' bs' → Calls Tryd.prog 71 #[d, v'] w' (SPost U bs' w')) :
    Calls Tryd.prog 71 #[d, .slice none 0 0] w (SPost U bs w) := by
  have HIH := Lib.hid (fun x (hx : Sq (bs ++ [x])) v' w' (hd' : Ints w' d D) (hg' : Bg 0 w' v' (bs ++ [x])) => IH (bs ++ [x]) v' w' (by rw [List.length_append, List.length_singleton]; omega) (by simp) hx hd' hg')
  have HSn := Lib.hid (fun x (hx : x ≤ 12) hu => Sq.snoc (x := x) hs hx hu)
  have HTk0 := Lib.hid (fun x => takeS_snoc (U := U) (bs := bs) (x := x) (by rw [hT.len]; omega))
  have HU12 : Hid (U.getD bs.length 0 ≤ 12) := Lib.hid (hT.sq.le _ (by rw [hT.len]; omega))
  have HUl : Hid (0 < (nats U).length) := Lib.hid (by rw [nats_length, hT.len]; omega)
  have HD := Lib.hid hd
  obtain ⟨ao, cap, rfl, _, _, _⟩ := hd.cells
  rw [hDl] at HIH HD ⊢
  have hl0 : (0:Int) ≤ 0 := by omega
  have hne : ((0:Int) == (n:Int)) = false := beq_eq_false_iff_ne.2 (by omega)
  have HSm : Hid (∀ x, x ≤ 12 → Sq (bs ++ [x])) := Lib.hid fun x hx => HSn.out x hx fun h => by rw [hbs] at h; cases h
  have HBs : Hid (bs = []) := hbs
  clear hd hDl IH hs hT HSn hbs hq
  go_enter Tryd.func71, Tryd.ntmps71
  go_wp2_with fail
  go_loopw [6] (fun ii wr => ∃ x : Nat, x ≤ 13 ∧ ii = .int .i64 x ∧ (U.take bs.length = bs → x ≤ U.getD bs.length 0) ∧ Below w.heap.size w wr) (fun ii _ => 13 - (intOf ii).toNat)
  case atStart => exact ⟨0, by omega, rfl, fun _ => Nat.zero_le _, Below.refl _ _⟩
  case round =>
    obtain ⟨x, hx, rfl, hR, hB⟩ := hrel
    have HR := Lib.hid hR
    have HB := Lib.hid hB
    clear hR hB
    by_cases hlt : x ≤ 12
    · have hx12 : (x:Int) ≤ 12 := by omega
      have HTk := Lib.hid (HTk0.out x)
      have HI := Lib.hid (HIH.out x (HSm.out x hlt))
      clear HSm HIH HTk0
      go_wp2_with (at_builtin; refine list_growsN (q := []) 0 rfl _ _ rfl rfl none 0 x rfl (fun _ => ⟨rfl, rfl⟩) (fun b0 hb0 => by cases hb0) rfl (Nat.lt_succ_self _) (by omega) ?_)
      intro v2 w2 hg2 hb2
      have HBw := Lib.hid ((HB.out).trans (hb2.mono (HB.out).size))
      have HG2 := Lib.hid hg2
      clear hb2 hg2
      go_wp2_with fail
      refine (HI.out v2 w2 (HD.out.below HBw.out (Nat.le_refl _)) (by rw [HBs.out]; exact HG2.out)).mono ?_
      rintro e w3 ⟨hb3, hres⟩
      have HB3 := Lib.hid (HBw.out.trans (hb3.mono HBw.out.size))
      clear hb3
      rcases hres with ⟨ht, v3, rfl, hv3⟩ | ⟨ht, rfl⟩
      · have HV3 := Lib.hid hv3
        obtain ⟨g3, c3, rfl⟩ := owns_lit hv3 HUl.out
        have HP := Lib.hid (HTk.out.1 ht).1
        clear ht hv3
        go_wp2_with fail
        go_ret
        exact ⟨HB3.out, .inl ⟨HP.out, _, rfl, HV3.out⟩⟩
      · have HR' : Hid (U.take bs.length = bs → x + 1 ≤ U.getD bs.length 0) := Lib.hid fun hp => by
          have h1 := HR.out hp
          have h2 : U.getD bs.length 0 ≠ x := fun e => ht (HTk.out.2 ⟨hp, e⟩)
          omega
        clear ht
        go_wp2_with fail
        go_roundw
        case rel => exact ⟨x + 1, by omega, by (first | rfl | go_num | simp), HR'.out, HB3.out⟩
        case measure => (simp [intOf] <;> omega)
    · have HP : Hid (U.take bs.length ≠ bs) := Lib.hid fun e => by have := HR.out e; have := HU12.out; omega
      have hx13 : ¬ ((x:Int) ≤ 12) := by omega
      go_wp2_with fail
      go_ret
      exact ⟨HB.out, .inr ⟨HP.out, rfl⟩⟩

set_option maxRecDepth 100000 in
set_option maxHeartbeats 8000000 in
theorem steep_some (D : List Int) (n : Nat) (U : List Nat) (hT : Tgt D n U) (hn : n ≤ 6) (hDl : D.length = n) (r : Nat) (bs : List Nat) (m : Nat) (hm : bs.length = m + 1) (hq : bs.length + (r + 1) = n) (hs : Sq bs) (d : Value) (w : World) (hd : Ints w d D) (g c : Nat) (hg : Bg 0 w (.slice (some ⟨g, 0, none⟩) (m + 1) c) bs)
    (IH : ∀ (bs' : List Nat) (v' : Value) (w' : World), bs'.length + r = n → 0 < bs'.length → Sq bs' → Ints w' d D → Bg 0 w' v' bs' → Calls Tryd.prog 71 #[d, v'] w' (SPost U bs' w')) :
    Calls Tryd.prog 71 #[d, .slice (some ⟨g, 0, none⟩) (m + 1) c] w (SPost U bs w) := by
  have HIH := Lib.hid (fun x (hx : Sq (bs ++ [x])) v' w' (hd' : Ints w' d D) (hg' : Bg 0 w' v' (bs ++ [x])) => IH (bs ++ [x]) v' w' (by rw [List.length_append, List.length_singleton]; omega) (by simp) hx hd' hg')
  have HSn := Lib.hid (fun x (hx : x ≤ 12) hu => Sq.snoc (x := x) hs hx hu)
  have HTk0 := Lib.hid (fun x => takeS_snoc (U := U) (bs := bs) (x := x) (by rw [hT.len]; omega))
  have HU12 : Hid (U.getD bs.length 0 ≤ 12) := Lib.hid (hT.sq.le _ (by rw [hT.len]; omega))
  have HUl : Hid (0 < (nats U).length) := Lib.hid (by rw [nats_length, hT.len]; omega)
  have HD := Lib.hid hd
  obtain ⟨ao, cap, rfl, _, _, _⟩ := hd.cells
  rw [hDl] at HIH HD ⊢
  have HLs : Hid (U.take bs.length = bs → bs.getD m 0 < U.getD bs.length 0 ∨ (bs.getD m 0 = U.getD bs.length 0 ∧ U.getD bs.length 0 = 0)) := Lib.hid fun e => by
    have := hT.last (bs := bs) (by omega) (by omega) e
    rw [hm] at this ⊢
    exact this
  have HSm : Hid (∀ x, x ≤ 12 → bs.getD m 0 < x ∨ (bs.getD m 0 = x ∧ x = 0) → Sq (bs ++ [x])) := Lib.hid fun x hx hu => HSn.out x hx fun _ => by rw [hm]; exact hu
  have hp12 : bs.getD m 0 ≤ 12 := hs.le m (by omega)
  obtain ⟨hlc, hg1⟩ : m + 1 ≤ c ∧ g < w.heap.size := by
    obtain ⟨_, h2⟩ := hg
    rw [nats_length, hm] at h2
    rcases h2 with ⟨e, _⟩ | ⟨g', cap, cur, e, _, e3, e4, _⟩
    · cases e
    · simp only [Value.slice.injEq, Option.some.injEq, Addr.mk.injEq] at e
      obtain ⟨⟨rfl, _⟩, _, rfl⟩ := e
      exact ⟨e4, lt_of_block e3⟩
  have HCell : Hid (∀ j u, (ints (nats bs))[j]? = some u → w.cell? ⟨g, j, none⟩ = some u) := Lib.hid fun j u hj => by
    unfold Bg at hg
    rw [nats_length, hm] at hg
    have hlt := (List.getElem?_eq_some_iff.1 hj).1
    rw [ints_length, nats_length] at hlt
    rw [World.ownsRow.cellAt hg j (by omega), hj]
  have HLast : Hid (w.cell? ⟨g, m, none⟩ = some (.int .i64 (bs.getD m 0 : Nat))) := Lib.hid (HCell.out m _ (by
    rw [ints, nats, List.getElem?_map, List.getElem?_map, List.getElem?_eq_getElem (show m < bs.length by omega), List.getD_eq_getElem?_getD, List.getElem?_eq_getElem (show m < bs.length by omega)]
    rfl))
  have HLen : Hid (bs.length = m + 1) := hm
  have hl0 : (0:Int) ≤ ((m + 1 : Nat):Int) := by omega
  have hlc' : ((m + 1 : Nat):Int) ≤ (c:Int) := by omega
  have hlc'' : (m:Int) + 1 ≤ (c:Int) := by omega
  have hne : (((m + 1 : Nat):Int) == (n:Int)) = false := beq_eq_false_iff_ne.2 (by omega)
  have hne' : ((m:Int) + 1 == (n:Int)) = false := beq_eq_false_iff_ne.2 (by omega)
  have hsub : ((m + 1 : Nat) : Int) - 1 = (m : Int) := by omega
  have hq3 : (m : Int) + 1 - 1 = (m : Int) := by omega
  have hm0 : (0:Int) ≤ (m : Int) := by omega
  have hm1 : (m : Int) < ((m + 1 : Nat) : Int) := by omega
  have hm1' : (m : Int) < (m : Int) + 1 := by omega
  have hk2 : (0:Int) < ((m + 1 : Nat) : Int) := by omega
  have hq2 : (0:Int) < (m : Int) + 1 := by omega
  have hw1 : IntKind.i64.wrap ((m : Int) + 1 - 1) = (m : Int) := by rw [hq3]; exact i64_of (by omega) (by omega)
  have hw2 : IntKind.i64.wrap (m : Int) = (m : Int) := i64_of (by omega) (by omega)
  have hm6 : m + 1 ≤ 6 := by omega
  clear hg hd hDl IH hs hT HSn hm hq
  go_enter Tryd.func71, Tryd.ntmps71
  go_wp2_with fail
  go_loopw [6] (fun ii wr => ∃ x : Nat, x ≤ 13 ∧ ii = .int .i64 x ∧ (U.take bs.length = bs → x ≤ U.getD bs.length 0) ∧ Below w.heap.size w wr) (fun ii _ => 13 - (intOf ii).toNat)
  case atStart => exact ⟨0, by omega, rfl, fun _ => Nat.zero_le _, Below.refl _ _⟩
  case round =>
    obtain ⟨x, hx, rfl, hR, hB⟩ := hrel
    have HR := Lib.hid hR
    have HB := Lib.hid hB
    clear hR hB
    by_cases hlt : x ≤ 12
    · have hx12 : (x:Int) ≤ 12 := by omega
      have HTk := Lib.hid (HTk0.out x)
      have hcp := ck HLast.out HB.out
      by_cases c1 : x < bs.getD m 0
      · have HR' : Hid (U.take bs.length = bs → x + 1 ≤ U.getD bs.length 0) := Lib.hid fun hp => by have := HLs.out hp; omega
        have c1' : (x:Int) < ((bs.getD m 0 : Nat) : Int) := by omega
        clear HLs HSm HTk HR
        generalize bs.getD m 0 = p at *
        go_wp2_with fail
        go_roundw
        case rel => exact ⟨x + 1, by omega, by go_num, HR'.out, HB.out⟩
        case measure => (simp [intOf] <;> omega)
      by_cases c2 : x = bs.getD m 0
      · by_cases c3 : x = 0
        · have HI := Lib.hid (HIH.out x (HSm.out x hlt (.inr ⟨c2.symm, c3⟩)))
          rw [← c2, c3] at hcp
          subst c3
          clear c1 c2 HLs HSm HIH HTk0
          go_wp2_with (at_builtin; refine list_growsN (q := bs) (m + 1) HLen.out _ _ rfl rfl (some ⟨g, 0, none⟩) (m + 1) 0 rfl (fun e => by cases e) (fun b0 hb0 j0 u hu => by (cases hb0; rw [Addr.add_lit, Nat.zero_add]; exact alloc_cell _ (ck (HCell.out _ _ hu) (HB.out)))) rfl (Nat.lt_succ_self _) (by omega) ?_)
          intro v2 w2 hg2 hb2
          have HBw := Lib.hid ((HB.out).trans (hb2.mono (HB.out).size))
          have HG2 := Lib.hid hg2
          clear hb2 hg2
          go_wp2_with fail
          refine (HI.out v2 w2 (HD.out.below HBw.out (Nat.le_refl _)) HG2.out).mono ?_
          rintro e w3 ⟨hb3, hres⟩
          have HB3 := Lib.hid (HBw.out.trans (hb3.mono HBw.out.size))
          clear hb3
          rcases hres with ⟨ht, v3, rfl, hv3⟩ | ⟨ht, rfl⟩
          · have HV3 := Lib.hid hv3
            obtain ⟨g3, c3, rfl⟩ := owns_lit hv3 HUl.out
            have HP := Lib.hid (HTk.out.1 ht).1
            clear ht hv3
            go_wp2_with fail
            go_ret
            exact ⟨HB3.out, .inl ⟨HP.out, _, rfl, HV3.out⟩⟩
          · have HR' : Hid (U.take bs.length = bs → 0 + 1 ≤ U.getD bs.length 0) := Lib.hid fun hp => by
              have h1 := HR.out hp
              have h2 : U.getD bs.length 0 ≠ 0 := fun e => ht (HTk.out.2 ⟨hp, e⟩)
              omega
            clear ht
            go_wp2_with fail
            go_roundw
            case rel => exact ⟨0 + 1, by omega, by (first | rfl | go_num | simp), HR'.out, HB3.out⟩
            case measure => (simp [intOf] <;> omega)
        · have HR' : Hid (U.take bs.length = bs → x + 1 ≤ U.getD bs.length 0) := Lib.hid fun hp => by have := HLs.out hp; omega
          have c3' : (0:Int) < (x:Int) := by omega
          rw [← c2] at hcp
          clear HLs HSm HTk HR c1 c2 c3
          go_wp2_with fail
          go_roundw
          case rel => exact ⟨x + 1, by omega, by go_num, HR'.out, HB.out⟩
          case measure => (simp [intOf] <;> omega)
      · by_cases c4 : bs.getD m 0 < x
        · have HI := Lib.hid (HIH.out x (HSm.out x hlt (.inl c4)))
          clear HLs HSm HIH HTk0
          generalize bs.getD m 0 = p at *
          have g3' : ¬ (x:Int) < (p:Int) := by omega
          have g4' : ((x:Int) == (p:Int)) = false := beq_eq_false_iff_ne.2 (by omega)
          go_wp2_with (at_builtin; refine list_growsN (q := bs) (m + 1) HLen.out _ _ rfl rfl (some ⟨g, 0, none⟩) (m + 1) x rfl (fun e => by cases e) (fun b0 hb0 j0 u hu => by (cases hb0; rw [Addr.add_lit, Nat.zero_add]; exact alloc_cell _ (ck (HCell.out _ _ hu) (HB.out)))) rfl (Nat.lt_succ_self _) (by omega) ?_)
          intro v2 w2 hg2 hb2
          have HBw := Lib.hid ((HB.out).trans (hb2.mono (HB.out).size))
          have HG2 := Lib.hid hg2
          clear hb2 hg2
          go_wp2_with fail
          refine (HI.out v2 w2 (HD.out.below HBw.out (Nat.le_refl _)) HG2.out).mono ?_
          rintro e w3 ⟨hb3, hres⟩
          have HB3 := Lib.hid (HBw.out.trans (hb3.mono HBw.out.size))
          clear hb3
          rcases hres with ⟨ht, v3, rfl, hv3⟩ | ⟨ht, rfl⟩
          · have HV3 := Lib.hid hv3
            obtain ⟨g3, c3, rfl⟩ := owns_lit hv3 HUl.out
            have HP := Lib.hid (HTk.out.1 ht).1
            clear ht hv3
            go_wp2_with fail
            go_ret
            exact ⟨HB3.out, .inl ⟨HP.out, _, rfl, HV3.out⟩⟩
          · have HR' : Hid (U.take bs.length = bs → x + 1 ≤ U.getD bs.length 0) := Lib.hid fun hp => by
              have h1 := HR.out hp
              have h2 : U.getD bs.length 0 ≠ x := fun e => ht (HTk.out.2 ⟨hp, e⟩)
              omega
            clear ht
            go_wp2_with fail
            go_roundw
            case rel => exact ⟨x + 1, by omega, by (first | rfl | go_num | simp), HR'.out, HB3.out⟩
            case measure => (simp [intOf] <;> omega)
        · omega
    · have HP : Hid (U.take bs.length ≠ bs) := Lib.hid fun e => by have := HR.out e; have := HU12.out; omega
      have hx13 : ¬ ((x:Int) ≤ 12) := by omega
      go_wp2_with fail
      go_ret
      exact ⟨HB.out, .inr ⟨HP.out, rfl⟩⟩

theorem steep71_any (D : List Int) (n : Nat) (U : List Nat) (hT : Tgt D n U) (h0 : 0 < n) (hn : n ≤ 6) (hDl : D.length = n) : ∀ (r : Nat) (bs : List Nat) (v d : Value) (w : World), bs.length + r = n → (bs = [] → v = .slice none 0 0) → Sq bs → Ints w d D → Bg 0 w v bs →
    Calls Tryd.prog 71 #[d, v] w (SPost U bs w) := by
  intro r
  induction r with
  | zero => intro bs v d w hq _ hs hd hg; exact steep_base D n U hT h0 hn hDl bs (by omega) hs d v w hd hg
  | succ r ih =>
    intro bs v d w hq hv hs hd hg
    have IH := fun (bs' : List Nat) (v' : Value) (w' : World) (hq' : bs'.length + r = n) (h0' : 0 < bs'.length) hs' hd' hg' => ih bs' v' d w' hq' (fun e => by rw [e] at h0'; cases h0') hs' hd' hg'
    cases bs with
    | nil => rw [hv rfl]; exact steep_nil D n U hT hn hDl r [] rfl hq hs d w hd IH
    | cons b bs =>
      obtain ⟨g, c, rfl⟩ := owns_lit hg (by simp [nats])
      have e : (nats (b :: bs)).length = bs.length + 1 := by simp [nats]
      rw [e] at hg ⊢
      exact steep_some D n U hT hn hDl r (b :: bs) bs.length rfl hq hs d w hd g c hg IH
theorem rSteep_any (v : Value) (ls : List Nat) (n : Nat) (w : World) (hs : Stp n ls) (h : Nats w v ls) :
    Calls Tryd.prog 38 #[v] w fun e w' => ∃ v', e = .returned v' ∧ Ints w' v' (steepV (dfL (nats ls))) ∧ Below w.heap.size w w' := by
  obtain ⟨U, hU, hT⟩ := tgt_of hs
  have hn6 := hs.le
  have hn1 := hs.pos
  have hll : (nats ls).length = n := by rw [nats_length, hs.len]
  have HDi := Lib.hid (rDiff_any v (nats ls) w h (by omega) (fun x hx => by
    obtain ⟨r, hr, rfl⟩ := List.mem_map.1 hx
    have := hs.lt r hr
    omega))
  have HSt := Lib.hid (fun d w' (hd : Ints w' d (dfL (nats ls))) => steep71_any _ n U hT hn1 hn6 (by unfold dfL; rw [risL_length, dif_length, hll]) n [] (.slice none 0 0) d w' (by simp) (fun _ => rfl) ⟨fun k hk => absurd hk (by simp), fun k hk => absurd hk (by simp)⟩ hd (World.ownsRow_nil _ _ _ _))
  have HU := Lib.hid hU
  have HSq := Lib.hid hT.sq
  have HUl : Hid (U.length ≤ 6) := Lib.hid (by rw [hT.len]; exact hn6)
  clear h hs hT hU hll
  go_enter Tryd.func38, Tryd.ntmps38
  go_wp2_with fail
  refine HDi.out.mono ?_
  rintro e w1 ⟨v1, rfl, hv1, hb1⟩
  have HV := Lib.hid hv1
  have HB1 := Lib.hid hb1
  clear hv1 hb1
  go_wp2_with fail
  refine (HSt.out v1 w1 HV.out).mono ?_
  rintro e w2 ⟨hb2, hres⟩
  have HB2 := Lib.hid (HB1.out.trans (hb2.mono HB1.out.size))
  clear hb2
  rcases hres with ⟨_, v2, rfl, hg⟩ | ⟨hne, _⟩
  · have HV2 : Hid (Ints w2 v2 (steepV (dfL (nats ls)))) := Lib.hid (by rw [← HU.out]; exact Sq.ints hg HSq.out HUl.out)
    clear hg
    go_wp2_with fail
    go_ret
    exact ⟨_, rfl, HV2.out, HB2.out⟩
  · exact absurd rfl hne
end Go.Proofs.YtellnklbkjajbaaDoor

namespace Go.Proofs.YtellnklbkjajbaaDoor
open Go.RowKit

theorem equal_same (v v' : Value) (xs : List Int) (w : World) (h : Ints w v xs) (h' : Ints w v' xs) :
    Calls Tryd.prog 20 #[v, v'] w fun e w' => e = .returned (.bool true) ∧ Below w.heap.size w w' := by
  have := equal_any v v' xs xs w h h'
  rwa [eqB_refl] at this

theorem stp_took {n : Nat} {ls : List Nat} (h : Stp n ls) : (nats ls).take 9 = nats ls := List.take_of_length_le (by rw [nats_length, h.len]; have := h.le; omega)

set_option maxHeartbeats 8000000 in
set_option maxRecDepth 100000 in
theorem rooksSteep_law (v : Value) (xs : List Int) (x : Int) (w : World) (h : Ints w v xs) (hT : Tab w) :
    Calls Tryd.prog 7 #[v, .int .i64 x] w fun e w' => e = .returned (.bool true) ∧ Below w.heap.size w w' := by
  have HL := Lib.hid (fun w' (hb : Below w.heap.size w w') => list_any v xs w' (h.below hb (Nat.le_refl _)))
  have HS := Lib.hid (fun w' (hb : Below w.heap.size w w') => Steps_any v xs w' (h.below hb (Nat.le_refl _)))
  have HTab := Lib.hid (fun w' (hb : Below w.heap.size w w') => tab_block hT (hb.block 1 (tab_lt hT)))
  have HAw := Lib.hid (fun w' (hb : Below w.heap.size w w') => awake_any w' (HTab.out w' hb))
  have HV := Lib.hid h
  have HEs := Lib.hid (fun v v' xs w h h' => equal_same v v' xs w h h')
  cases hs : stepsB xs with
  | false =>
    have HFa := Lib.hid (fun v' w' (h' : Ints w' v' (xs.take 9)) => Factor_bad v' (xs.take 9) x w' h' (.inl (by rw [stepsB_take, hs])))
    have HSt := Lib.hid (fun v' w' (h' : Ints w' v' (xs.take 9)) => Steep_bad v' (xs.take 9) w' (by rw [stepsB_take, hs]) h')
    rw [hs] at HS
    clear hs h hT HV
    have HB0 := Lib.hid (Below.refl w.heap.size w)
    go_enter Tryd.func7, Tryd.ntmps7
    go_wp2_with fail
    refine (HL.out w HB0.out).mono ?_
    rintro e w1 ⟨v1, rfl, hv1, hb1⟩
    have HB1 := Lib.hid (HB0.out.trans (hb1.mono HB0.out.size))
    have B_1 := Lib.hid (hv1)
    clear hb1 hv1
    go_wp2_with fail
    refine (HSt.out v1 w1 B_1.out).mono ?_
    rintro e w2 ⟨rfl, hb2⟩
    have HB2 := Lib.hid (HB1.out.trans (hb2.mono HB1.out.size))
    have B_2 := Lib.hid (B_1.out.below hb2 (Nat.le_refl _))
    clear hb2
    clear B_2
    go_wp2_with fail
    refine (HL.out w2 HB2.out).mono ?_
    rintro e w3 ⟨v3, rfl, hv3, hb3⟩
    have HB3 := Lib.hid (HB2.out.trans (hb3.mono HB2.out.size))
    have A_3 := Lib.hid (hv3)
    clear hb3 hv3
    go_wp2_with fail
    refine (HFa.out v3 w3 A_3.out).mono ?_
    rintro e w4 ⟨rfl, hb4⟩
    have HB4 := Lib.hid (HB3.out.trans (hb4.mono HB3.out.size))
    have A_4 := Lib.hid (A_3.out.below hb4 (Nat.le_refl _))
    clear hb4
    clear A_4
    go_wp2_with fail
    refine (HS.out w4 HB4.out).mono ?_
    rintro e w' ⟨rfl, rfl⟩
    go_wp2_with fail
    refine (HAw.out w4 HB4.out).mono ?_
    rintro e w5 ⟨rfl, hb5⟩
    have HB5 := Lib.hid (HB4.out.trans (hb5.mono HB4.out.size))
    clear hb5
    go_wp2
    go_ret
    exact ⟨rfl, HB5.out⟩
  | true =>
    obtain ⟨ls, rfl, hst⟩ := stepsB_of hs
    rw [nats_length] at hst
    obtain ⟨n, hn⟩ : ∃ n, n = ls.length := ⟨_, rfl⟩
    rw [← hn] at hst
    rw [stp_took hst] at HL
    rw [hs] at HS
    by_cases c1 : x < 0
    · have HFa := Lib.hid (fun v' w' (h' : Nats w' v' ls) => Factor_bad v' (nats ls) x w' h' (.inr (.inl c1)))
      have HSt := Lib.hid (fun v' w' (h' : Nats w' v' ls) => Steep_any v' ls n w' hst h')
      have HRs := Lib.hid (fun w' (hb : Below w.heap.size w w') => rSteep_any v ls n w' hst (HV.out.below hb (Nat.le_refl _)))
      clear hs h hT hst hn HV
      have HB0 := Lib.hid (Below.refl w.heap.size w)
      go_enter Tryd.func7, Tryd.ntmps7
      go_wp2_with fail
      refine (HL.out w HB0.out).mono ?_
      rintro e w1 ⟨v1, rfl, hv1, hb1⟩
      have HB1 := Lib.hid (HB0.out.trans (hb1.mono HB0.out.size))
      have B_1 := Lib.hid (hv1)
      clear hb1 hv1
      go_wp2_with fail
      refine (HSt.out v1 w1 B_1.out).mono ?_
      rintro e w2 ⟨v2, rfl, hv2, hb2⟩
      have HB2 := Lib.hid (HB1.out.trans (hb2.mono HB1.out.size))
      have B_2 := Lib.hid (B_1.out.below hb2 (Nat.le_refl _))
      have S_2 := Lib.hid (hv2)
      clear hb2 hv2
      clear B_2
      go_wp2_with fail
      refine (HL.out w2 HB2.out).mono ?_
      rintro e w3 ⟨v3, rfl, hv3, hb3⟩
      have HB3 := Lib.hid (HB2.out.trans (hb3.mono HB2.out.size))
      have S_3 := Lib.hid (S_2.out.below hb3 (Nat.le_refl _))
      have A_3 := Lib.hid (hv3)
      clear hb3 hv3
      go_wp2_with fail
      refine (HFa.out v3 w3 A_3.out).mono ?_
      rintro e w4 ⟨rfl, hb4⟩
      have HB4 := Lib.hid (HB3.out.trans (hb4.mono HB3.out.size))
      have S_4 := Lib.hid (S_3.out.below hb4 (Nat.le_refl _))
      have A_4 := Lib.hid (A_3.out.below hb4 (Nat.le_refl _))
      clear hb4
      clear A_4
      go_wp2_with fail
      refine (HS.out w4 HB4.out).mono ?_
      rintro e w' ⟨rfl, rfl⟩
      go_wp2_with fail
      refine (HRs.out w4 HB4.out).mono ?_
      rintro e w5 ⟨v5, rfl, hv5, hb5⟩
      have HB5 := Lib.hid (HB4.out.trans (hb5.mono HB4.out.size))
      have S_5 := Lib.hid (S_4.out.below hb5 (Nat.le_refl _))
      have R_5 := Lib.hid (hv5)
      clear hb5 hv5
      go_wp2_with fail
      refine (HEs.out _ _ _ w5 S_5.out R_5.out).mono ?_
      rintro e w6 ⟨rfl, hb6⟩
      have HB6 := Lib.hid (HB5.out.trans (hb6.mono HB5.out.size))
      have S_6 := Lib.hid (S_5.out.below hb6 (Nat.le_refl _))
      have R_6 := Lib.hid (R_5.out.below hb6 (Nat.le_refl _))
      clear hb6
      clear S_6
      clear R_6
      go_wp2_with fail
      refine (HAw.out w6 HB6.out).mono ?_
      rintro e w7 ⟨rfl, hb7⟩
      have HB7 := Lib.hid (HB6.out.trans (hb7.mono HB6.out.size))
      clear hb7
      go_wp2
      go_ret
      exact ⟨rfl, HB7.out⟩
    by_cases c2 : 10 < x
    · have HFa := Lib.hid (fun v' w' (h' : Nats w' v' ls) => Factor_bad v' (nats ls) x w' h' (.inr (.inr c2)))
      have HSt := Lib.hid (fun v' w' (h' : Nats w' v' ls) => Steep_any v' ls n w' hst h')
      have HRs := Lib.hid (fun w' (hb : Below w.heap.size w w') => rSteep_any v ls n w' hst (HV.out.below hb (Nat.le_refl _)))
      clear hs h hT hst hn HV
      have HB0 := Lib.hid (Below.refl w.heap.size w)
      go_enter Tryd.func7, Tryd.ntmps7
      go_wp2_with fail
      refine (HL.out w HB0.out).mono ?_
      rintro e w1 ⟨v1, rfl, hv1, hb1⟩
      have HB1 := Lib.hid (HB0.out.trans (hb1.mono HB0.out.size))
      have B_1 := Lib.hid (hv1)
      clear hb1 hv1
      go_wp2_with fail
      refine (HSt.out v1 w1 B_1.out).mono ?_
      rintro e w2 ⟨v2, rfl, hv2, hb2⟩
      have HB2 := Lib.hid (HB1.out.trans (hb2.mono HB1.out.size))
      have B_2 := Lib.hid (B_1.out.below hb2 (Nat.le_refl _))
      have S_2 := Lib.hid (hv2)
      clear hb2 hv2
      clear B_2
      go_wp2_with fail
      refine (HL.out w2 HB2.out).mono ?_
      rintro e w3 ⟨v3, rfl, hv3, hb3⟩
      have HB3 := Lib.hid (HB2.out.trans (hb3.mono HB2.out.size))
      have S_3 := Lib.hid (S_2.out.below hb3 (Nat.le_refl _))
      have A_3 := Lib.hid (hv3)
      clear hb3 hv3
      go_wp2_with fail
      refine (HFa.out v3 w3 A_3.out).mono ?_
      rintro e w4 ⟨rfl, hb4⟩
      have HB4 := Lib.hid (HB3.out.trans (hb4.mono HB3.out.size))
      have S_4 := Lib.hid (S_3.out.below hb4 (Nat.le_refl _))
      have A_4 := Lib.hid (A_3.out.below hb4 (Nat.le_refl _))
      clear hb4
      clear A_4
      go_wp2_with fail
      refine (HS.out w4 HB4.out).mono ?_
      rintro e w' ⟨rfl, rfl⟩
      go_wp2_with fail
      refine (HRs.out w4 HB4.out).mono ?_
      rintro e w5 ⟨v5, rfl, hv5, hb5⟩
      have HB5 := Lib.hid (HB4.out.trans (hb5.mono HB4.out.size))
      have S_5 := Lib.hid (S_4.out.below hb5 (Nat.le_refl _))
      have R_5 := Lib.hid (hv5)
      clear hb5 hv5
      go_wp2_with fail
      refine (HEs.out _ _ _ w5 S_5.out R_5.out).mono ?_
      rintro e w6 ⟨rfl, hb6⟩
      have HB6 := Lib.hid (HB5.out.trans (hb6.mono HB5.out.size))
      have S_6 := Lib.hid (S_5.out.below hb6 (Nat.le_refl _))
      have R_6 := Lib.hid (R_5.out.below hb6 (Nat.le_refl _))
      clear hb6
      clear S_6
      clear R_6
      go_wp2_with fail
      refine (HAw.out w6 HB6.out).mono ?_
      rintro e w7 ⟨rfl, hb7⟩
      have HB7 := Lib.hid (HB6.out.trans (hb7.mono HB6.out.size))
      clear hb7
      go_wp2
      go_ret
      exact ⟨rfl, HB7.out⟩
    · have HFa := Lib.hid (fun v' w' (h' : Nats w' v' ls) (hT' : Tab w') => Factor_any v' ls n x w' hst h' hT' (by omega) (by omega))
      have HRf := Lib.hid (fun w' (hb : Below w.heap.size w w') => rFactor_any v ls n x w' hst (HV.out.below hb (Nat.le_refl _)) (by omega) (by omega))
      have HSt := Lib.hid (fun v' w' (h' : Nats w' v' ls) => Steep_any v' ls n w' hst h')
      have HRs := Lib.hid (fun w' (hb : Below w.heap.size w w') => rSteep_any v ls n w' hst (HV.out.below hb (Nat.le_refl _)))
      clear hs h hT hst hn HV
      generalize facV ls n x = F at *
      have HB0 := Lib.hid (Below.refl w.heap.size w)
      go_enter Tryd.func7, Tryd.ntmps7
      go_wp2_with fail
      refine (HL.out w HB0.out).mono ?_
      rintro e w1 ⟨v1, rfl, hv1, hb1⟩
      have HB1 := Lib.hid (HB0.out.trans (hb1.mono HB0.out.size))
      have B_1 := Lib.hid (hv1)
      clear hb1 hv1
      go_wp2_with fail
      refine (HSt.out v1 w1 B_1.out).mono ?_
      rintro e w2 ⟨v2, rfl, hv2, hb2⟩
      have HB2 := Lib.hid (HB1.out.trans (hb2.mono HB1.out.size))
      have B_2 := Lib.hid (B_1.out.below hb2 (Nat.le_refl _))
      have S_2 := Lib.hid (hv2)
      clear hb2 hv2
      clear B_2
      go_wp2_with fail
      refine (HL.out w2 HB2.out).mono ?_
      rintro e w3 ⟨v3, rfl, hv3, hb3⟩
      have HB3 := Lib.hid (HB2.out.trans (hb3.mono HB2.out.size))
      have S_3 := Lib.hid (S_2.out.below hb3 (Nat.le_refl _))
      have A_3 := Lib.hid (hv3)
      clear hb3 hv3
      go_wp2_with fail
      refine (HFa.out v3 w3 A_3.out (HTab.out w3 HB3.out)).mono ?_
      rintro e w4 ⟨rfl, hb4⟩
      have HB4 := Lib.hid (HB3.out.trans (hb4.mono HB3.out.size))
      have S_4 := Lib.hid (S_3.out.below hb4 (Nat.le_refl _))
      have A_4 := Lib.hid (A_3.out.below hb4 (Nat.le_refl _))
      clear hb4
      clear A_4
      go_wp2_with fail
      refine (HS.out w4 HB4.out).mono ?_
      rintro e w' ⟨rfl, rfl⟩
      go_wp2_with fail
      refine (HRs.out w4 HB4.out).mono ?_
      rintro e w5 ⟨v5, rfl, hv5, hb5⟩
      have HB5 := Lib.hid (HB4.out.trans (hb5.mono HB4.out.size))
      have S_5 := Lib.hid (S_4.out.below hb5 (Nat.le_refl _))
      have R_5 := Lib.hid (hv5)
      clear hb5 hv5
      go_wp2_with fail
      refine (HEs.out _ _ _ w5 S_5.out R_5.out).mono ?_
      rintro e w6 ⟨rfl, hb6⟩
      have HB6 := Lib.hid (HB5.out.trans (hb6.mono HB5.out.size))
      have S_6 := Lib.hid (S_5.out.below hb6 (Nat.le_refl _))
      have R_6 := Lib.hid (R_5.out.below hb6 (Nat.le_refl _))
      clear hb6
      clear S_6
      clear R_6
      go_wp2_with fail
      refine (HAw.out w6 HB6.out).mono ?_
      rintro e w7 ⟨rfl, hb7⟩
      have HB7 := Lib.hid (HB6.out.trans (hb7.mono HB6.out.size))
      clear hb7
      go_wp2_with fail
      refine (HRf.out w7 HB7.out).mono ?_
      rintro e w8 ⟨rfl, hb8⟩
      have HB8 := Lib.hid (HB7.out.trans (hb8.mono HB7.out.size))
      clear hb8
      go_wp2
      go_ret
      exact ⟨rfl, HB8.out⟩
end Go.Proofs.YtellnklbkjajbaaDoor
