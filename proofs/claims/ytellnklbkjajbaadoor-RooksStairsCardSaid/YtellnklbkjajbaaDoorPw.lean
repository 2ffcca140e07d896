/- the reference's permutations: the step -/
import Derived.Test.YtellnklbkjajbaaDoorPv
import Derived.Test.YtellnklbkjajbaaDoorHc
namespace Go.Proofs.YtellnklbkjajbaaDoor
open Go.RowKit

theorem u46 : Tryd.prog.underlying 46 = some (.slice 22) := by kernel_rfl
theorem Tryd.info22 : (Tryd.prog.info? 22).map (fun i => (i.zero, i.size, i.bytes)) = some (some (.slice none 0 0), 1, 24) := by kernel_rfl
theorem info_partsS {j : Nat} {z : Value} {s b : Nat} (h : (Tryd.prog.info? j).map (fun i => (i.zero, i.size, i.bytes)) = some (some z, s, b)) : ∃ i, Tryd.prog.info? j = some i ∧ i.zero = some z ∧ i.size = s ∧ i.bytes = b := by
  cases hi : Tryd.prog.info? j with
  | none => rw [hi] at h; cases h
  | some i =>
    rw [hi] at h
    simp only [Option.map_some, Option.some.injEq, Prod.mk.injEq] at h
    exact ⟨i, rfl, h.1, h.2.1, h.2.2⟩
theorem owns_low {w : World} {B C e s n : Nat} {v : Value} {xs : List Value} (h : w.ownsRow B e s v n xs) (hC : C ≤ B) : w.ownsRow C e s v n xs := by
  obtain ⟨h1, h2⟩ := h
  refine ⟨h1, ?_⟩
  rcases h2 with h2 | ⟨g, cap, cur, e1, e2, e3⟩
  · exact .inl h2
  · exact .inr ⟨g, cap, cur, e1, Nat.le_trans hC e2, e3⟩
theorem owns_lit {w : World} {B e s n : Nat} {v : Value} {xs : List Value} (h : w.ownsRow B e s v n xs) (hn : 0 < n) : ∃ g c, v = .slice (some ⟨g, 0, none⟩) n c := by
  obtain ⟨_, h2⟩ := h
  rcases h2 with ⟨_, h2⟩ | ⟨g, cap, cur, e1, _⟩
  · omega
  · exact ⟨g, cap, e1⟩
theorem Bg_snoc {w : World} {B C : Nat} {v : Value} {q : List Nat} {j : Nat} (h : w.ownsRow B 3 1 v (q.length + 1) (ints (nats q) ++ [.int .i64 (j : Nat)])) (hC : C ≤ B) : Bg C w v (q ++ [j]) := by
  have h1 := owns_low h hC
  unfold Bg
  have e1 : (nats (q ++ [j])).length = q.length + 1 := by simp [nats]
  have e2 : ints (nats (q ++ [j])) = ints (nats q) ++ [.int .i64 (j : Nat)] := by simp [nats, ints]
  rw [e1, e2]
  exact h1
theorem grow_below {w w' : World} {o : Obj} (h : ((w.alloc o).drew).grownBy w' none) : Below w.heap.size w w' := ((Below.refl _ w).alloc (Nat.le_refl _) o).grown (grownBy_undrew h) (by simp) fun k e => by cases e

/-- What a call answers. -/
def PermPost (D B : Nat) (ps : List (List Nat)) (w : World) (e : Ending) (w' : World) : Prop := ∃ v' vals, e = .returned v' ∧ w'.ownsRow B 22 1 v' vals.length vals ∧ PV D w' vals ps ∧ Below B w w'


set_option maxRecDepth 100000 in
set_option maxHeartbeats 4000000 in
theorem permuted_step (B0 n m tk : Nat) (q : List Nat) (w : World) (g c : Nat) (hg : Bg B0 w (.slice (some ⟨g, 0, none⟩) q.length c) q) (hB0 : B0 ≤ w.heap.size) (hn : n ≤ 6) (hq : q.length + (m + 1) = n) (htk : tk < 64) (hfl : fl (sub (2 ^ n - 1) tk) = m + 1)
    (IH : ∀ (tk : Nat) (q' : List Nat) (v : Value) (w : World), Bg B0 w v q' → B0 ≤ w.heap.size → q'.length + m = n → tk < 64 → fl (sub (2 ^ n - 1) tk) = m →
      Calls Tryd.prog 80 #[.int .i64 n, .int .i64 tk, v] w (PermPost B0 w.heap.size ((comps (2 ^ n - 1) m tk).map fun p => q' ++ p) w)) :
    Calls Tryd.prog 80 #[.int .i64 n, .int .i64 tk, .slice (some ⟨g, 0, none⟩) q.length c] w (PermPost B0 w.heap.size ((comps (2 ^ n - 1) (m + 1) tk).map fun p => q ++ p) w) := by
  have hne : ((q.length:Int) == (n:Int)) = false := by simp; omega
  have HIH := Lib.hid IH
  have hfull := pw6 n hn
  have HE := Lib.hid (cJ_end hn m tk q)
  have HBg := Lib.hid hg
  obtain ⟨hlc, hg1⟩ : q.length ≤ c ∧ g < w.heap.size := by
    obtain ⟨_, h2⟩ := hg
    rw [nats_length] at h2
    rcases h2 with ⟨e, _⟩ | ⟨g', cap, cur, e, _, e3, e4, _⟩
    · cases e
    · simp only [Value.slice.injEq, Option.some.injEq, Addr.mk.injEq] at e
      obtain ⟨⟨rfl, _⟩, _, rfl⟩ := e
      exact ⟨e4, lt_of_block e3⟩
  have HCell : Hid (∀ j u, (ints (nats q))[j]? = some u → w.cell? ⟨g, j, none⟩ = some u) := Lib.hid fun j u hj => by
    unfold Bg at hg
    rw [nats_length] at hg
    have hlt := (List.getElem?_eq_some_iff.1 hj).1
    rw [ints_length, nats_length] at hlt
    rw [World.ownsRow.cellAt hg j (by omega), hj]
  have hl0 : (0:Int) ≤ (q.length:Int) := by omega
  have hlc' : (q.length:Int) ≤ (c:Int) := by omega
  clear hg
  obtain ⟨i3, hi3, hz0, hz1, hz2⟩ := info_parts Tryd.info3
  obtain ⟨i22, hi22, hy0, hy1, hy2⟩ := info_partsS Tryd.info22
  clear IH
  go_enter Tryd.func80, Tryd.ntmps80
  go_wp2_with fail
  go_loopw [7, 16] (fun s ii wr => ∃ (j : Nat) (vals : List Value), j ≤ n ∧ vals.length ≤ j * 720 ∧ ii = .int .i64 j ∧ wr.ownsRow w.heap.size 22 1 s vals.length vals ∧ PV B0 wr vals (cJ (2 ^ n - 1) m tk q j) ∧ Below w.heap.size w wr) (fun _ ii _ => n - (intOf ii).toNat)
  case atStart => exact ⟨0, [], Nat.zero_le _, Nat.zero_le _, rfl, World.ownsRow_nil _ _ _ _, trivial, Below.refl _ _⟩
  case round =>
    obtain ⟨j, vals, hj, hvl, rfl, hO, hPV, hb⟩ := hrel
    have HO := Lib.hid hO
    have HPV := Lib.hid hPV
    have HB := Lib.hid hb
    obtain ⟨ao', c', rfl⟩ := owns_form hO
    clear hO hPV hb
    have HS := Lib.hid (cJ_succ (2 ^ n - 1) m tk q j)
    by_cases hlt : j < n
    · have hb2 := bit_and1 tk j (by omega)
      have hbt : (sub (2 ^ n - 1) tk).testBit j = !tk.testBit j := by
        rw [sub_bit, Nat.testBit_two_pow_sub_one, decide_eq_true hlt]; rfl
      rw [hbt] at HS
      cases htb : tk.testBit j with
      | true =>
        rw [htb] at hb2 HS
        have hb2' : bits .and .i64 ((tk:Int) / 2 ^ j) 1 = 1 := hb2
        clear hb2 htb hbt
        go_wp2_with fail
        go_roundw
        case rel => exact ⟨j + 1, vals, by omega, by omega, by go_num, HO.out, by rw [HS.out]; exact HPV.out, HB.out⟩
        case measure => simp [intOf]; omega
      | false =>
        rw [htb] at hb2 HS hbt
        have hb2' : bits .and .i64 ((tk:Int) / 2 ^ j) 1 = 0 := hb2
        have hp32 : 2 ^ j ≤ 32 := Nat.pow_le_pow_right (n := 2) (by decide) (show j ≤ 5 by omega)
        have hor : bits .or .i64 (tk:Int) ((2:Int) ^ j) = ((tk ||| 2 ^ j : Nat) : Int) := by rw [← pw_cast]; exact i64_or _ _ (by omega) (by omega)
        have hd3 : IntKind.i64.wrap ((2:Int) ^ j) = (2:Int) ^ j := by have := pw_bd j (by omega); exact i64_of (by omega) (by omega)
        have htk2 : tk ||| 2 ^ j < 64 := Nat.or_lt_two_pow (n := 6) htk (Nat.pow_lt_pow_right (by decide) (by omega))
        have hfl2 : fl (sub (2 ^ n - 1) (tk ||| 2 ^ j)) = m := by
          have := fl_less (s := sub (2 ^ n - 1) tk) (j := j) (by omega) (by rw [hbt]; rfl)
          rw [← sub_or] at this
          omega
        have HLen := Lib.hid (comps_len (2 ^ n - 1) (by omega) m (tk ||| 2 ^ j) hfl2)
        have HCl := Lib.hid (HIH.out (tk ||| 2 ^ j) (q ++ [j]))
        have hB0wr : B0 ≤ wr.heap.size := Nat.le_trans hB0 HB.out.size
        have hB0W : B0 ≤ (wr.alloc (.cells #[.int .i64 (j : Nat)] 3)).drew.heap.size := Nat.le_trans hB0wr (by simp)
        have hf7 : fac m ≤ 720 := fac_le m (by omega)
        have hql : (q ++ [j]).length + m = n := by rw [List.length_append]; simp; omega
        have hnq : nats (q ++ [j]) = nats q ++ [(j:Int)] := by simp [nats]
        clear hb2 htb hbt hp32 HIH HE
        generalize tk ||| 2 ^ j = tk2 at *
        go_wp2_with fail
        go_region_held3 (fun _ => True) (trivial) ((first
          | (go_at_call 80; refine (HCl.out v2 w2 (Bg_snoc hown2 hB0W) (Nat.le_trans hB0wr (grow_below hg2).size) hql htk2 hfl2).mono ?_; rintro e w3 ⟨v3, vals3, rfl, hown3, hPV3, hb3⟩; have hl3 : vals3.length = fac m := (by rw [hPV3.length, List.length_map, HLen.out]); obtain ⟨g3, c3', rfl⟩ := owns_lit hown3 (by have := fac_pos m; omega))
          | (rw [if_pos (by rfl)]; refine wp_append_grows _ _ _ 22 rfl 3 i3 (.int .i64 0) 1 8 Tryd.underlying22 hi3 hz0 hz1 hz2 rfl (by decide) _ _ _ (ints (nats q)) rfl (fun e => by cases e) (by rw [ints_length, nats_length, Nat.mul_one]) (fun b0 hb0 i0 u hu => by (cases hb0; rw [Addr.add_lit, Nat.zero_add]; exact alloc_cell _ (ck (HCell.out _ _ hu) HB.out))) ⟨wr.heap.size, 0, none⟩ 1 1 [.int .i64 (j : Nat)] rfl rfl (newOne _ _ _) (oneInt _) (by omega) (by unfold maxLen; omega) (by omega) ?_; intro v2 w2 hown2 hg2)
          | (rw [if_pos (by rfl)]
             have c1 := owns_below (owns_below HO.out (grow_below hg2) (Nat.le_refl _)) hb3 (Nat.le_refl _)
             have c3 : ∀ k u, vals3[k]? = some u → w3.cell? ((⟨g3, 0, none⟩ : Addr).add k) = some u := (fun k u hu => by (have hlt := (List.getElem?_eq_some_iff.1 hu).1; rw [Addr.add_lit, Nat.zero_add, World.ownsRow.cellAt hown3 k (by omega), hu]))
             refine wp_append_own _ _ _ 46 rfl w.heap.size 22 i22 (.slice none 0 0) 1 24 u46 hi22 hy0 hy1 hy2 rfl (by decide) _ _ _ rfl c1 ⟨g3, 0, none⟩ (fac m) c3' vals3 rfl (by rw [hl3, Nat.mul_one]) c3 (PV.one hPV3) (by unfold maxLen; omega) (by omega) (by have := HB.out.size; have := (grow_below hg2).size; have := hb3.size; omega) ?_
             intro v4 w4 hown4 hg4 _)))
        have hBr3 : Below wr.heap.size wr w3 := (grow_below hg2).trans (hb3.mono (grow_below hg2).size)
        have HPV4 : Hid (PV B0 w4 (vals ++ vals3) (cJ (2 ^ n - 1) m tk q (j + 1))) := Lib.hid (by
          rw [HS.out]
          exact PV.append (PV.imp (fun x p h => Bg.row (Bg.below h hBr3) c1 hg4) HPV.out) (PV.imp (fun x p h => Bg.row h c1 hg4) hPV3))
        have HO4 : Hid (w4.ownsRow w.heap.size 22 1 v4 (vals ++ vals3).length (vals ++ vals3)) := Lib.hid (by rw [List.length_append, hl3]; exact hown4)
        have HB4 : Hid (Below w.heap.size w w4) := Lib.hid ((HB.out.trans (hBr3.mono HB.out.size)).grown hg4 (Nat.le_trans HB.out.size hBr3.size) fun k e => (c1.lt k e).1)
        have hvl4 : (vals ++ vals3).length ≤ (j + 1) * 720 := by rw [List.length_append, hl3]; omega
        clear hBr3 hown4 hg4 hPV3 hown3 hb3 hown2 hg2
        go_wp2_with fail
        go_roundw
        case rel => exact ⟨j + 1, vals ++ vals3, by omega, hvl4, by go_num, HO4.out, HPV4.out, HB4.out⟩
        case measure => simp [intOf]; omega
    · obtain rfl : j = n := by omega
      have HPE : Hid (PV B0 wr vals ((comps (2 ^ j - 1) (m + 1) tk).map fun p => q ++ p)) := Lib.hid (by rw [← HE.out]; exact HPV.out)
      go_wp2_with fail
      go_ret
      exact ⟨_, vals, rfl, HO.out, HPE.out, HB.out⟩

set_option maxRecDepth 100000 in
set_option maxHeartbeats 4000000 in
theorem permuted_nil (B0 n m tk : Nat) (w : World)  (hB0 : B0 ≤ w.heap.size) (hn : n ≤ 6) (hq : m + 1 = n) (htk : tk < 64) (hfl : fl (sub (2 ^ n - 1) tk) = m + 1)
    (IH : ∀ (tk : Nat) (q' : List Nat) (v : Value) (w : World), Bg B0 w v q' → B0 ≤ w.heap.size → q'.length + m = n → tk < 64 → fl (sub (2 ^ n - 1) tk) = m →
      Calls Tryd.prog 80 #[.int .i64 n, .int .i64 tk, v] w (PermPost B0 w.heap.size ((comps (2 ^ n - 1) m tk).map fun p => q' ++ p) w)) :
    Calls Tryd.prog 80 #[.int .i64 n, .int .i64 tk, .slice none 0 0] w (PermPost B0 w.heap.size ((comps (2 ^ n - 1) (m + 1) tk).map fun p => [] ++ p) w) := by
  have hne : ((0:Int) == (n:Int)) = false := beq_eq_false_iff_ne.2 (by omega)
  have HIH := Lib.hid IH
  have hfull := pw6 n hn
  have HE := Lib.hid (cJ_end hn m tk [])
  have hl0 : (0:Int) ≤ 0 := by omega
  obtain ⟨i3, hi3, hz0, hz1, hz2⟩ := info_parts Tryd.info3
  obtain ⟨i22, hi22, hy0, hy1, hy2⟩ := info_partsS Tryd.info22
  clear IH
  go_enter Tryd.func80, Tryd.ntmps80
  go_wp2_with fail
  go_loopw [7, 16] (fun s ii wr => ∃ (j : Nat) (vals : List Value), j ≤ n ∧ vals.length ≤ j * 720 ∧ ii = .int .i64 j ∧ wr.ownsRow w.heap.size 22 1 s vals.length vals ∧ PV B0 wr vals (cJ (2 ^ n - 1) m tk [] j) ∧ Below w.heap.size w wr) (fun _ ii _ => n - (intOf ii).toNat)
  case atStart => exact ⟨0, [], Nat.zero_le _, Nat.zero_le _, rfl, World.ownsRow_nil _ _ _ _, trivial, Below.refl _ _⟩
  case round =>
    obtain ⟨j, vals, hj, hvl, rfl, hO, hPV, hb⟩ := hrel
    have HO := Lib.hid hO
    have HPV := Lib.hid hPV
    have HB := Lib.hid hb
    obtain ⟨ao', c', rfl⟩ := owns_form hO
    clear hO hPV hb
    have HS := Lib.hid (cJ_succ (2 ^ n - 1) m tk [] j)
    by_cases hlt : j < n
    · have hb2 := bit_and1 tk j (by omega)
      have hbt : (sub (2 ^ n - 1) tk).testBit j = !tk.testBit j := by
        rw [sub_bit, Nat.testBit_two_pow_sub_one, decide_eq_true hlt]; rfl
      rw [hbt] at HS
      cases htb : tk.testBit j with
      | true =>
        rw [htb] at hb2 HS
        have hb2' : bits .and .i64 ((tk:Int) / 2 ^ j) 1 = 1 := hb2
        clear hb2 htb hbt
        go_wp2_with fail
        go_roundw
        case rel => exact ⟨j + 1, vals, by omega, by omega, by go_num, HO.out, by rw [HS.out]; exact HPV.out, HB.out⟩
        case measure => simp [intOf]; omega
      | false =>
        rw [htb] at hb2 HS hbt
        have hb2' : bits .and .i64 ((tk:Int) / 2 ^ j) 1 = 0 := hb2
        have hp32 : 2 ^ j ≤ 32 := Nat.pow_le_pow_right (n := 2) (by decide) (show j ≤ 5 by omega)
        have hor : bits .or .i64 (tk:Int) ((2:Int) ^ j) = ((tk ||| 2 ^ j : Nat) : Int) := by rw [← pw_cast]; exact i64_or _ _ (by omega) (by omega)
        have hd3 : IntKind.i64.wrap ((2:Int) ^ j) = (2:Int) ^ j := by have := pw_bd j (by omega); exact i64_of (by omega) (by omega)
        have htk2 : tk ||| 2 ^ j < 64 := Nat.or_lt_two_pow (n := 6) htk (Nat.pow_lt_pow_right (by decide) (by omega))
        have hfl2 : fl (sub (2 ^ n - 1) (tk ||| 2 ^ j)) = m := by
          have := fl_less (s := sub (2 ^ n - 1) tk) (j := j) (by omega) (by rw [hbt]; rfl)
          rw [← sub_or] at this
          omega
        have HLen := Lib.hid (comps_len (2 ^ n - 1) (by omega) m (tk ||| 2 ^ j) hfl2)
        have HCl := Lib.hid (HIH.out (tk ||| 2 ^ j) ([] ++ [j]))
        have hB0wr : B0 ≤ wr.heap.size := Nat.le_trans hB0 HB.out.size
        have hB0W : B0 ≤ (wr.alloc (.cells #[.int .i64 (j : Nat)] 3)).drew.heap.size := Nat.le_trans hB0wr (by simp)
        have hf7 : fac m ≤ 720 := fac_le m (by omega)
        have hql : ([] ++ [j]).length + m = n := by rw [List.length_append]; simp; omega
        have hnq : nats ([] ++ [j]) = nats [] ++ [(j:Int)] := by simp [nats]
        clear hb2 htb hbt hp32 HIH HE
        generalize tk ||| 2 ^ j = tk2 at *
        go_wp2_with fail
        go_region_held3 (fun _ => True) (trivial) ((first
          | (go_at_call 80; refine (HCl.out v2 w2 (Bg_snoc (q := []) hown2 hB0W) (Nat.le_trans hB0wr (grow_below hg2).size) hql htk2 hfl2).mono ?_; rintro e w3 ⟨v3, vals3, rfl, hown3, hPV3, hb3⟩; have hl3 : vals3.length = fac m := (by rw [hPV3.length, List.length_map, HLen.out]); obtain ⟨g3, c3', rfl⟩ := owns_lit hown3 (by have := fac_pos m; omega))
          | (rw [if_pos (by rfl)]; refine wp_append_grows _ _ _ 22 rfl 3 i3 (.int .i64 0) 1 8 Tryd.underlying22 hi3 hz0 hz1 hz2 rfl (by decide) _ _ _ (ints (nats [])) rfl (fun _ => ⟨rfl, rfl⟩) (by simp [ints, nats]) (fun b0 hb0 => by cases hb0) ⟨wr.heap.size, 0, none⟩ 1 1 [.int .i64 (j : Nat)] rfl rfl (newOne _ _ _) (oneInt _) (by omega) (by unfold maxLen; omega) (by omega) ?_; intro v2 w2 hown2 hg2)
          | (rw [if_pos (by rfl)]
             have c1 := owns_below (owns_below HO.out (grow_below hg2) (Nat.le_refl _)) hb3 (Nat.le_refl _)
             have c3 : ∀ k u, vals3[k]? = some u → w3.cell? ((⟨g3, 0, none⟩ : Addr).add k) = some u := (fun k u hu => by (have hlt := (List.getElem?_eq_some_iff.1 hu).1; rw [Addr.add_lit, Nat.zero_add, World.ownsRow.cellAt hown3 k (by omega), hu]))
             refine wp_append_own _ _ _ 46 rfl w.heap.size 22 i22 (.slice none 0 0) 1 24 u46 hi22 hy0 hy1 hy2 rfl (by decide) _ _ _ rfl c1 ⟨g3, 0, none⟩ (fac m) c3' vals3 rfl (by rw [hl3, Nat.mul_one]) c3 (PV.one hPV3) (by unfold maxLen; omega) (by omega) (by have := HB.out.size; have := (grow_below hg2).size; have := hb3.size; omega) ?_
             intro v4 w4 hown4 hg4 _)))
        have hBr3 : Below wr.heap.size wr w3 := (grow_below hg2).trans (hb3.mono (grow_below hg2).size)
        have HPV4 : Hid (PV B0 w4 (vals ++ vals3) (cJ (2 ^ n - 1) m tk [] (j + 1))) := Lib.hid (by
          rw [HS.out]
          exact PV.append (PV.imp (fun x p h => Bg.row (Bg.below h hBr3) c1 hg4) HPV.out) (PV.imp (fun x p h => Bg.row h c1 hg4) hPV3))
        have HO4 : Hid (w4.ownsRow w.heap.size 22 1 v4 (vals ++ vals3).length (vals ++ vals3)) := Lib.hid (by rw [List.length_append, hl3]; exact hown4)
        have HB4 : Hid (Below w.heap.size w w4) := Lib.hid ((HB.out.trans (hBr3.mono HB.out.size)).grown hg4 (Nat.le_trans HB.out.size hBr3.size) fun k e => (c1.lt k e).1)
        have hvl4 : (vals ++ vals3).length ≤ (j + 1) * 720 := by rw [List.length_append, hl3]; omega
        clear hBr3 hown4 hg4 hPV3 hown3 hb3 hown2 hg2
        go_wp2_with fail
        go_roundw
        case rel => exact ⟨j + 1, vals ++ vals3, by omega, hvl4, by go_num, HO4.out, HPV4.out, HB4.out⟩
        case measure => simp [intOf]; omega
    · obtain rfl : j = n := by omega
      have HPE : Hid (PV B0 wr vals ((comps (2 ^ j - 1) (m + 1) tk).map fun p => [] ++ p)) := Lib.hid (by rw [← HE.out]; exact HPV.out)
      go_wp2_with fail
      go_ret
      exact ⟨_, vals, rfl, HO.out, HPE.out, HB.out⟩

theorem permuted_any (B0 n : Nat) (hn : n ≤ 6) : ∀ (m tk : Nat) (q : List Nat) (v : Value) (w : World), Bg B0 w v q → B0 ≤ w.heap.size → q.length + m = n → tk < 64 → fl (sub (2 ^ n - 1) tk) = m →
    Calls Tryd.prog 80 #[.int .i64 n, .int .i64 tk, v] w (PermPost B0 w.heap.size ((comps (2 ^ n - 1) m tk).map fun p => q ++ p) w) := by
  intro m
  induction m with
  | zero =>
    intro tk q v w hB _ hq _ _
    obtain ⟨ao, c, rfl⟩ := owns_form hB
    have hl : (nats q).length = n := by rw [nats_length]; omega
    have HO : Hid ((w.alloc (.cells #[.slice ao n c] 22)).ownsRow w.heap.size 22 1 (.slice (some ⟨w.heap.size, 0, none⟩) 1 1) 1 [.slice ao n c]) := Lib.hid (World.ownsRow_lit (size := 1) w #[.slice ao n c] 1 (Nat.le_refl _) (by unfold maxLen; omega) rfl)
    have HB' : Hid (Bg B0 (w.alloc (.cells #[.slice ao n c] 22)) (.slice ao n c) q) := Lib.hid (by rw [hl] at hB; exact Bg.below hB ((Below.refl _ _).alloc (Nat.le_refl _) _))
    rw [hl]
    clear hB
    go_enter Tryd.func80, Tryd.ntmps80
    go_wp2_with fail
    go_ret
    exact ⟨_, [.slice ao n c], rfl, HO.out, by simp only [comps, List.map_cons, List.map_nil, List.append_nil]; exact ⟨HB'.out, trivial⟩, (Below.refl _ _).alloc (Nat.le_refl _) _⟩
  | succ m ih =>
    intro tk q v w hB hB0 hq htk hfl
    have ih' := fun tk' q' v' w' => ih tk' q' v' w'
    cases q with
    | nil =>
      have hv : v = .slice none 0 0 ∨ ∃ g c, v = .slice (some ⟨g, 0, none⟩) ([] : List Nat).length c := by
        obtain ⟨_, h2⟩ := hB
        rcases h2 with ⟨rfl, _⟩ | ⟨g, cap, cur, rfl, _⟩
        · exact .inl rfl
        · exact .inr ⟨g, cap, rfl⟩
      rcases hv with rfl | ⟨g, c, rfl⟩
      · exact permuted_nil B0 n m tk w hB0 hn (by simpa using hq) htk hfl ih'
      · exact permuted_step B0 n m tk [] w g c hB hB0 hn hq htk hfl ih'
    | cons a q =>
      obtain ⟨g, c, rfl⟩ := owns_lit hB (by simp [nats])
      rw [nats_length] at *
      exact permuted_step B0 n m tk (a :: q) w g c hB hB0 hn hq htk hfl ih'

set_option maxHeartbeats 400000 in
theorem rperms_any (n : Nat) (w : World) (hn : n ≤ 6) :
    Calls Tryd.prog 56 #[.int .i64 n] w (PermPost w.heap.size w.heap.size (allP n) w) := by
  have HC := Lib.hid (permuted_any w.heap.size n hn n 0 [] (.slice none 0 0) w (World.ownsRow_nil _ _ _ _) (Nat.le_refl _) (by simp) (by decide) (by
    have : sub (2 ^ n - 1) 0 = 2 ^ n - 1 := Nat.eq_of_testBit_eq fun j => by rw [sub_bit]; simp
    rw [this, fl_full n hn]))
  have e : ((comps (2 ^ n - 1) n 0).map fun p => [] ++ p) = allP n := by rw [allP_comps]; simp
  rw [e] at HC
  generalize allP n = ps at *
  go_enter Tryd.func56, Tryd.ntmps56
  go_wp2_with fail
  refine HC.out.mono ?_
  rintro e w2 ⟨v, vals, rfl, hO, hP, hb⟩
  have HO := Lib.hid hO
  have HP := Lib.hid hP
  have HB := Lib.hid hb
  clear hO hP hb HC
  go_wp2
  go_ret
  exact ⟨_, _, rfl, HO.out, HP.out, HB.out⟩

end Go.Proofs.YtellnklbkjajbaaDoor
