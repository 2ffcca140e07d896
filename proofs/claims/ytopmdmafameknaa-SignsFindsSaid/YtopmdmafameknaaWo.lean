/- the reference's Design; Words: the program's and the reference's -/
import Derived.Test.YtopmdmafameknaaDe
namespace Go.Proofs.Ytopmdmafameknaa
open Go.RowKit

theorem dsgL_succ (n : Nat) (hs : List Nat) (k : Nat) : (List.range (k+1)).map (fun i => dsgR n ((normL n hs).getD (i + 1) 0)) = (List.range k).map (fun i => dsgR n ((normL n hs).getD (i + 1) 0)) ++ [dsgR n ((normL n hs).getD (k + 1) 0)] := by simp [List.range_succ]

set_option maxHeartbeats 1000000 in
set_option maxRecDepth 100000 in
theorem rDesign_any (v : Value) (n : Nat) (hs : List Nat) (w : World) (h : Nats w v hs) (hm : Mat n hs) (h4 : 4 ≤ n) :
    Calls Try.prog 41 #[v] w fun e w' => ∃ v', e = .returned v' ∧ Nats w' v' (dsgL n hs) ∧ Below w.heap.size w w' := by
  have HNor := Lib.hid (rNormal_any v n hs w h hm)
  have HG := Lib.hid ((show Mat n (normL n hs) from plant_mat _ hm.pos hm.le).get)
  have HL16 := Lib.hid (dsgL_lt16 hm)
  have HLn := Lib.hid (show (normL n hs).length = n from plant_length _ _)
  have HDL : Hid (dsgL n hs = (List.range (n - 1)).map fun i => dsgR n ((normL n hs).getD (i + 1) 0)) := rfl
  have hn := hm.le
  have hpos := hm.pos
  obtain ⟨i0, hi, hz0, hz1, hz2⟩ := info_parts Try.info3
  obtain ⟨ao, cap, rfl, h1, _⟩ := hm.open h
  have hpw := wrap_pw n hn
  have hpb := pw_bd n hn
  have hp16 := (pw_nat n hn).2
  have hpw2 : wrap64 (2 ^ n - 1) = 2 ^ n - 1 := wrap_in (by omega) (by omega)
  clear h hm
  go_enter Try.func41, Try.ntmps41
  go_wp2_with fail
  refine HNor.out.mono ?_
  rintro e w1 ⟨rfl, hB1, hb1⟩
  have HNB1 := Lib.hid hB1
  have HB1 := Lib.hid hb1
  have hsz1 := hb1.size
  have hglt := lt_of_block hB1
  clear hB1 hb1 HNor
  go_wp2_with fail
  go_loopw [3, 10] (fun s i wr => ∃ k : Nat, k ≤ n - 1 ∧ i = .int .i64 k ∧ wr.ownsRow w1.heap.size 3 1 s (nats ((List.range k).map fun i => dsgR n ((normL n hs).getD (i + 1) 0))).length (ints (nats ((List.range k).map fun i => dsgR n ((normL n hs).getD (i + 1) 0)))) ∧ Below w1.heap.size w1 wr) (fun _ i _ => n - 1 - (intOf i).toNat)
  case atStart => exact ⟨0, Nat.zero_le _, rfl, World.ownsRow_nil _ _ _ _, Below.refl _ _⟩
  case round =>
    obtain ⟨k, hk, rfl, ho, hb⟩ := hrel
    have HO := Lib.hid ho
    have HB := Lib.hid hb
    clear ho hb
    by_cases hlt : k < n - 1
    · obtain ⟨hc, _⟩ := HNB1.out.cell (k := 1 + k) (by rw [HLn.out]; omega)
      have hc' := ck hc HB.out
      rw [Nat.add_comm 1 k] at hc'
      rw [Nat.add_comm k 1] at hc'
      have hxl := HG.out (1 + k)
      have HS := Lib.hid (dsgL_succ n hs k)
      rw [Nat.add_comm k 1] at HS
      have hll : (nats ((List.range k).map fun i => dsgR n ((normL n hs).getD (i + 1) 0))).length ≤ 16 := by simp [nats]; omega
      have hdR : ((dsgR n ((normL n hs).getD (1 + k) 0) : Nat) : Int) = (((normL n hs).getD (1 + k) 0 ^^^ (2 ^ n - 1) : Nat) : Int) / 2 := rfl
      have HDR := Lib.hid hdR
      have hand := andNot_full n ((normL n hs).getD (1 + k) 0) hn hxl
      have hyl := xor_lt hxl (full_lt n)
      clear hdR hc
      generalize dsgR n ((normL n hs).getD (1 + k) 0) = dr at *
      generalize (normL n hs).getD (1 + k) 0 ^^^ (2 ^ n - 1) = y at *
      generalize (normL n hs).getD (1 + k) 0 = x at *
      generalize (List.range k).map (fun i => dsgR n ((normL n hs).getD (i + 1) 0)) = ls at *
      go_wp2_with (at_builtin; refine wpList_append_own _ rfl _ _ 22 rfl w1.heap.size 3 i0 (.int .i64 0) 1 8 Try.underlying22 hi hz0 hz1 hz2 rfl (by decide) _ _ _ rfl (HO.out.alloc _) ⟨wr.heap.size, 0, none⟩ 1 1 [.int .i64 ((y:Int) / 2)] rfl rfl (newOne _ _ _) (oneInt _) (by unfold maxLen; omega) (by omega) (by have := HB.out.size; simp; omega) ?_)
      intro v' w2 hown' hgrow _
      have HR := Lib.hid (int_step HO.out HB.out HB.out.size hown' hgrow)
      clear hown' hgrow
      go_wp2
      go_roundw
      case rel => exact ⟨k + 1, by omega, by go_num, by rw [Nat.add_comm k 1, HS.out, nats_snoc, HDR.out]; exact HR.out.1, HR.out.2⟩
      case measure => simp [intOf]; omega
    · obtain rfl : k = n - 1 := by omega
      rw [← HDL.out] at HO
      have hll : (dsgL n hs).length = n - 1 := dsgL_length n hs
      have hv := Ints.of_owns HO.out (by rw [nats_length]; omega) (nats_I64 HL16.out)
      have HV := Lib.hid hv
      have HBB := Lib.hid (HB1.out.trans (HB.out.mono hsz1))
      clear hv hll
      go_wp2
      go_ret
      exact ⟨_, rfl, HV.out, HBB.out⟩

/-- All rows, and all turned ones, not yet sorted. -/
def allW (n : Nat) (hs : List Nat) : List Nat := hs ++ hs.map fun x => x ^^^ (2 ^ n - 1)
def wordsL (n : Nat) (hs : List Nat) : List Int := (nats (allW n hs)).mergeSort fun x y => decide (x ≤ y)

/-- What slices.Sort does with a slice of ints that a call owns. -/
def SortSaid : Prop := ∀ (base : Nat) (v : Value) (zs : List Int) (w : World), zs ≠ [] → zs.length ≤ 1000 → w.ownsRow base 3 1 v zs.length (ints zs) → base ≤ w.heap.size →
  Calls Try.prog 57 #[v] w fun e w' => e = .returned (.tuple #[]) ∧ w'.ownsRow base 3 1 v zs.length (ints (zs.mergeSort fun x y => decide (x ≤ y))) ∧ Below base w w'

def WordsPost (w : World) (xs : List Int) (e : Ending) (w' : World) : Prop :=
  (if matB 16 xs = true then (if balB xs.length (xs.map Int.toNat) = true then ∃ v, e = .returned (.tuple #[v, .int .i64 0]) ∧ Ints w' v (wordsL xs.length (xs.map Int.toNat)) else e = .returned (.tuple #[.slice none 0 0, .int .i64 5])) else e = .returned (.tuple #[.slice none 0 0, .int .i64 2])) ∧ Below w.heap.size w w'

theorem allW_lt {n : Nat} {hs : List Nat} (hm : Mat n hs) : ∀ x ∈ allW n hs, x < 2 ^ n := by
  intro x hx
  rcases List.mem_append.1 hx with h | h
  · exact hm.lt x h
  · obtain ⟨y, hy, rfl⟩ := List.mem_map.1 h
    exact xor_lt (hm.lt y hy) (full_lt n)
theorem allW_length (n : Nat) (hs : List Nat) : (allW n hs).length = 2 * hs.length := by simp [allW]; omega
theorem wordsL_mem {n : Nat} {hs : List Nat} {x : Int} (h : x ∈ wordsL n hs) : x ∈ nats (allW n hs) := (List.mergeSort_perm _ _).mem_iff.1 h
theorem wordsL_length (n : Nat) (hs : List Nat) : (wordsL n hs).length = 2 * hs.length := by unfold wordsL; rw [List.length_mergeSort, nats_length, allW_length]

set_option maxHeartbeats 1000000 in
set_option maxRecDepth 100000 in
theorem words_any (HSort : SortSaid) (v : Value) (xs : List Int) (w : World) (h : Ints w v xs) :
    Calls Try.prog 40 #[v] w (WordsPost w xs) := by
  have HV := Lib.hid (valid_any v xs w h)
  cases hs : matB 16 xs with
  | false =>
    rw [hs] at HV
    have HS := Lib.hid hs
    obtain ⟨ao, cap, rfl, h1, h2, _⟩ := h.open
    clear h hs
    go_enter Try.func40, Try.ntmps40
    go_wp2_with fail
    refine HV.out.mono ?_
    rintro e w' ⟨rfl, rfl⟩
    go_wp2
    go_ret2
    unfold WordsPost
    rw [HS.out]
    exact ⟨rfl, Below.refl _ _⟩
  | true =>
    rw [hs] at HV
    obtain ⟨hh, n, rfl, hm, hl, hln⟩ := matB_of' (Nat.le_refl _) hs
    have HNL := Lib.hid hln
    have HS := Lib.hid hs
    have HBal := Lib.hid (balanced_any v n hh w h hm)
    have HCl := Lib.hid (clone1_any v (nats hh) w h)
    have hpos := hm.pos
    have HG := Lib.hid hm.get16
    obtain ⟨ao, cap, rfl, h1, hx⟩ := hm.open h
    have HX := Lib.hid hx
    cases hb : balB n hh with
    | false =>
      have HB : Hid (¬ balB (nats hh).length ((nats hh).map Int.toNat) = true) := fun h => by rw [nats_toNat, HNL.out, hb] at h; cases h
      rw [hb] at HBal
      clear h hs hm hln hb hx
      go_enter Try.func40, Try.ntmps40
      go_wp2_with fail
      refine HV.out.mono ?_
      rintro e w' ⟨rfl, rfl⟩
      go_wp2_with fail
      refine HBal.out.mono ?_
      rintro e w' ⟨rfl, rfl⟩
      go_wp2
      go_ret2
      unfold WordsPost
      rw [if_pos HS.out, if_neg HB.out]
      exact ⟨rfl, Below.refl _ _⟩
    | true =>
      have HB : Hid (balB (nats hh).length ((nats hh).map Int.toNat) = true) := (show balB _ _ = true by rw [nats_toNat, HNL.out, hb])
      rw [hb] at HBal
      have hhl := hm.len
      have HHL := Lib.hid hhl
      have HI : Hid (∀ x ∈ wordsL n hh, I64 x) := fun x hx => nats_I64 (fun y hy => Nat.lt_of_lt_of_le (allW_lt hm y hy) (pw_nat n hl).2) x (wordsL_mem hx)
      have HSo := Lib.hid HSort
      obtain ⟨i0, hi, hz0, hz1, hz2⟩ := info_parts Try.info3
      clear h hs hm hln hb hx hhl HSort
      go_enter Try.func40, Try.ntmps40
      go_wp2_with fail
      refine HV.out.mono ?_
      rintro e w' ⟨rfl, rfl⟩
      go_wp2_with fail
      refine HBal.out.mono ?_
      rintro e w' ⟨rfl, rfl⟩
      go_wp2_with fail
      refine HCl.out.mono ?_
      rintro e w1 ⟨ao1, c1, rfl, ho1, hb1⟩
      have HO1 := Lib.hid ho1
      have HB1 := Lib.hid hb1
      clear ho1 hb1 HCl HBal HV
      go_wp2_with fail
      go_loopw [4, 17] (fun s i wr => ∃ k : Nat, k ≤ n ∧ i = .int .i64 k ∧ wr.ownsRow w.heap.size 3 1 s (nats (hh ++ (hh.take k).map fun x => x ^^^ (2 ^ n - 1))).length (ints (nats (hh ++ (hh.take k).map fun x => x ^^^ (2 ^ n - 1)))) ∧ Below w.heap.size w wr) (fun _ i _ => n - (intOf i).toNat)
      case atStart => exact ⟨0, Nat.zero_le _, rfl, by simpa using HO1.out, HB1.out⟩
      case round =>
        obtain ⟨k, hk, rfl, ho, hb⟩ := hrel
        have HO := Lib.hid ho
        have HBl := Lib.hid hb
        clear ho hb
        by_cases hlt : k < n
        · obtain ⟨b, o, rfl, hck⟩ := HX.out k hlt
          have hck' := ck hck HBl.out
          have HTu := Lib.hid (turn_any (hh.getD k 0) n wr (HG.out k) hl)
          have hgd : (hh.take (k+1)).map (fun x => x ^^^ (2 ^ n - 1)) = (hh.take k).map (fun x => x ^^^ (2 ^ n - 1)) ++ [hh.getD k 0 ^^^ (2 ^ n - 1)] := by
            have hkl : k < hh.length := by rw [HHL.out]; exact hlt
            rw [List.take_succ_eq_append_getElem hkl, List.map_append]; simp [hkl]
          have HGD := Lib.hid hgd
          have hll : (nats (hh ++ (hh.take k).map fun x => x ^^^ (2 ^ n - 1))).length ≤ 32 := by
            rw [nats_length, List.length_append, List.length_map, List.length_take, HHL.out]; omega
          clear hgd hck
          generalize (hh.take k).map (fun x => x ^^^ (2 ^ n - 1)) = tl at *
          generalize hh.getD k 0 ^^^ (2 ^ n - 1) = y at *
          generalize hh.getD k 0 = x at *
          go_wp2_with fail
          refine HTu.out.mono ?_
          rintro e w' ⟨rfl, rfl⟩
          go_wp2_with (at_builtin; refine wpList_append_own _ rfl _ _ 22 rfl w.heap.size 3 i0 (.int .i64 0) 1 8 Try.underlying22 hi hz0 hz1 hz2 rfl (by decide) _ _ _ rfl (HO.out.alloc _) ⟨wr.heap.size, 0, none⟩ 1 1 [.int .i64 y] rfl rfl (newOne _ _ _) (oneInt _) (by unfold maxLen; omega) (by omega) (by have := HBl.out.size; simp; omega) ?_)
          intro v' w2 hown' hgrow _
          have HR := Lib.hid (int_step HO.out HBl.out HBl.out.size hown' hgrow)
          clear hown' hgrow
          go_wp2
          go_roundw
          case rel => exact ⟨k + 1, by omega, by go_num, by rw [HGD.out, ← List.append_assoc, nats_snoc]; exact HR.out.1, HR.out.2⟩
          case measure => simp [intOf]; omega
        · obtain rfl : n = k := by omega
          have hall : hh ++ (hh.take n).map (fun x => x ^^^ (2 ^ n - 1)) = allW n hh := by rw [List.take_of_length_le (by rw [HHL.out]; omega)]; rfl
          rw [hall] at HO
          have hl2 : (nats (allW n hh)).length = 2 * n := by rw [nats_length, allW_length, HHL.out]
          have HSr := Lib.hid (HSo.out w.heap.size u4 (nats (allW n hh)) wr (fun e => by rw [e] at hl2; simp at hl2; omega) (by omega) HO.out HBl.out.size)
          obtain ⟨ao4, c4, hu4⟩ := owns_form HO.out
          have HWL : Hid ((wordsL n hh).length = (nats (allW n hh)).length) := List.length_mergeSort _
          have HW : Hid (((nats (allW n hh)).mergeSort fun x y => decide (x ≤ y)) = wordsL n hh) := rfl
          have HL2 := Lib.hid hl2
          clear hall hl2
          subst hu4
          go_wp2_with fail
          refine HSr.out.mono ?_
          rintro e w3 ⟨rfl, ho3, hb3⟩
          rw [HW.out, ← HWL.out] at ho3
          have hv := Ints.of_owns ho3 (by rw [HWL.out, HL2.out]; omega) HI.out
          rw [HWL.out] at hv
          have HV3 := Lib.hid hv
          have HB3 := Lib.hid (HBl.out.trans hb3)
          clear ho3 hb3 hv
          go_wp2
          go_ret2
          unfold WordsPost
          rw [if_pos HS.out, if_pos HB.out, nats_toNat, HNL.out]
          exact ⟨⟨_, rfl, HV3.out⟩, HB3.out⟩
end Go.Proofs.Ytopmdmafameknaa
