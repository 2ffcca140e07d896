/- ArcsBlocking: the walk -/
import Derived.Test.YtllokfkagneneaaBm
import Derived.Test.YtllokfkagneneaaBl
namespace Go.Proofs.Ytllokfkagneneaa
open Go.RowKit

theorem restL_yes {xs : List Int} {k : Nat} (h : hasB xs k = false) : restL xs (k+1) = restL xs k ++ [(k : Int)] := by
  simp [restL, List.range_succ, List.filter_append, h]
theorem restL_no {xs : List Int} {k : Nat} (h : hasB xs k = true) : restL xs (k+1) = restL xs k := by
  simp [restL, List.range_succ, List.filter_append, h]
theorem restL_le (xs : List Int) (k : Nat) : (restL xs k).length ≤ k := by
  have := List.length_filter_le (fun (x : Nat) => !hasB xs x) (List.range k)
  simpa [restL] using this
theorem restL_I64 (xs : List Int) (k : Nat) (hk : k ≤ 1000) : ∀ x ∈ restL xs k, I64 x := by
  intro x hx
  simp only [restL, List.mem_map, List.mem_filter, List.mem_range] at hx
  obtain ⟨l, ⟨hl, _⟩, rfl⟩ := hx
  unfold I64; omega
theorem rest_setB (q : Nat) (xs : List Int) (hq : isPn q) : setB q (restL xs (np q)) = true := by
  have h1 : isP (q:Int) = true := by rcases hq with rfl | rfl | rfl | rfl <;> rfl
  have h2 : inB q (restL xs (np q)) = true := inB_true fun k hk => restL_in q xs k hk
  have h3 : risB (restL xs (np q)) = true := decide_eq_true (restL_rises xs (np q))
  unfold setB okB
  rw [h1, h3, Int.toNat_natCast, h2]; rfl

set_option maxHeartbeats 4000000 in
set_option maxRecDepth 100000 in
theorem blocking_bad (p : Int) (v : Value) (xs : List Int) (w : World) (h : Ints w v xs) (hs : setB p xs = false) :
    Calls Try.prog 18 #[.int .i64 p, v] w fun e w' => e = .returned (.bool true) ∧ Below w.heap.size w w' := by
  have HL := Lib.hid (fun w' (hb : Below w.heap.size w w') => list_any v xs w' (h.below hb (Nat.le_refl _)))
  have HBl := Lib.hid (fun v' w' (h' : Ints w' v' (xs.take 60)) => blocks_any p v' (xs.take 60) w' h')
  have HMi := Lib.hid (fun v' w' (h' : Ints w' v' (xs.take 60)) => miss_any p v' (xs.take 60) w' h')
  have HS : Hid (setB p (xs.take 60) = false) := by rw [setB_take]; exact hs
  clear hs h
  go_enter Try.func18, Try.ntmps18
  go_wp2_with fail
  refine (HL.out w (Below.refl _ _)).mono ?_
  rintro e w1 ⟨v1, rfl, hv1, hb1⟩
  have HB1 := Lib.hid hb1
  have HC := Lib.hid (HBl.out v1 w1 hv1)
  clear hv1 hb1
  go_wp2_with fail
  refine HC.out.mono ?_
  intro e w2 hq
  obtain ⟨rfl, hb2⟩ := blockspost_bad hq HS.out
  have HB2 := Lib.hid (HB1.out.trans (hb2.mono HB1.out.size))
  clear hq hb2
  go_wp2_with fail
  refine (HL.out w2 HB2.out).mono ?_
  rintro e w3 ⟨v3, rfl, hv3, hb3⟩
  have HB3 := Lib.hid (HB2.out.trans (hb3.mono HB2.out.size))
  have HC3 := Lib.hid (HMi.out v3 w3 hv3)
  clear hv3 hb3
  go_wp2_with fail
  refine HC3.out.mono ?_
  intro e w4 hq
  obtain ⟨rfl, hb4⟩ := misspost_bad hq HS.out
  have HB4 := Lib.hid (HB3.out.trans (hb4.mono HB3.out.size))
  clear hq hb4
  go_wp2_with fail
  refine (awake_any w4).mono ?_
  rintro e w6 ⟨rfl, hb6⟩
  have HB6 := Lib.hid (HB4.out.trans (hb6.mono HB4.out.size))
  clear hb6
  go_wp2
  go_ret
  exact ⟨rfl, HB6.out⟩

set_option maxHeartbeats 8000000 in
set_option maxRecDepth 100000 in
theorem blocking_good (q : Nat) (v : Value) (xs : List Int) (w : World) (h : Ints w v xs) (hs : setB q xs = true) :
    Calls Try.prog 18 #[.int .i64 q, v] w fun e w' => e = .returned (.bool true) ∧ Below w.heap.size w w' := by
  obtain ⟨q', hqq, hq, hin, hr⟩ := setB_of hs
  obtain rfl : q = q' := by omega
  clear hqq
  have HT := Lib.hid (set_take q xs hs)
  have HL := Lib.hid (fun w' (hb : Below w.heap.size w w') => list_any v xs w' (h.below hb (Nat.le_refl _)))
  rw [HT.out] at HL
  have HSet := Lib.hid (fun w' (hb : Below w.heap.size w w') => set_any q v xs w' (h.below hb (Nat.le_refl _)))
  rw [hs] at HSet
  have HCo := Lib.hid (fun (x : Int) w' (hb : Below w.heap.size w w') => contains_any v xs x w' (h.below hb (Nat.le_refl _)))
  obtain ⟨bs, hbs⟩ : ∃ bs, bs = blocksS q xs := ⟨_, rfl⟩
  have HBP : Hid (∀ w w' e, BlocksPost w q xs e w' → e = .returned (.tuple #[.bool bs, .int .i64 0]) ∧ Below w.heap.size w w') := fun w w' e h => by rw [hbs]; exact blockspost_good h hs
  have HBP2 : Hid (∀ w w' e, BlocksPost w q (restL xs (np q)) e w' → e = .returned (.tuple #[.bool bs, .int .i64 0]) ∧ Below w.heap.size w w') := fun w w' e h => by
    rw [hbs, ← rest_blocks q xs hq hin hr]; exact blockspost_good h (rest_setB q xs hq)
  have HMP : Hid (∀ w w' e, MissPost w q xs e w' → ∃ v, e = .returned (.tuple #[v, .int .i64 0]) ∧ Ints w' v (missS q xs) ∧ Below w.heap.size w w') := fun w w' e h => misspost_good h hs
  have HMP2 : Hid (∀ w w' e, MissPost w q (restL xs (np q)) e w' → ∃ v, e = .returned (.tuple #[v, .int .i64 0]) ∧ Ints w' v (missS q (restL xs (np q))) ∧ Below w.heap.size w w') := fun w w' e h => misspost_good h (rest_setB q xs hq)
  have HBM : Hid (bs = ((missS q xs).length == 0 && (missS q (restL xs (np q))).length == 0)) := by rw [hbs]; exact rest_miss q xs hq hin hr
  have HLaw : Hid (bs = true → 2 < q ∧ q < xs.length ∧ (q : Int) < ((xs.length : Int) - q) * ((xs.length : Int) - q)) := by rw [hbs]; exact blocking_law q xs hq hin hr
  have hl57 := set_short q xs hq hin hr
  have hn57 := np_le q hq.le.2
  obtain ⟨hq2, hq7⟩ := hq.le
  have hm1 : (missS q xs).length ≤ 57 := Nat.le_trans (linesW_le q 0 xs (np q)) hn57
  have hm2 : (missS q (restL xs (np q))).length ≤ 57 := Nat.le_trans (linesW_le q 0 _ (np q)) hn57
  have HI := Lib.hid (restL_I64 xs (np q) (by omega))
  have hq49 : (q:Int) * q ≤ 7 * 7 := Int.mul_le_mul (by omega) (by omega) (by omega) (by omega)
  have hq0 : 0 ≤ (q:Int) * q := Int.mul_nonneg (by omega) (by omega)
  have HNP : Hid ((q:Int) * q + q + 1 = ((np q : Nat) : Int)) := by unfold np; push_cast; rfl
  obtain ⟨i0, hi, hz0, hz1, hz2⟩ := info_parts Try.info3
  obtain ⟨ao, cap, rfl, h1, h2, _⟩ := h.open
  have HRL : Hid (restL xs 0 = []) := rfl
  clear hs h hq hin hr hbs
  go_enter Try.func18, Try.ntmps18
  go_wp2_with fail
  refine (HL.out w (Below.refl _ _)).mono ?_
  rintro e w1 ⟨v1, rfl, hv1, hb1⟩
  have HB1 := Lib.hid hb1
  have HC := Lib.hid (blocks_any q v1 xs w1 hv1)
  clear hv1 hb1
  go_wp2_with fail
  refine HC.out.mono ?_
  intro e w2 hq
  obtain ⟨rfl, hb2⟩ := HBP.out _ _ _ hq
  have HB2 := Lib.hid (HB1.out.trans (hb2.mono HB1.out.size))
  clear hq hb2
  go_wp2_with fail
  refine (HL.out w2 HB2.out).mono ?_
  rintro e w3 ⟨v3, rfl, hv3, hb3⟩
  have HB3 := Lib.hid (HB2.out.trans (hb3.mono HB2.out.size))
  have HC3 := Lib.hid (miss_any q v3 xs w3 hv3)
  clear hv3 hb3
  go_wp2_with fail
  refine HC3.out.mono ?_
  intro e w4 hq
  obtain ⟨v4, rfl, hv4, hb4⟩ := HMP.out _ _ _ hq
  obtain ⟨a4, c4, rfl, _, _, _⟩ := hv4.open
  have HB4 := Lib.hid (HB3.out.trans (hb4.mono HB3.out.size))
  clear hq hb4 hv4
  go_wp2_with fail
  refine (HSet.out w4 HB4.out).mono ?_
  rintro e w5 ⟨rfl, rfl⟩
  go_wp2_with fail
  rw [HNP.out]
  go_loopw [9, 52] (fun s9 i wr => ∃ k : Nat, k ≤ np q ∧ i = .int .i64 k ∧ wr.ownsRow w4.heap.size 3 1 s9 (restL xs k).length (ints (restL xs k)) ∧ Below w4.heap.size w4 wr) (fun _ i _ => np q - (intOf i).toNat)
  case atStart => exact ⟨0, Nat.zero_le _, rfl, World.ownsRow_nil _ _ _ _, Below.refl _ _⟩
  case round =>
    obtain ⟨k, hk, rfl, ho, hb⟩ := hrel
    have HO := Lib.hid ho
    have HB := Lib.hid hb
    have HBw := Lib.hid (HB4.out.trans (hb.mono HB4.out.size))
    have hll := restL_le xs k
    clear ho hb
    by_cases hlt : k < np q
    · have HC5 := Lib.hid (HCo.out k wr HBw.out)
      have HY := Lib.hid (restL_yes (xs := xs) (k := k))
      have HN := Lib.hid (restL_no (xs := xs) (k := k))
      generalize restL xs k = ls at *
      cases hh : hasB xs k with
      | true =>
        rw [hh] at HC5
        have HN' := Lib.hid (HN.out hh)
        clear hh
        go_wp2_with fail
        refine HC5.out.mono ?_
        rintro e w5 ⟨rfl, rfl⟩
        go_wp2
        go_roundw
        case rel => exact ⟨k + 1, by omega, by go_num, by rw [HN'.out]; exact HO.out, HB.out⟩
        case measure => simp [intOf]; omega
      | false =>
        rw [hh] at HC5
        have HY' := Lib.hid (HY.out hh)
        clear hh
        go_wp2_with fail
        refine HC5.out.mono ?_
        rintro e w5 ⟨rfl, rfl⟩
        go_wp2_with (at_builtin; refine wpList_append_own _ rfl _ _ 38 rfl w4.heap.size 3 i0 (.int .i64 0) 1 8 Try.underlying38 hi hz0 hz1 hz2 rfl (by decide) _ _ _ rfl (HO.out.alloc _) ⟨_, 0, none⟩ 1 1 [.int .i64 k] rfl rfl (newOne _ _ _) (oneInt _) (by unfold maxLen; omega) (by omega) (by have := HB.out.size; simp; omega) ?_)
        intro v' w6 hown' hgrow _
        have HR := Lib.hid (int_step HO.out HB.out HB.out.size hown' hgrow)
        clear hown' hgrow
        go_wp2
        go_roundw
        case rel => exact ⟨k + 1, by omega, by go_num, by rw [HY'.out]; exact HR.out.1, HR.out.2⟩
        case measure => simp [intOf]; omega
    · obtain rfl : k = np q := by omega
      have HV := Lib.hid (Ints.of_owns HO.out (by omega) HI.out)
      have HM6 := Lib.hid (miss_any q _ _ wr HV.out)
      have HBwr := Lib.hid (HB4.out.trans (HB.out.mono HB4.out.size))
      obtain ⟨ar, cr, rfl⟩ := owns_form HO.out
      clear HO HB HL HSet HCo hll
      go_wp2_with fail
      refine HM6.out.mono ?_
      intro e w6 hq
      obtain ⟨v6, rfl, hv6, hb6⟩ := HMP2.out _ _ _ hq
      obtain ⟨a6, c6, rfl, _, _, _⟩ := hv6.open
      have HB6 := Lib.hid (HBwr.out.trans (hb6.mono HBwr.out.size))
      have HCl := Lib.hid (clone1_any _ _ w6 (HV.out.below hb6 (Nat.le_refl _)))
      clear hq hb6 hv6 HM6
      go_wp2_with fail
      refine HCl.out.mono ?_
      rintro e w7 ⟨a7, c7, rfl, hown7, hb7⟩
      have HV7 := Lib.hid (Ints.of_owns hown7 (by have := restL_le xs (np q); omega) HI.out)
      have HB7 := Lib.hid (HB6.out.trans (hb7.mono HB6.out.size))
      have HBl7 := Lib.hid (blocks_any q _ _ w7 HV7.out)
      clear hown7 hb7 HCl
      go_wp2_with fail
      refine HBl7.out.mono ?_
      intro e w8 hq
      obtain ⟨rfl, hb8⟩ := HBP2.out _ _ _ hq
      have HB8 := Lib.hid (HB7.out.trans (hb8.mono HB7.out.size))
      clear hq hb8 HBl7
      generalize (missS q xs).length = n1 at *
      generalize (missS q (restL xs (np q))).length = n2 at *
      have hlen0 : 0 ≤ xs.length := Nat.zero_le _
      by_cases h1z : n1 ≤ 0
      · have d1 : ((n1 : Int) == 0) = true := by simp; omega
        by_cases h2z : n2 ≤ 0
        · have d2 : ((n2 : Int) == 0) = true := by simp; omega
          have hb : bs = true := by rw [HBM.out, show (n1 == 0) = true by simpa using (by omega : n1 = 0), show (n2 == 0) = true by simpa using (by omega : n2 = 0)]; rfl
          obtain ⟨g1, g2, g3⟩ := HLaw.out hb
          have hp0 : 0 ≤ ((xs.length : Int) - q) * ((xs.length : Int) - q) := Int.mul_nonneg (by omega) (by omega)
          have hp1 : ((xs.length : Int) - q) * ((xs.length : Int) - q) ≤ 57 * 57 := Int.mul_le_mul (by omega) (by omega) (by omega) (by omega)
          clear HBM HLaw h1z h2z HBP HBP2
          subst hb
          go_wp2_with fail
          refine (awake_any w8).mono ?_
          rintro e w9 ⟨rfl, hb9⟩
          have HB9 := Lib.hid (HB8.out.trans (hb9.mono HB8.out.size))
          clear hb9
          go_wp2
          go_ret
          exact ⟨rfl, HB9.out⟩
        · have d2 : ((n2 : Int) == 0) = false := by simp; omega
          have hb : bs = false := by rw [HBM.out, show (n2 == 0) = false by simpa using (by omega : ¬ n2 = 0), Bool.and_false]
          clear HBM HLaw h1z h2z HBP HBP2
          subst hb
          go_wp2_with fail
          refine (awake_any w8).mono ?_
          rintro e w9 ⟨rfl, hb9⟩
          have HB9 := Lib.hid (HB8.out.trans (hb9.mono HB8.out.size))
          clear hb9
          go_wp2
          go_ret
          exact ⟨rfl, HB9.out⟩
      · have d1 : ((n1 : Int) == 0) = false := by simp; omega
        have hb : bs = false := by rw [HBM.out, show (n1 == 0) = false by simpa using (by omega : ¬ n1 = 0), Bool.false_and]
        clear HBM HLaw h1z HBP HBP2
        subst hb
        go_wp2_with fail
        refine (awake_any w8).mono ?_
        rintro e w9 ⟨rfl, hb9⟩
        have HB9 := Lib.hid (HB8.out.trans (hb9.mono HB8.out.size))
        clear hb9
        go_wp2
        go_ret
        exact ⟨rfl, HB9.out⟩

theorem blocking_all (p : Int) (v : Value) (xs : List Int) (w : World) (h : Ints w v xs) :
    Calls Try.prog 18 #[.int .i64 p, v] w fun e w' => e = .returned (.bool true) ∧ Below w.heap.size w w' := by
  cases hs : setB p xs with
  | false => exact blocking_bad p v xs w h hs
  | true =>
    obtain ⟨q, rfl, _⟩ := setB_of hs
    exact blocking_good q v xs w h hs
end Go.Proofs.Ytllokfkagneneaa
