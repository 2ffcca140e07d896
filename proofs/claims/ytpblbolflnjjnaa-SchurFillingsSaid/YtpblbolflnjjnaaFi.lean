/- SchurFillings -/
import Derived.Test.YtpblbolflnjjnaaRi
import Derived.Test.YtpblbolflnjjnaaHk
namespace Go.Proofs.Ytpblbolflnjjnaa
open Go.RowKit

def eq3B (xss yss : List (List (List Int))) : Bool := decide (xss = yss)

theorem eq3_len {xs ys : List (List (List Int))} (h : xs.length ≠ ys.length) : eq3B xs ys = false := decide_eq_false fun e => h (by rw [e])
theorem eq3_at {xs ys : List (List (List Int))} {k : Nat} (h : eqRowsB (xs.getD k []) (ys.getD k []) = false) : eq3B xs ys = false := decide_eq_false fun e => by
  rw [e] at h; simp [eqRowsB] at h
theorem eq3_all {xs ys : List (List (List Int))} (hl : xs.length = ys.length) (h : ∀ j, j < xs.length → xs.getD j [] = ys.getD j []) : eq3B xs ys = true := by
  refine decide_eq_true (List.ext_getElem hl fun j h1 h2 => ?_)
  have := h j h1
  simpa [List.getD, h1, h2] using this

set_option maxHeartbeats 1000000 in
theorem equal3_any (v v' : Value) (xs ys : List (List (List Int))) (w : World) (h : IntRows3 w v xs) (h' : IntRows3 w v' ys) :
    Calls Try.prog 26 #[v, v', .func (.func 27) #[] #[]] w fun e w' => e = .returned (.bool (eq3B xs ys)) ∧ Below w.heap.size w w' := by
  obtain ⟨ao, cap, rfl, h1, h2, hc⟩ := h.open
  obtain ⟨ao', cap', rfl, h1', h2', hc'⟩ := h'.open
  clear h h'
  by_cases hl : xs.length = ys.length
  · have hL : ((xs.length : Int) != (ys.length : Int)) = false := by simp [hl]
    have HL : Hid (xs.length = ys.length) := hl
    rw [← hl] at h1' h2' hL ⊢
    clear hl
    go_enter Try.func26, Try.ntmps26
    go_wp2
    go_loopw [17] (fun i wr => ∃ k : Nat, k ≤ xs.length ∧ i = .int .i64 k ∧ (∀ j, j < k → xs.getD j [] = ys.getD j []) ∧ Below w.heap.size w wr) (fun i _ => xs.length - (intOf i).toNat)
    case atStart => exact ⟨0, Nat.zero_le _, rfl, fun j hj => absurd hj (by omega), Below.refl _ _⟩
    case round =>
      obtain ⟨k, hk, rfl, hall, hb⟩ := hrel
      by_cases hlt : k < xs.length
      · obtain ⟨b, o, u, rfl, hck, hu⟩ := hc k xs[k] (by simp [hlt])
        have hlt' : k < ys.length := by rw [← HL.out]; exact hlt
        obtain ⟨b', o', u', rfl, hck', hu'⟩ := hc' k ys[k] (by simp [hlt'])
        clear hc hc'
        have hk1 := (hb.cell (p := ⟨b, o + k, none⟩) (World.block_lt_of_cell? w _ hck)).trans hck
        have hk2 := (hb.cell (p := ⟨b', o' + k, none⟩) (World.block_lt_of_cell? w _ hck')).trans hck'
        have heq := same_any u u' xs[k] ys[k] wr (hu.below hb (Nat.le_refl _)) (hu'.below hb (Nat.le_refl _))
        have HE := hidIt heq
        have e1 : xs.getD k [] = xs[k] := by simp [List.getD, hlt]
        have e2 : ys.getD k [] = ys[k] := by simp [List.getD, hlt']
        have HF : Hid (eqRowsB xs[k] ys[k] = false → eq3B xs ys = false) := fun hx => eq3_at (k := k) (by rw [e1, e2]; exact hx)
        have HA : Hid (eqRowsB xs[k] ys[k] = true → ∀ j, j < k + 1 → xs.getD j [] = ys.getD j []) := fun hx j hj => by
          by_cases e : j = k
          · subst e; rw [e1, e2]; exact of_decide_eq_true hx
          · exact hall j (by omega)
        clear hall hck hck' heq e1 e2 hu hu'
        go_wp2_with fail
        refine HE.out.mono ?_
        rintro e w1 ⟨rfl, hb1⟩
        clear HE hk1 hk2
        have HB : Hid (Below w.heap.size w w1) := hb.trans (hb1.mono hb.size)
        clear hb hb1
        generalize eqRowsB xs[k] ys[k] = t at *
        cases t
        · go_wp2
          go_ret
          exact ⟨ret_bool (HF.out (by simp)).symm, HB.out⟩
        · go_wp2
          go_roundw
          case rel => exact ⟨k + 1, by omega, by go_num, HA.out (by simp), HB.out⟩
          case measure => simp [intOf]; omega
      · obtain rfl : k = xs.length := by omega
        have HE : Hid (eq3B xs ys = true) := eq3_all HL.out hall
        clear hall hc hc'
        go_wp2
        go_ret
        exact ⟨ret_bool HE.out.symm, hb⟩
  · have hL : ((xs.length : Int) != (ys.length : Int)) = true := by simp; omega
    have HE : Hid (eq3B xs ys = false) := eq3_len hl
    clear hc hc'
    go_enter Try.func26, Try.ntmps26
    go_wp2
    go_ret
    exact ⟨ret_bool HE.out.symm, Below.refl _ _⟩


theorem OutI.read {w : World} {v : Value} {acc : List (List (List Int))} {wr : World} (h : OutI w v acc wr) (hn : acc.length ≤ 17592186044416) : IntRows3 wr v acc := by
  obtain ⟨fpe, us, h1, h2, h3, h4, h5, _, _⟩ := h
  exact ⟨us, Sl.of_owns h2 hn, h4, fun i u x a b => (h5 i u x a b).2 wr (fun _ _ => rfl) (Nat.le_refl _)⟩

theorem shB_take (l : List Int) : shB (l.take 12) = shB l := by
  by_cases hl : l.length ≤ 12
  · rw [List.take_of_length_le hl]
  · have h1 : shB l = false := decide_eq_false fun h => by have := h.1; omega
    rw [h1]
    refine decide_eq_false fun hs => ?_
    have := hs.1
    simp at this; omega
theorem coB_take (l : List Int) : coB (l.take 12) = coB l := by
  by_cases hl : l.length ≤ 12
  · rw [List.take_of_length_le hl]
  · have h1 : coB l = false := decide_eq_false fun h => by have := h.1; omega
    rw [h1]
    refine decide_eq_false fun hs => ?_
    have := hs.1
    simp at this; omega

/-- what list gives reads as the beginning. -/
theorem list_ints (v : Value) (zs : List Int) (w : World) (h : Ints w v zs) :
    Calls Try.prog 20 #[v] w fun e w' => ∃ v', e = .returned v' ∧ Ints w' v' (zs.take 12) ∧ NilOk v' ∧ Below w.heap.size w w' := by
  refine (list_any v zs w h).mono ?_
  rintro e w' ⟨ao, c, rfl, ho, hb⟩
  have hl : (zs.take 12).length ≤ 12 := List.length_take_le _ _
  exact ⟨_, rfl, Ints.of_owns ho (by omega) (fun x hx => h.2 x (List.mem_of_mem_take hx)), owns_nilok ho, hb⟩

set_option maxRecDepth 100000 in
set_option maxHeartbeats 4000000 in
theorem fillings_bad (v v' : Value) (l m : List Int) (w : World) (h : Ints w v l) (h' : Ints w v' m) (hg : (shB l && coB m) = false) :
    Calls Try.prog 3 #[v, v'] w fun e w' => e = .returned (.bool true) ∧ Below w.heap.size w w' := by
  have H := hidIt h
  have H' := hidIt h'
  have HG := hidIt hg
  have HL1 := hidIt (list_ints v l w h)
  clear h h' hg
  go_enter Try.func3, Try.ntmps3
  go_wp2_with fail
  refine HL1.out.mono ?_
  rintro e w1 ⟨u1, rfl, hu1, _, hb1⟩
  have HL2 := hidIt (list_ints v' m w1 (H'.out.below hb1 (Nat.le_refl _)))
  have HU1 := hidIt hu1
  have HB1 := hidIt hb1
  clear HL1 hu1 hb1
  go_wp2_with fail
  refine HL2.out.mono ?_
  rintro e w2 ⟨u2, rfl, hu2, _, hb2⟩
  have HB2 : Hid (Below w.heap.size w w2) := HB1.out.trans (hb2.mono HB1.out.size)
  have HF := hidIt (fillingsAll_any w2 u1 u2 _ _ (HU1.out.below hb2 (Nat.le_refl _)) hu2)
  clear HL2 HU1 HB1 hu2 hb2
  go_wp2_with fail
  refine HF.out.mono ?_
  intro e w3 hq
  unfold FilPost at hq
  rw [shB_take, coB_take, HG.out] at hq
  simp only [Bool.false_eq_true, if_false, List.length_nil] at hq
  obtain ⟨a3, c3, rfl, hr3, hb3⟩ := hq
  have HB3 : Hid (Below w.heap.size w w3) := HB2.out.trans (hb3.mono HB2.out.size)
  have HL3 := hidIt (list_ints v l w3 (H.out.below HB3.out (Nat.le_refl _)))
  clear HF HB2 hb3 hr3
  go_wp2_with fail
  refine HL3.out.mono ?_
  rintro e w4 ⟨u3, rfl, hu3, _, hb4⟩
  have HB4 : Hid (Below w.heap.size w w4) := HB3.out.trans (hb4.mono HB3.out.size)
  have HL4 := hidIt (list_ints v' m w4 (H'.out.below HB4.out (Nat.le_refl _)))
  have HU3 := hidIt hu3
  clear HL3 HB3 hu3 hb4
  go_wp2_with fail
  refine HL4.out.mono ?_
  rintro e w5 ⟨u4, rfl, hu4, _, hb5⟩
  have HB5 : Hid (Below w.heap.size w w5) := HB4.out.trans (hb5.mono HB4.out.size)
  have HK := hidIt (kostka_any w5 u3 u4 _ _ (HU3.out.below hb5 (Nat.le_refl _)) hu4)
  clear HL4 HU3 HB4 hu4 hb5
  go_wp2_with fail
  refine HK.out.mono ?_
  intro e w6 hq
  unfold KostkaPost at hq
  rw [shB_take, coB_take, HG.out] at hq
  simp only [Bool.false_eq_true, if_false] at hq
  obtain ⟨rfl, hb6⟩ := hq
  have HB6 : Hid (Below w.heap.size w w6) := HB5.out.trans (hb6.mono HB5.out.size)
  have HS := hidIt (rShape_any v l w6 (H.out.below HB6.out (Nat.le_refl _)))
  clear HK HB5 hb6
  go_wp2_with fail
  refine HS.out.mono ?_
  rintro e w7 ⟨rfl, rfl⟩
  clear HS
  have HA := hidIt (awake_any w6)
  by_cases hs : shB l = true
  · rw [hs]
    have hc : coB m = false := by have := HG.out; rw [hs] at this; simpa using this
    have HC := hidIt (rContent_any v' m w6 (H'.out.below HB6.out (Nat.le_refl _)))
    rw [hc] at HC
    clear hs hc
    go_wp2_with fail
    refine HC.out.mono ?_
    rintro e w8 ⟨rfl, rfl⟩
    clear HC
    go_wp2_with fail
    refine HA.out.mono ?_
    rintro e w9 ⟨rfl, hb9⟩
    have HB9 : Hid (Below w.heap.size w w9) := HB6.out.trans (hb9.mono HB6.out.size)
    clear HA HB6 hb9
    go_wp2
    go_ret
    exact ⟨rfl, HB9.out⟩
  · have hs' : shB l = false := by simpa using hs
    rw [hs']
    clear hs hs'
    go_wp2_with fail
    refine HA.out.mono ?_
    rintro e w9 ⟨rfl, hb9⟩
    have HB9 : Hid (Below w.heap.size w w9) := HB6.out.trans (hb9.mono HB6.out.size)
    clear HA HB6 hb9
    go_wp2
    go_ret
    exact ⟨rfl, HB9.out⟩

set_option maxRecDepth 100000 in
set_option maxHeartbeats 4000000 in
theorem fillings_good (v v' : Value) (l m : List Int) (w : World) (h : Ints w v l) (h' : Ints w v' m) (hn' : NilOk v') (hs : Shape l) (hc : Content m) :
    Calls Try.prog 3 #[v, v'] w fun e w' => e = .returned (.bool true) ∧ Below w.heap.size w w' := by
  have H := hidIt h
  have H' := hidIt h'
  have hs1 : shB l = true := decide_eq_true hs
  have hc1 : coB m = true := decide_eq_true hc
  have HS := hidIt hs
  have HC := hidIt hc
  have HN := hidIt hn'
  have HS1 := hidIt hs1
  have HC1 := hidIt hc1
  have hlen := fillS_len (m := m) hs
  generalize hF : fillS l m = F at hlen
  have HFe := hidIt hF
  have HLen := hidIt hlen
  have htl : l.take 12 = l := List.take_of_length_le (by have := hs.1; omega)
  have htm : m.take 12 = m := List.take_of_length_le (by have := hc.1; omega)
  have HTl := hidIt htl
  have HTm := hidIt htm
  have HL1 := hidIt (list_ints v l w h)
  rw [htl] at HL1
  clear h h' hs hc hn' hs1 hc1 hF htl htm
  go_enter Try.func3, Try.ntmps3
  go_wp2_with fail
  refine HL1.out.mono ?_
  rintro e w1 ⟨u1, rfl, hu1, _, hb1⟩
  have HL2 := hidIt (list_ints v' m w1 (H'.out.below hb1 (Nat.le_refl _)))
  rw [HTm.out] at HL2
  have HU1 := hidIt hu1
  have HB1 := hidIt hb1
  clear HL1 hu1 hb1
  go_wp2_with fail
  refine HL2.out.mono ?_
  rintro e w2 ⟨u2, rfl, hu2, _, hb2⟩
  have HB2 : Hid (Below w.heap.size w w2) := HB1.out.trans (hb2.mono HB1.out.size)
  have HF := hidIt (fillingsAll_any w2 u1 u2 _ _ (HU1.out.below hb2 (Nat.le_refl _)) hu2)
  clear HL2 HU1 HB1 hu2 hb2
  go_wp2_with fail
  refine HF.out.mono ?_
  intro e w3 hq
  unfold FilPost at hq
  rw [HS1.out, HC1.out, HFe.out] at hq
  simp only [Bool.and_true, if_true] at hq
  obtain ⟨a3, c3, rfl, hr3, hb3⟩ := hq
  have HB3 : Hid (Below w.heap.size w w3) := HB2.out.trans (hb3.mono HB2.out.size)
  have HR3 := hidIt hr3
  have HL3 := hidIt (list_ints v l w3 (H.out.below HB3.out (Nat.le_refl _)))
  rw [HTl.out] at HL3
  clear HF HB2 hb3 hr3
  go_wp2_with fail
  refine HL3.out.mono ?_
  rintro e w4 ⟨u3, rfl, hu3, _, hb4⟩
  have HB4 : Hid (Below w.heap.size w w4) := HB3.out.trans (hb4.mono HB3.out.size)
  have HR4 : Hid (IntRows3 w4 (.slice a3 F.length c3) F) := HR3.out.below hb4 (Nat.le_refl _)
  have HL4 := hidIt (list_ints v' m w4 (H'.out.below HB4.out (Nat.le_refl _)))
  rw [HTm.out] at HL4
  have HU3 := hidIt hu3
  clear HL3 HB3 HR3 hu3 hb4
  go_wp2_with fail
  refine HL4.out.mono ?_
  rintro e w5 ⟨u4, rfl, hu4, _, hb5⟩
  have HB5 : Hid (Below w.heap.size w w5) := HB4.out.trans (hb5.mono HB4.out.size)
  have HR5 : Hid (IntRows3 w5 (.slice a3 F.length c3) F) := HR4.out.below hb5 (Nat.le_refl _)
  have HK := hidIt (kostka_any w5 u3 u4 _ _ (HU3.out.below hb5 (Nat.le_refl _)) hu4)
  clear HL4 HU3 HB4 HR4 hu4 hb5
  go_wp2_with fail
  refine HK.out.mono ?_
  intro e w6 hq
  unfold KostkaPost at hq
  rw [HS1.out, HC1.out, HFe.out] at hq
  simp only [Bool.and_true, if_true] at hq
  obtain ⟨rfl, hb6⟩ := hq
  have HB6 : Hid (Below w.heap.size w w6) := HB5.out.trans (hb6.mono HB5.out.size)
  have HR6 : Hid (IntRows3 w6 (.slice a3 F.length c3) F) := HR5.out.below hb6 (Nat.le_refl _)
  have HS := hidIt (rShape_any v l w6 (H.out.below HB6.out (Nat.le_refl _)))
  rw [HS1.out] at HS
  clear HK HB5 HR5 hb6
  go_wp2_with fail
  refine HS.out.mono ?_
  rintro e w7 ⟨rfl, rfl⟩
  clear HS
  have HC := hidIt (rContent_any v' m w6 (H'.out.below HB6.out (Nat.le_refl _)))
  rw [HC1.out] at HC
  go_wp2_with fail
  refine HC.out.mono ?_
  rintro e w8 ⟨rfl, rfl⟩
  clear HC
  have HR := hidIt (rFillings_any l m w6 v v' (H.out.below HB6.out (Nat.le_refl _)) (H'.out.below HB6.out (Nat.le_refl _)) HN.out HS.out HC.out)
  rw [HFe.out] at HR
  go_wp2_with fail
  refine HR.out.mono ?_
  rintro e w9 ⟨a9, c9, rfl, ho9⟩
  have hb9 : Below w6.heap.size w6 w9 := by obtain ⟨_, _, _, _, _, _, _, q, _⟩ := ho9; exact q
  have HB9 : Hid (Below w.heap.size w w9) := HB6.out.trans (hb9.mono HB6.out.size)
  have HR9 : Hid (IntRows3 w9 (.slice a3 F.length c3) F) := HR6.out.below hb9 (Nat.le_refl _)
  have HO9 := hidIt (ho9.read (by have := HLen.out; omega))
  have HE := hidIt (equal3_any _ _ F F w9 HR9.out HO9.out)
  have he : eq3B F F = true := decide_eq_true rfl
  rw [he] at HE
  clear HR HB6 HR6 ho9 hb9 he
  go_wp2_with fail
  refine HE.out.mono ?_
  rintro e w10 ⟨rfl, hb10⟩
  have HB10 : Hid (Below w.heap.size w w10) := HB9.out.trans (hb10.mono HB9.out.size)
  have HA := hidIt (awake_any w10)
  clear HE HB9 HR9 HO9 hb10
  go_wp2_with fail
  refine HA.out.mono ?_
  rintro e w11 ⟨rfl, hb11⟩
  have HB11 : Hid (Below w.heap.size w w11) := HB10.out.trans (hb11.mono HB10.out.size)
  clear HA HB10 hb11
  go_wp2
  go_ret
  exact ⟨rfl, HB11.out⟩
end Go.Proofs.Ytpblbolflnjjnaa
