/- ArcsGreatest: the walk -/
import Derived.Test.YtllokfkagneneaaTa
import Derived.Test.YtllokfkagneneaaZ
import Derived.Test.YtllokfkagneneaaK
namespace Go.Proofs.Ytllokfkagneneaa
open Go.RowKit

theorem greatpost_bad {w w' : World} {p : Int} {e : Ending} (h : GreatPost w p e w') (hk : isP p = false) : e = .returned (.tuple #[.int .i64 0, .int .i64 2]) ∧ Below w.heap.size w w' := by
  unfold GreatPost at h; rw [hk] at h; exact h
theorem greatpost_good {w w' : World} {p : Int} {e : Ending} (h : GreatPost w p e w') (hk : isP p = true) : e = .returned (.tuple #[.int .i64 (greatS p), .int .i64 0]) ∧ Below w.heap.size w w' := by
  unfold GreatPost at h; rw [hk] at h; exact h
theorem tanpost_bad {w w' : World} {p pt : Int} {xs : List Int} {e : Ending} (h : TanPost w p xs pt e w') (hk : ¬ (setB p xs = true ∧ pt ∈ xs)) : e = .returned (.tuple #[.slice none 0 0, .int .i64 2]) ∧ Below w.heap.size w w' := by
  unfold TanPost at h; rw [if_neg hk] at h; exact h
theorem tanpost_good {w w' : World} {q pt : Nat} {xs : List Int} {e : Ending} (h : TanPost w q xs pt e w') (hk : setB q xs = true ∧ (pt : Int) ∈ xs) : ∃ v, e = .returned (.tuple #[v, .int .i64 0]) ∧ Ints w' v (tanS q xs pt (np q)) ∧ Below w.heap.size w w' := by
  unfold TanPost at h; rw [if_pos hk] at h; exact h

set_option maxHeartbeats 8000000 in
set_option maxRecDepth 100000 in
theorem greatest_law (p : Int) (v : Value) (xs : List Int) (pt : Int) (w : World) (h : Ints w v xs) :
    Calls Try.prog 6 #[.int .i64 p, v, .int .i64 pt] w fun e w' => e = .returned (.bool true) ∧ Below w.heap.size w w' := by
  have HG := Lib.hid (greatest_any p)
  have HPr := Lib.hid (prime_any p)
  have HL := Lib.hid (fun w' (hb : Below w.heap.size w w') => list_any v xs w' (h.below hb (Nat.le_refl _)))
  have HTa := Lib.hid (fun v' w' (h' : Ints w' v' (xs.take 60)) => tangents_any p v' (xs.take 60) pt w' h')
  have HCt := Lib.hid (fun (w1 : World) (hb : Below w.heap.size w w1) => contains_any v xs pt w1 (h.below hb (Nat.le_refl _)))
  cases hp : isP p with
  | false =>
    have HP := Lib.hid hp
    have HS : Hid (¬ (setB p (xs.take 60) = true ∧ pt ∈ xs.take 60)) := fun h => by
      have h1 := h.1
      unfold setB okB at h1
      rw [hp] at h1; simp at h1
    rw [hp] at HPr
    clear hp h
    go_enter Try.func6, Try.ntmps6
    go_wp2_with fail
    refine (HG.out w).mono ?_
    intro e w1 hq
    obtain ⟨rfl, hb1⟩ := greatpost_bad hq HP.out
    have HB1 := Lib.hid hb1
    clear hq hb1
    go_wp2_with fail
    refine (HL.out w1 HB1.out).mono ?_
    rintro e w2 ⟨v2, rfl, hv2, hb2⟩
    have HB2 := Lib.hid (HB1.out.trans (hb2.mono HB1.out.size))
    have HT2 := Lib.hid (HTa.out v2 w2 hv2)
    clear hv2 hb2
    go_wp2_with fail
    refine HT2.out.mono ?_
    intro e w3 hq
    obtain ⟨rfl, hb3⟩ := tanpost_bad hq HS.out
    have HB3 := Lib.hid (HB2.out.trans (hb3.mono HB2.out.size))
    clear hq hb3
    go_wp2_with fail
    refine (HPr.out w3).mono ?_
    rintro e w4 ⟨rfl, rfl⟩
    go_wp2_with fail
    refine (awake_any w3).mono ?_
    rintro e w5 ⟨rfl, hb5⟩
    have HB5 := Lib.hid (HB3.out.trans (hb5.mono HB3.out.size))
    clear hb5
    go_wp2
    go_ret
    exact ⟨rfl, HB5.out⟩
  | true =>
    have HP := Lib.hid hp
    rw [hp] at HPr
    obtain ⟨q, rfl⟩ : ∃ q : Nat, p = q := ⟨p.toNat, by have := isP_cases hp; omega⟩
    have hqn : isPn q := by have := isP_cases hp; unfold isPn; omega
    have HQ := Lib.hid hqn
    obtain ⟨hq2, hq7⟩ := hqn.le
    have HRG := Lib.hid (fun w => rGreatest_any (q:Int) w (by omega) (by omega))
    have HSt := Lib.hid (fun w' (hb : Below w.heap.size w w') => rSet_any q v xs w' hqn (h.below hb (Nat.le_refl _)))
    have HSB : Hid (setB (q:Int) xs = (inB q xs && risB xs)) := by unfold setB okB; rw [hp]; rfl
    have hgg : (greatS (q:Int) == greatS (q:Int)) = true := by simp
    have hgn : (greatS (q:Int) != greatS (q:Int)) = false := by simp
    by_cases hm : setB (q:Int) xs = true ∧ pt ∈ xs
    · obtain ⟨hs, hmem⟩ := hm
      have HTk := Lib.hid (set_take (q:Int) xs hs)
      obtain ⟨q', hqq, _, hin, hr⟩ := setB_of hs
      obtain rfl : q = q' := by omega
      obtain ⟨pn, hpn, hpq⟩ : ∃ pn : Nat, pt = pn ∧ pn < np q := by
        obtain ⟨k, hk, rfl⟩ := mem_getD hmem
        have := hin k hk
        exact ⟨(xs.getD k 0).toNat, by omega, by omega⟩
      subst hpn
      have HM : Hid (setB (q:Int) xs = true ∧ (pn:Int) ∈ xs) := ⟨hs, hmem⟩
      have HRT := Lib.hid (fun w' (hb : Below w.heap.size w w') => rTangents_any q pn v xs w' hqn (h.below hb (Nat.le_refl _)) hin hpq)
      have hln : (tanS q xs pn (np q)).length ≤ 57 := Nat.le_trans (tanS_le q xs pn (np q)) (np_le q hq7)
      have HTI := Lib.hid (tanS_I64 q xs pn (np q) (by have := np_le q hq7; omega))
      rw [show hasB xs (pn:Int) = true from decide_eq_true hmem] at HCt
      rw [← HSB.out, hs] at HSt
      rw [HTk.out] at HL HTa
      obtain ⟨gr, hgr⟩ : ∃ gr, gr = greatS (q:Int) := ⟨_, rfl⟩
      have HGP : Hid (∀ w w' e, GreatPost w q e w' → e = .returned (.tuple #[.int .i64 gr, .int .i64 0]) ∧ Below w.heap.size w w') := fun w w' e h => by rw [hgr]; exact greatpost_good h hp
      rw [← hgr] at HRG hgg hgn
      clear hp h hs hmem hqq hin hr hpq hqn hgr
      go_enter Try.func6, Try.ntmps6
      go_wp2_with fail
      refine (HG.out w).mono ?_
      intro e w1 hq
      obtain ⟨rfl, hb1⟩ := HGP.out _ _ _ hq
      have HB1 := Lib.hid hb1
      clear hq hb1
      go_wp2_with fail
      refine (HL.out w1 HB1.out).mono ?_
      rintro e w2 ⟨v2, rfl, hv2, hb2⟩
      have HB2 := Lib.hid (HB1.out.trans (hb2.mono HB1.out.size))
      have HT2 := Lib.hid (HTa.out v2 w2 hv2)
      clear hv2 hb2
      go_wp2_with fail
      refine HT2.out.mono ?_
      intro e w3 hq
      obtain ⟨v3, rfl, hv3, hb3⟩ := tanpost_good hq HM.out
      have HV3 := Lib.hid hv3
      clear hv3
      have HB3 := Lib.hid (HB2.out.trans (hb3.mono HB2.out.size))
      clear hq hb3
      go_wp2_with fail
      refine (HPr.out w3).mono ?_
      rintro e w4 ⟨rfl, rfl⟩
      go_wp2_with fail
      refine (HRG.out w3).mono ?_
      rintro e w4 ⟨rfl, rfl⟩
      go_wp2_with fail
      refine (awake_any w3).mono ?_
      rintro e w5 ⟨rfl, hb5⟩
      have HB5 := Lib.hid (HB3.out.trans (hb5.mono HB3.out.size))
      have HV5 := Lib.hid (HV3.out.below hb5 (Nat.le_refl _))
      clear hb5
      go_wp2_with fail
      refine (HSt.out w5 HB5.out).mono ?_
      rintro e w6 ⟨rfl, rfl⟩
      go_wp2_with fail
      refine (HCt.out w5 HB5.out).mono ?_
      rintro e w6 ⟨rfl, rfl⟩
      go_wp2_with fail
      refine (HRT.out w5 HB5.out).mono ?_
      rintro e w7 ⟨v7, rfl, hown, hb7⟩
      have HB7 := Lib.hid (HB5.out.trans (hb7.mono HB5.out.size))
      have HV7 := Lib.hid (HV5.out.below hb7 (Nat.le_refl _))
      have HV7' := Lib.hid (Ints.of_owns hown (by omega) HTI.out)
      clear hown hb7
      go_wp2_with fail
      refine (equal_same _ _ _ _ HV7.out HV7'.out).mono ?_
      rintro e w8 ⟨rfl, hb8⟩
      have HB8 := Lib.hid (HB7.out.trans (hb8.mono HB7.out.size))
      clear hb8
      go_wp2
      go_ret
      exact ⟨rfl, HB8.out⟩
    · have HS : Hid (¬ (setB (q:Int) (xs.take 60) = true ∧ pt ∈ xs.take 60)) := fun h => by
        rw [setB_take] at h
        rw [set_take (q:Int) xs h.1] at h
        exact hm h
      obtain ⟨gr, hgr⟩ : ∃ gr, gr = greatS (q:Int) := ⟨_, rfl⟩
      have HGP : Hid (∀ w w' e, GreatPost w q e w' → e = .returned (.tuple #[.int .i64 gr, .int .i64 0]) ∧ Below w.heap.size w w') := fun w w' e h => by rw [hgr]; exact greatpost_good h hp
      rw [← hgr] at HRG hgg hgn
      cases hs : setB (q:Int) xs with
      | false =>
        rw [← HSB.out, hs] at HSt
        clear hp h hs hqn hgr hm
        go_enter Try.func6, Try.ntmps6
        go_wp2_with fail
        refine (HG.out w).mono ?_
        intro e w1 hq
        obtain ⟨rfl, hb1⟩ := HGP.out _ _ _ hq
        have HB1 := Lib.hid hb1
        clear hq hb1
        go_wp2_with fail
        refine (HL.out w1 HB1.out).mono ?_
        rintro e w2 ⟨v2, rfl, hv2, hb2⟩
        have HB2 := Lib.hid (HB1.out.trans (hb2.mono HB1.out.size))
        have HT2 := Lib.hid (HTa.out v2 w2 hv2)
        clear hv2 hb2
        go_wp2_with fail
        refine HT2.out.mono ?_
        intro e w3 hq
        obtain ⟨rfl, hb3⟩ := tanpost_bad hq HS.out
        have HB3 := Lib.hid (HB2.out.trans (hb3.mono HB2.out.size))
        clear hq hb3
        go_wp2_with fail
        refine (HPr.out w3).mono ?_
        rintro e w4 ⟨rfl, rfl⟩
        go_wp2_with fail
        refine (HRG.out w3).mono ?_
        rintro e w4 ⟨rfl, rfl⟩
        go_wp2_with fail
        refine (awake_any w3).mono ?_
        rintro e w5 ⟨rfl, hb5⟩
        have HB5 := Lib.hid (HB3.out.trans (hb5.mono HB3.out.size))
        clear hb5
        go_wp2_with fail
        refine (HSt.out w5 HB5.out).mono ?_
        rintro e w6 ⟨rfl, rfl⟩
        go_wp2
        go_ret
        exact ⟨rfl, HB5.out⟩
      | true =>
        have hnm : pt ∉ xs := fun h => hm ⟨hs, h⟩
        rw [← HSB.out, hs] at HSt
        rw [show hasB xs pt = false from decide_eq_false hnm] at HCt
        clear hp h hs hqn hgr hm hnm
        go_enter Try.func6, Try.ntmps6
        go_wp2_with fail
        refine (HG.out w).mono ?_
        intro e w1 hq
        obtain ⟨rfl, hb1⟩ := HGP.out _ _ _ hq
        have HB1 := Lib.hid hb1
        clear hq hb1
        go_wp2_with fail
        refine (HL.out w1 HB1.out).mono ?_
        rintro e w2 ⟨v2, rfl, hv2, hb2⟩
        have HB2 := Lib.hid (HB1.out.trans (hb2.mono HB1.out.size))
        have HT2 := Lib.hid (HTa.out v2 w2 hv2)
        clear hv2 hb2
        go_wp2_with fail
        refine HT2.out.mono ?_
        intro e w3 hq
        obtain ⟨rfl, hb3⟩ := tanpost_bad hq HS.out
        have HB3 := Lib.hid (HB2.out.trans (hb3.mono HB2.out.size))
        clear hq hb3
        go_wp2_with fail
        refine (HPr.out w3).mono ?_
        rintro e w4 ⟨rfl, rfl⟩
        go_wp2_with fail
        refine (HRG.out w3).mono ?_
        rintro e w4 ⟨rfl, rfl⟩
        go_wp2_with fail
        refine (awake_any w3).mono ?_
        rintro e w5 ⟨rfl, hb5⟩
        have HB5 := Lib.hid (HB3.out.trans (hb5.mono HB3.out.size))
        clear hb5
        go_wp2_with fail
        refine (HSt.out w5 HB5.out).mono ?_
        rintro e w6 ⟨rfl, rfl⟩
        go_wp2_with fail
        refine (HCt.out w5 HB5.out).mono ?_
        rintro e w6 ⟨rfl, rfl⟩
        go_wp2
        go_ret
        exact ⟨rfl, HB5.out⟩
end Go.Proofs.Ytllokfkagneneaa
