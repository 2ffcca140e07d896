/- ArcsBlocks: the walk -/
import Derived.Test.YtllokfkagneneaaZ
import Derived.Test.YtllokfkagneneaaK
namespace Go.Proofs.Ytllokfkagneneaa
open Go.RowKit

theorem blockspost_bad {w w' : World} {p : Int} {xs : List Int} {e : Ending} (h : BlocksPost w p xs e w') (hk : setB p xs = false) : e = .returned (.tuple #[.bool false, .int .i64 2]) ∧ Below w.heap.size w w' := by
  unfold BlocksPost at h; rw [hk] at h; exact h
theorem blockspost_good {w w' : World} {q : Nat} {xs : List Int} {e : Ending} (h : BlocksPost w q xs e w') (hk : setB q xs = true) : e = .returned (.tuple #[.bool (blocksS q xs), .int .i64 0]) ∧ Below w.heap.size w w' := by
  unfold BlocksPost at h; rw [hk] at h; exact h
theorem misspost_bad {w w' : World} {p : Int} {xs : List Int} {e : Ending} (h : MissPost w p xs e w') (hk : setB p xs = false) : e = .returned (.tuple #[.slice none 0 0, .int .i64 2]) ∧ Below w.heap.size w w' := by
  unfold MissPost at h; rw [hk] at h; exact h
theorem misspost_good {w w' : World} {q : Nat} {xs : List Int} {e : Ending} (h : MissPost w q xs e w') (hk : setB q xs = true) : ∃ v, e = .returned (.tuple #[v, .int .i64 0]) ∧ Ints w' v (missS q xs) ∧ Below w.heap.size w w' := by
  unfold MissPost at h; rw [hk] at h; exact h

set_option maxHeartbeats 4000000 in
set_option maxRecDepth 100000 in
theorem blocks_law (p : Int) (v : Value) (xs : List Int) (w : World) (h : Ints w v xs) :
    Calls Try.prog 8 #[.int .i64 p, v] w fun e w' => e = .returned (.bool true) ∧ Below w.heap.size w w' := by
  have HL := Lib.hid (fun w' (hb : Below w.heap.size w w') => list_any v xs w' (h.below hb (Nat.le_refl _)))
  have HSet := Lib.hid (fun w' (hb : Below w.heap.size w w') => set_any p v xs w' (h.below hb (Nat.le_refl _)))
  have HBl := Lib.hid (fun v' w' (h' : Ints w' v' (xs.take 60)) => blocks_any p v' (xs.take 60) w' h')
  have HMi := Lib.hid (fun v' w' (h' : Ints w' v' (xs.take 60)) => miss_any p v' (xs.take 60) w' h')
  cases hs : setB p xs with
  | false =>
    have HS : Hid (setB p (xs.take 60) = false) := by rw [setB_take]; exact hs
    rw [hs] at HSet
    clear hs h
    go_enter Try.func8, Try.ntmps8
    go_wp2_with fail
    refine (HL.out w (Below.refl _ _)).mono ?_
    rintro e w1 ⟨v1, rfl, hv1, hb1⟩
    have HB1 := Lib.hid hb1
    have HC := Lib.hid (HBl.out v1 w1 hv1)
    clear hv1 hb1
    go_wp2_with fail
    refine HC.out.mono ?_
    intro e w2 hq
    obtain ⟨rfl, hb2⟩ := blockspost_bad hq HS.out
    have HB2 := Lib.hid (HB1.out.trans (hb2.mono HB1.out.size))
    clear hq hb2
    go_wp2_with fail
    refine (HL.out w2 HB2.out).mono ?_
    rintro e w3 ⟨v3, rfl, hv3, hb3⟩
    have HB3 := Lib.hid (HB2.out.trans (hb3.mono HB2.out.size))
    have HC3 := Lib.hid (HMi.out v3 w3 hv3)
    clear hv3 hb3
    go_wp2_with fail
    refine HC3.out.mono ?_
    intro e w4 hq
    obtain ⟨rfl, hb4⟩ := misspost_bad hq HS.out
    have HB4 := Lib.hid (HB3.out.trans (hb4.mono HB3.out.size))
    clear hq hb4
    go_wp2_with fail
    refine (HSet.out w4 HB4.out).mono ?_
    rintro e w5 ⟨rfl, rfl⟩
    go_wp2_with fail
    refine (awake_any w4).mono ?_
    rintro e w6 ⟨rfl, hb6⟩
    have HB6 := Lib.hid (HB4.out.trans (hb6.mono HB4.out.size))
    clear hb6
    go_wp2
    go_ret
    exact ⟨rfl, HB6.out⟩
  | true =>
    have HT := Lib.hid (set_take p xs hs)
    rw [HT.out] at HBl HMi
    obtain ⟨q, rfl, hq, hin, hr⟩ := setB_of hs
    have HS := Lib.hid hs
    have HRB := Lib.hid (fun w' (hb : Below w.heap.size w w') => rBlocks_any q v xs w' hq (h.below hb (Nat.le_refl _)) hin hr)
    have HRM := Lib.hid (fun w' (hb : Below w.heap.size w w') => rMiss_any q v xs w' hq (h.below hb (Nat.le_refl _)) hin)
    have hln : (missS q xs).length ≤ 57 := Nat.le_trans (linesW_le q 0 xs (np q)) (np_le q hq.le.2)
    have HI := Lib.hid (linesW_I64 q 0 xs (np q) (by have := np_le q hq.le.2; omega))
    obtain ⟨bs, hbs⟩ : ∃ bs, bs = blocksS q xs := ⟨_, rfl⟩
    have HBP : Hid (∀ w w' e, BlocksPost w q xs e w' → e = .returned (.tuple #[.bool bs, .int .i64 0]) ∧ Below w.heap.size w w') := fun w w' e h => by rw [hbs]; exact blockspost_good h hs
    rw [← hbs] at HRB
    have hbb : (bs == bs) = true := by simp
    rw [hs] at HSet
    rw [HT.out] at HL
    clear hs h hq hin hr hbs
    go_enter Try.func8, Try.ntmps8
    go_wp2_with fail
    refine (HL.out w (Below.refl _ _)).mono ?_
    rintro e w1 ⟨v1, rfl, hv1, hb1⟩
    have HB1 := Lib.hid hb1
    have HC := Lib.hid (HBl.out v1 w1 hv1)
    clear hv1 hb1
    go_wp2_with fail
    refine HC.out.mono ?_
    intro e w2 hq
    obtain ⟨rfl, hb2⟩ := HBP.out _ _ _ hq
    have HB2 := Lib.hid (HB1.out.trans (hb2.mono HB1.out.size))
    clear hq hb2
    go_wp2_with fail
    refine (HL.out w2 HB2.out).mono ?_
    rintro e w3 ⟨v3, rfl, hv3, hb3⟩
    have HB3 := Lib.hid (HB2.out.trans (hb3.mono HB2.out.size))
    have HC3 := Lib.hid (HMi.out v3 w3 hv3)
    clear hv3 hb3
    go_wp2_with fail
    refine HC3.out.mono ?_
    intro e w4 hq
    obtain ⟨v4, rfl, hv4, hb4⟩ := misspost_good hq HS.out
    have HV4 := Lib.hid hv4
    have HB4 := Lib.hid (HB3.out.trans (hb4.mono HB3.out.size))
    clear hq hb4 hv4
    go_wp2_with fail
    refine (HSet.out w4 HB4.out).mono ?_
    rintro e w5 ⟨rfl, rfl⟩
    go_wp2_with fail
    refine (HRB.out w4 HB4.out).mono ?_
    rintro e w5 ⟨rfl, hb5⟩
    have HB5 := Lib.hid (HB4.out.trans (hb5.mono HB4.out.size))
    have HV5 := Lib.hid (HV4.out.below hb5 (Nat.le_refl _))
    clear hb5
    go_wp2_with fail
    refine (HRM.out w5 HB5.out).mono ?_
    rintro e w6 ⟨v6, rfl, hown, hb6⟩
    have HB6 := Lib.hid (HB5.out.trans (hb6.mono HB5.out.size))
    have HV6 := Lib.hid (HV5.out.below hb6 (Nat.le_refl _))
    have HV6' := Lib.hid (Ints.of_owns hown (by omega) HI.out)
    clear hb6 hown
    go_wp2_with fail
    refine (equal_same _ _ _ _ HV6.out HV6'.out).mono ?_
    rintro e w7 ⟨rfl, hb7⟩
    have HB7 := Lib.hid (HB6.out.trans (hb7.mono HB6.out.size))
    clear hb7
    go_wp2_with fail
    refine (awake_any w7).mono ?_
    rintro e w8 ⟨rfl, hb8⟩
    have HB8 := Lib.hid (HB7.out.trans (hb8.mono HB7.out.size))
    clear hb8
    go_wp2
    go_ret
    exact ⟨rfl, HB8.out⟩
end Go.Proofs.Ytllokfkagneneaa
