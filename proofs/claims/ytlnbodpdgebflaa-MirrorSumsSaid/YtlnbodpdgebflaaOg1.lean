/- shortest -/
import Derived.Test.YtlnbodpdgebflaaOf
namespace Go.Proofs.Ytlnbodpdgebflaa
open Go.RowKit

/-- The first mirror of a set by which x falls. -/
def shS (g set x : Nat) : Option Nat := (List.range (kM g)).find? fun s => set.testBit s && flB g x s
def shF (g set : Nat) : Nat → Nat → Nat
  | 0, x => x
  | f + 1, x => match shS g set x with
    | none => x
    | some s => shF g set f (rt g x s)
/-- The shortest product of x with the mirrors of a set. -/
def shB (g set x : Nat) : Nat := shF g set (ln g x) x
theorem fl_chk : ((List.range 17).all fun g => (List.range (nE g)).all fun x => (List.range (kM g)).all fun s => !flB g x s || (ln g (rt g x s) + 1 == ln g x)) = true := by decide +kernel
theorem fl_ok {g x s : Nat} (hg : g < 17) (hx : x < nE g) (hs : s < kM g) (h : flB g x s = true) : ln g (rt g x s) + 1 = ln g x := by
  have h1 := List.all_eq_true.1 (List.all_eq_true.1 (List.all_eq_true.1 fl_chk g (List.mem_range.2 hg)) x (List.mem_range.2 hx)) s (List.mem_range.2 hs)
  simpa [h] using h1
theorem shS_none {g set x : Nat} (h : ∀ s, s < kM g → (set.testBit s && flB g x s) = false) : shS g set x = none := by
  unfold shS
  rw [List.find?_eq_none]
  intro s hs
  rw [h s (List.mem_range.1 hs)]
  decide
theorem shS_some {g set x s : Nat} (hs : s < kM g) (h : ∀ t, t < s → (set.testBit t && flB g x t) = false) (h1 : (set.testBit s && flB g x s) = true) : shS g set x = some s := by
  unfold shS
  rw [List.find?_range_eq_some]
  refine ⟨h1, List.mem_range.2 hs, fun j hj => by rw [h j hj]; rfl⟩
theorem shF_lt {g set : Nat} (hg : g < 17) : ∀ (f x : Nat), x < nE g → shF g set f x < nE g
  | 0, _, hx => hx
  | f + 1, x, hx => by
    unfold shF
    cases h : shS g set x with
    | none => exact hx
    | some s =>
      unfold shS at h
      have hs : s < kM g := List.mem_range.1 (List.mem_of_find?_eq_some h)
      exact shF_lt hg f _ (tb hg hx hs).2.1
theorem shB_lt {g : Nat} (hg : g < 17) (set x : Nat) (hx : x < nE g) : shB g set x < nE g := shF_lt hg _ _ hx
theorem shB_none {g set x : Nat} (h : shS g set x = none) : shB g set x = x := by
  unfold shB
  cases ln g x with
  | zero => rfl
  | succ n => rw [shF, h]
theorem shB_some {g set x s : Nat} (hg : g < 17) (hx : x < nE g) (hs : s < kM g) (h : shS g set x = some s) (hf : flB g x s = true) : shB g set x = shB g set (rt g x s) := by
  unfold shB
  rw [← fl_ok hg hx hs hf, shF, h]

set_option maxHeartbeats 2000000 in
theorem shortest_any (g set T0 : Nat) (hg : g < 17) (h16 : set < 16) : ∀ (n x : Nat) (w : World), ln g x = n → TableAt w T0 g → x < nE g →
    Calls Try.prog 84 #[.pointer (some ⟨T0, 0, none⟩), .int .i64 x, .int .i64 set] w fun e w' => e = .returned (.int .i64 (shB g set x : Nat)) ∧ w = w' := by
  intro n
  induction n using Nat.strongRecOn with
  | ind n ih =>
    intro x w hn h hx
    have HI := Lib.hid ih
    have HTb := Lib.hid h
    obtain ⟨wb, cw, rb, cr, ws, R, C, ht⟩ := h.open hg
    have c1 := ht.c1
    obtain ⟨r1, r2, r3⟩ := ht.right _ hx
    have HR3 := Lib.hid r3
    have hcap := ht.cap.2
    have HN := Lib.hid hn
    have hk4 := (tg hg).2.2.2.1
    clear ih h ht r3 hn
    generalize hkn : kM g = kn at *
    have HK := Lib.hid hkn
    clear hkn
    go_enter Try.func84, Try.ntmps84
    go_wp2_with fail
    go_loopw [17] (fun i wr => ∃ k : Nat, k ≤ kn ∧ i = .int .i64 k ∧ (∀ t, t < k → (set.testBit t && flB g x t) = false) ∧ wr = w) (fun i _ => kn - (intOf i).toNat)
    case atStart => exact ⟨0, Nat.zero_le _, rfl, fun t ht => absurd ht (by omega), rfl⟩
    case round =>
      obtain ⟨k, hk, rfl, hall, rfl⟩ := hrel
      have HA := Lib.hid hall
      clear hall
      by_cases hl : k < kn
      · have r4 := HR3.out k hl
        have hbit := bit_and1 set k (by omega)
        have HS : Hid ((set.testBit k && flB g x k) = false → ∀ t, t < k + 1 → (set.testBit t && flB g x t) = false) := Lib.hid (fun e t ht => if q : t = k then q ▸ e else HA.out t (by omega))
        have hk' : k < kM g := by rw [HK.out]; exact hl
        have HF := Lib.hid (falls_any g T0 x k hg wr HTb.out hx hk')
        have HFB : Hid (flB g x k = decide (ln g (rt g x k) < ln g x)) := Lib.hid rfl
        rw [← HFB.out] at HF
        have hr2 := (tb hg hx hk').2.1
        have hr128 : rt g x k < 128 := by have := (tE hg).2; omega
        cases hb : set.testBit k with
        | false =>
          rw [hb] at hbit HS
          have hbit' : bits .and .i64 ((set:Int) / 2 ^ k) 1 = 0 := hbit
          clear hbit hb HF HFB
          generalize rt g x k = r at *
          have HE := Lib.hid (HS.out rfl)
          clear HS
          go_wp2_with fail
          go_roundw
          case rel => exact ⟨k + 1, by omega, by go_num, HE.out, trivial⟩
          case measure => simp [intOf]; omega
        | true =>
          rw [hb] at hbit HS
          have hbit' : bits .and .i64 ((set:Int) / 2 ^ k) 1 = 1 := hbit
          clear hbit HFB
          cases hf : flB g x k with
          | false =>
            rw [hf] at HF HS
            have HE := Lib.hid (HS.out rfl)
            clear hf hb HS
            generalize rt g x k = r at *
            go_wp2_with fail
            refine HF.out.mono ?_
            rintro e w3 ⟨rfl, rfl⟩
            go_wp2_with fail
            go_roundw
            case rel => exact ⟨k + 1, by omega, by go_num, HE.out, trivial⟩
            case measure => simp [intOf]; omega
          | true =>
            rw [hf] at HF
            have HE := Lib.hid (shB_some hg hx hk' (shS_some hk' HA.out (by rw [hb, hf]; rfl)) hf)
            have hlt := fl_ok hg hx hk' hf
            have HRec := Lib.hid (HI.out (ln g (rt g x k)) (by have := HN.out; omega) (rt g x k) wr rfl HTb.out hr2)
            rw [← HE.out] at HRec
            clear hf hb HS hlt
            generalize rt g x k = r at *
            go_wp2_with fail
            refine HF.out.mono ?_
            rintro e w3 ⟨rfl, rfl⟩
            go_wp2_with fail
            refine HRec.out.mono ?_
            rintro e w3 ⟨rfl, rfl⟩
            go_wp2_with fail
            go_ret
            exact ⟨rfl, rfl⟩
      · obtain rfl : kn = k := by omega
        have HE := Lib.hid (shB_none (shS_none (g := g) (set := set) (x := x) (by rw [HK.out]; exact HA.out)))
        go_wp2_with fail
        go_ret
        exact ⟨by rw [HE.out]; rfl, rfl⟩

end Go.Proofs.Ytlnbodpdgebflaa
