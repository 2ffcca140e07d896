/- slices.Reverse of ints -/
import Derived.Test.YtlnbodpdgebflaaMi
namespace Go.Proofs.Ytlnbodpdgebflaa
open Go.RowKit

/-- What lies at place p once the first i and the last i are exchanged. -/
def rvF (f : Nat → Int) (n i p : Nat) : Int := if p < i ∨ n - 1 - p < i then f (n - 1 - p) else f p
structure Rst (w W : World) (b n : Nat) (f : Nat → Int) (i : Nat) : Prop where
  blk : ∃ cur, Blk 3 W b cur ∧ ∀ p, p < n → cur[p]? = some (.int .i64 (rvF f n i p))
  bel : Below b w W
theorem Rst.at {w W : World} {b n i : Nat} {f : Nat → Int} (h : Rst w W b n f i) {p : Nat} (hp : p < n) : W.cell? ⟨b, p, none⟩ = some (.int .i64 (rvF f n i p)) ∧ W.frozen? ⟨b, p, none⟩ = false := by
  obtain ⟨cur, h1, h2⟩ := h.blk
  exact ⟨(h1.cell p).trans (h2 p hp), h1.fr p⟩
theorem rvF_mid {f : Nat → Int} {n i : Nat} (h : i < n - 1 - i) : rvF f n i i = f i ∧ rvF f n i (n - 1 - i) = f (n - 1 - i) := by
  unfold rvF
  constructor
  · rw [if_neg (by omega)]
  · rw [if_neg (by omega)]
theorem rvF_next {f : Nat → Int} {n i p : Nat} (hp : p < n) (h : i < n - 1 - i) : rvF f n (i + 1) p = if p = i then f (n - 1 - i) else if p = n - 1 - i then f i else rvF f n i p := by
  unfold rvF
  by_cases e1 : p = i
  · subst e1; rw [if_pos (by omega), if_pos rfl]
  · by_cases e2 : p = n - 1 - i
    · subst e2
      rw [if_pos (by omega), if_neg e1, if_pos rfl]
      congr 1; omega
    · rw [if_neg e1, if_neg e2]
      by_cases h3 : p < i ∨ n - 1 - p < i
      · rw [if_pos h3, if_pos (by omega)]
      · rw [if_neg h3, if_neg (by omega)]
theorem Rst.two {w W : World} {b n i q : Nat} {f : Nat → Int} (h : Rst w W b n f i) (hi : i < n - 1 - i) (hq : q = n - 1 - i) : Rst w ((W.setCell ⟨b, i, none⟩ (.int .i64 (f q))).setCell ⟨b, q, none⟩ (.int .i64 (f i))).drew b n f (i + 1) := by
  subst hq
  obtain ⟨cur, h1, h2⟩ := h.blk
  refine ⟨⟨_, (h1.set i _).set (n - 1 - i) _, fun p hp => ?_⟩, below_drew (below_cell (below_cell h.bel (a := ⟨b, i, none⟩) (Nat.le_refl _) _) (a := ⟨b, n - 1 - i, none⟩) (Nat.le_refl _) _)⟩
  have h3 := h2 p hp
  have hsz : p < cur.size := (Array.getElem?_eq_some_iff.1 h3).1
  rw [Array.getElem?_setIfInBounds, Array.getElem?_setIfInBounds, rvF_next hp hi]
  by_cases e2 : n - 1 - i = p
  · rw [if_pos e2, if_pos (by simp; omega), if_neg (by omega), if_pos e2.symm]
  · rw [if_neg e2]
    by_cases e1 : i = p
    · rw [if_pos e1, if_pos (by omega), if_pos e1.symm]
    · rw [if_neg e1, if_neg (fun e => e1 e.symm), if_neg (fun e => e2 e.symm)]; exact h3
theorem Rst.two' {w W : World} {b n i q : Nat} {f : Nat → Int} (h : Rst w W b n f i) (hi : i < n - 1 - i) (hq : q = n - 1 - i) : Rst w ((W.setCell ⟨b, q, none⟩ (.int .i64 (f i))).setCell ⟨b, i, none⟩ (.int .i64 (f q))).drew b n f (i + 1) := by
  subst hq
  obtain ⟨cur, h1, h2⟩ := h.blk
  refine ⟨⟨_, (h1.set (n - 1 - i) _).set i _, fun p hp => ?_⟩, below_drew (below_cell (below_cell h.bel (a := ⟨b, n - 1 - i, none⟩) (Nat.le_refl _) _) (a := ⟨b, i, none⟩) (Nat.le_refl _) _)⟩
  have h3 := h2 p hp
  have hsz : p < cur.size := (Array.getElem?_eq_some_iff.1 h3).1
  rw [Array.getElem?_setIfInBounds, Array.getElem?_setIfInBounds, rvF_next hp hi]
  by_cases e1 : i = p
  · rw [if_pos e1, if_pos (by simp; omega), if_pos e1.symm]
  · rw [if_neg e1, if_neg (show ¬ p = i from fun e => e1 e.symm)]
    by_cases e2 : n - 1 - i = p
    · rw [if_pos e2, if_pos (by omega), if_pos e2.symm]
    · rw [if_neg e2, if_neg (fun e => e2 e.symm)]; exact h3

set_option maxHeartbeats 2000000 in
theorem reverse_any (b n c : Nat) (f : Nat → Int) (w : World) (h : Rst w w b n f 0) (h1 : 1 ≤ n) (hn : n ≤ 1000) :
    Calls Try.prog 61 #[.slice (some ⟨b, 0, none⟩) n c] w fun e w' => (∃ v, e = .returned v) ∧ (∃ i, n - 1 ≤ 2 * i ∧ i ≤ n ∧ Rst w w' b n f i) := by
  have HR0 := Lib.hid h
  clear h
  have ht1 : (n:Int) - 1 = ((n - 1 : Nat) : Int) := by omega
  go_enter Try.func61, Try.ntmps61
  go_wp2_with fail
  go_loopw [2, 3] (fun x y wr => ∃ i : Nat, i ≤ n ∧ 2 * i ≤ n ∧ x = .int .i64 i ∧ y = .int .i64 ((n:Int) - 1 - i) ∧ Rst w wr b n f i) (fun x _ _ => n - (intOf x).toNat)
  case atStart => exact ⟨0, by omega, by omega, rfl, by go_num, HR0.out⟩
  case round =>
    clear HR0
    obtain ⟨i, hi, hi2, rfl, rfl, hR⟩ := hrel
    have HR := Lib.hid hR
    clear hR
    by_cases hl : i < n - 1 - i
    · have hq : (n:Int) - 1 - i = ((n - 1 - i : Nat) : Int) := by omega
      have HN1 := Lib.hid (HR.out.two hl rfl)
      have HN2 := Lib.hid (HR.out.two' hl rfl)
      have ci := (HR.out.at (show i < n by omega)).1
      have fi := (HR.out.at (show i < n by omega)).2
      have cq := (HR.out.at (show n - 1 - i < n by omega)).1
      have fq := (HR.out.at (show n - 1 - i < n by omega)).2
      rw [(rvF_mid hl).1] at ci
      rw [(rvF_mid hl).2] at cq
      rw [hq]
      have hqn : n - 1 - i < n := by omega
      have hne : i ≠ n - 1 - i := by omega
      have hi3 : 2 * (i + 1) ≤ n := by omega
      have hqe : (n:Int) - 1 - (i + 1) = ((n - 1 - i : Nat) : Int) - 1 := by omega
      have HQ := Lib.hid hqe
      clear hq hqe ht1
      generalize n - 1 - i = q at *
      have hiq : (i:Int) ≠ q := by omega
      have hlt : (i:Int) < q := by omega
      generalize f i = a at *
      generalize f q = a' at *
      go_wp2_with fail
      go_region_with (fail)
      all_goals (go_wp2_with fail)
      all_goals (go_roundw; (case rel => exact ⟨i + 1, by omega, hi3, by go_num, by have := HQ.out; go_num, by with_reducible first | exact HN1.out | exact HN2.out⟩); (case measure => simp [intOf]; omega))
    · have hlt : ¬ (i:Int) < (n:Int) - 1 - i := by omega
      go_wp2_with fail
      exact end_none rfl rfl ⟨⟨_, rfl⟩, i, by omega, hi, HR.out⟩
end Go.Proofs.Ytlnbodpdgebflaa
