/- same, of lists of words -/
import Derived.Test.YtlnbodpdgebflaaEh
namespace Go.Proofs.Ytlnbodpdgebflaa
open Go.RowKit

set_option maxHeartbeats 1000000 in
theorem equalFunc_any (b b' n c c' : Nat) (hn : n ≤ 1000) (P : Nat → List Nat) (w : World) (h : Pts w b n P) (h' : Pts w b' n P) :
    Calls Try.prog 77 #[.slice (some ⟨b, 0, none⟩) n c, .slice (some ⟨b', 0, none⟩) n c', .func (.func 28) #[] #[]] w fun e w' => e = .returned (.bool true) ∧ Below w.heap.size w w' := by
  have HP := Lib.hid h
  have HP' := Lib.hid h'
  have HE := Lib.hid (fun v v' l W h h' => equal_any v v' l l W h h')
  clear h h'
  go_enter Try.func77, Try.ntmps77
  go_wp2_with fail
  go_loopw [17] (fun i wr => ∃ k : Nat, k ≤ n ∧ i = .int .i64 k ∧ Below w.heap.size w wr) (fun i _ => n - (intOf i).toNat)
  case atStart => exact ⟨0, Nat.zero_le _, rfl, Below.refl _ _⟩
  case round =>
    obtain ⟨k, hk, rfl, hb⟩ := hrel
    have HB := Lib.hid hb
    clear hb
    by_cases hlt : k < n
    · obtain ⟨qa, qc, h1, h2⟩ := HP.out k hlt
      obtain ⟨ra, rc, h3, h4⟩ := HP'.out k hlt
      have h1' := ck h1 HB.out
      have h3' := ck h3 HB.out
      have HX := Lib.hid (HE.out _ _ _ wr (h2.below HB.out (Nat.le_refl _)) (h4.below HB.out (Nat.le_refl _)))
      rw [eqB_refl] at HX
      clear h1 h2 h3 h4
      generalize (P k).length = l at *
      go_wp2_with fail
      refine HX.out.mono ?_
      rintro e w2 ⟨rfl, hb2⟩
      have HB2 : Hid (Below w.heap.size w w2) := Lib.hid (HB.out.trans (hb2.mono HB.out.size))
      clear hb2 h1' h3'
      go_wp2_with fail
      go_roundw
      case rel => exact ⟨k + 1, by omega, by go_num, HB2.out⟩
      case measure => simp [intOf]; omega
    · obtain rfl : k = n := by omega
      go_wp2_with fail
      go_ret
      exact ⟨rfl, HB.out⟩

set_option maxHeartbeats 1000000 in
theorem sameP_any (b b' n c c' : Nat) (hn : n ≤ 1000) (P : Nat → List Nat) (w : World) (h : Pts w b n P) (h' : Pts w b' n P) :
    Calls Try.prog 30 #[.slice (some ⟨b, 0, none⟩) n c, .slice (some ⟨b', 0, none⟩) n c'] w fun e w' => e = .returned (.bool true) ∧ Below w.heap.size w w' := by
  have HE := Lib.hid (equalFunc_any b b' n c c' hn P w h h')
  clear h h'
  go_enter Try.func30, Try.ntmps30
  go_wp2_with fail
  refine HE.out.mono ?_
  rintro e w2 ⟨rfl, hb⟩
  have HB := Lib.hid hb
  clear hb
  go_wp2_with fail
  go_ret
  exact ⟨rfl, HB.out⟩
end Go.Proofs.Ytlnbodpdgebflaa
