/- CapsLengths: what Short returns; the table -/
import Derived.Test.YtlalfjkenkmojaaL9
import Derived.Test.YtlalfjkenkmojaaL6
import Derived.Test.YtlalfjkenkmojaaGs
namespace Go.Proofs.Ytlalfjkenkmojaa
open Go.RowKit

theorem Short_len (k : Nat) (w : World) (h1 : 1 ≤ k) (h7 : k ≤ 7) : Calls Try.prog 49 #[.int .i64 k] w fun e w' => ∃ v' r, e = .returned (.tuple #[v', .int .i64 0]) ∧ Nats w' v' r ∧ r.length = k ∧ r.getD (k - 1) 0 = golN k ∧ rulB r = true ∧ (∀ y ∈ r, y ≤ 60) ∧ Below w.heap.size w w' := by
  obtain ⟨L, r, hL, hno, hyes⟩ := short_ex k h1 h7
  refine (Short_any k L r w h1 h7 hL hno hyes).mono ?_
  rintro e w' ⟨v', rfl, hv, hb⟩
  obtain ⟨s, e, hs, hsb, hg⟩ := firstN_some k hyes
  have e : s = r := by simpa using e.symm
  subst e
  have hr : rulB s = true := by rw [← keeps_rul]; exact (goes_nil s).1 hg
  have hlow := gol_le hr (by omega)
  rw [hs] at hlow
  have hk1 : k - 1 < s.length := by omega
  have hmem : s.getD (k - 1) 0 ∈ s := by simp [hk1]
  have hup := hsb _ hmem
  have hgL : L ≤ golN k := by
    refine Nat.le_of_not_lt fun hlt => ?_
    have key : ∀ t : List Nat, t.length = k → (∀ x ∈ t, x < golN k + 1) → rulB t = true → False := fun t ht hb hrt =>
      firstN_none k (hno _ hlt) t ht hb ((goes_nil t).2 (by rw [keeps_rul]; exact hrt))
    clear hno hyes hsb hlow hup hlt hmem hk1 hr hg hv hs
    rcases (show k = 1 ∨ k = 2 ∨ k = 3 ∨ k = 4 ∨ k = 5 ∨ k = 6 ∨ k = 7 by omega) with rfl | rfl | rfl | rfl | rfl | rfl | rfl
    · exact key [0] rfl (by decide) (by decide)
    · exact key [0, 1] rfl (by decide) (by decide)
    · exact key [0, 1, 3] rfl (by decide) (by decide)
    · exact key [0, 1, 4, 6] rfl (by decide) (by decide)
    · exact key [0, 1, 4, 9, 11] rfl (by decide) (by decide)
    · exact key [0, 1, 4, 10, 12, 17] rfl (by decide) (by decide +kernel)
    · exact key [0, 1, 4, 10, 18, 23, 25] rfl (by decide) (by decide +kernel)
  exact ⟨v', s, rfl, hv, hs, by omega, hr, fun y hy => by have := hsb y hy; omega, hb⟩

abbrev golV : Value := .agg #[.int .i64 0, .int .i64 0, .int .i64 1, .int .i64 3, .int .i64 6, .int .i64 11, .int .i64 17, .int .i64 25]
theorem idx8 (k : Nat) (hk : k < 8) (w : World) : (Instr.index 60 golV (.int .i64 k)).run Try.prog w = .ok (.int .i64 (golN k : Nat)) w := by
  have h0 : (Instr.index 60 golV (.int .i64 0)).run Try.prog w = .ok (.int .i64 0) w := by kernel_rfl
  have h1 : (Instr.index 60 golV (.int .i64 1)).run Try.prog w = .ok (.int .i64 0) w := by kernel_rfl
  have h2 : (Instr.index 60 golV (.int .i64 2)).run Try.prog w = .ok (.int .i64 1) w := by kernel_rfl
  have h3 : (Instr.index 60 golV (.int .i64 3)).run Try.prog w = .ok (.int .i64 3) w := by kernel_rfl
  have h4 : (Instr.index 60 golV (.int .i64 4)).run Try.prog w = .ok (.int .i64 6) w := by kernel_rfl
  have h5 : (Instr.index 60 golV (.int .i64 5)).run Try.prog w = .ok (.int .i64 11) w := by kernel_rfl
  have h6 : (Instr.index 60 golV (.int .i64 6)).run Try.prog w = .ok (.int .i64 17) w := by kernel_rfl
  have h7 : (Instr.index 60 golV (.int .i64 7)).run Try.prog w = .ok (.int .i64 25) w := by kernel_rfl
  match k, hk with
  | 0, _ => exact h0
  | 1, _ => exact h1
  | 2, _ => exact h2
  | 3, _ => exact h3
  | 4, _ => exact h4
  | 5, _ => exact h5
  | 6, _ => exact h6
  | 7, _ => exact h7
theorem wr64 {x y : Int} (h : x = y) (hy : -9223372036854775808 ≤ y ∧ y < 9223372036854775808) : IntKind.i64.wrap x = y := by
  rw [h, IntKind.wrap_i64]; omega
end Go.Proofs.Ytlalfjkenkmojaa
