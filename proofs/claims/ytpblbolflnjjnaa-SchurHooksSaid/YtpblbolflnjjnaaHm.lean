/- what SchurHooks reckons, of each shape -/
import Derived.Test.YtpblbolflnjjnaaHn
namespace Go.Proofs.Ytpblbolflnjjnaa
open Go.RowKit

def hookCheck (l : List Int) : Bool :=
  shB (conjS l) && decide (stdF (conjS l) = stdF l) && decide (wrap64 (stdF l * hooksTo l (conjS l) l.length) = allW (isum l).toNat) && (List.range l.length).all fun i => decide ((l.getD i 0).toNat ≤ (conjS l).length)

set_option maxRecDepth 100000 in
set_option maxHeartbeats 20000000 in
theorem hook_all' : allShapes.all hookCheck = true := by decide +kernel
theorem hook_all : ∀ l ∈ allShapes, hookCheck l = true := fun l hl => List.all_eq_true.1 hook_all' l hl

theorem hook_ok {l : List Int} (h : Shape l) : HookOk l := by
  have hm := shape_mem h
  have h1 := hook_all l hm
  simp only [hookCheck, Bool.and_eq_true, decide_eq_true_eq, List.all_eq_true] at h1
  obtain ⟨⟨⟨h1, h2⟩, h3⟩, h4⟩ := h1
  have e1 := std_eq l hm
  have e2 := std_eq (conjS l) (shape_mem (of_decide_eq_true h1))
  exact ⟨h1, by rw [e1, e2, h2], by rw [e1]; exact h3, fun i hi => of_decide_eq_true (by simpa using h4 i (List.mem_range.2 hi))⟩
end Go.Proofs.Ytpblbolflnjjnaa
