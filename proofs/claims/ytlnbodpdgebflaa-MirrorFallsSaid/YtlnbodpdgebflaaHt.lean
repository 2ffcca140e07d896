/- taking one operation of a region first, the operation written out -/
import Derived.Test.YtlnbodpdgebflaaEc
import Derived.Deep.RegionHeld3
namespace Go.Proofs.Ytlnbodpdgebflaa
open Lean Elab Tactic Meta Go

/-- h_take i (v) (how) hS -/
elab "h_take " i:num v:term:max how:term:max hS:ident : tactic => withMainContext do
  let t := (← instantiateMVars (← getMainTarget)).consumeMData
  let ops := t.getAppArgs[2]!
  let some oe := opAt ops i.getNat | throwError "the region is not written out"
  let o ← Term.exprToSyntax oe
  evalTactic (← `(tactic| refine wpAnyH_take (i := $i) (oi := $o) (v := $v) rfl (by kernel_rfl) (by kernel_rfl) (by kernel_rfl) (fun _ _ _ h => h) $how $hS ?_))
  evalTactic (← `(tactic| try simp only [Act.put, List.setIfInBounds_toArray, List.set_cons_zero, List.set_cons_succ]))
end Go.Proofs.Ytlnbodpdgebflaa
