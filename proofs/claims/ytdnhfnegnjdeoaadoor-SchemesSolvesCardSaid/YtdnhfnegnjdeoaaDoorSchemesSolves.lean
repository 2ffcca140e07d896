/- For all four numbers the law SchemesSolves returns true: Solve returns the spectrum of the numbers, and Reason the first reason against them, or the documented error. Conditions: the two tables of math/bits hold what the program lays in them (tied to its text), none beside; the card speaks of the pruned copy of the project. -/
import Derived.Test.YtdnhfnegnjdeoaaDoorRows
import Derived.Test.YtdnhfnegnjdeoaaDoorCards
import Derived.Test.YtdnhfnegnjdeoaaDoorTie
import Derived.Test.YtdnhfnegnjdeoaaDoorXf
import Derived.Test.YtdnhfnegnjdeoaaDoorOp
import Derived.Test.YtdnhfnegnjdeoaaDoorLd
import Derived.Lib.SmallJoins
import Derived.ShutString
import Derived.ChangeOld
import Derived.SevenTiedAt
namespace Go.Proofs.YtdnhfnegnjdeoaaDoor.schemesSolves
open Go.ChangeShapes Go.WideShapes Go.ChangeAt Go.RowKit

theorem own : ownKnob Tryd.prog.godebug = none := by kernel_rfl
theorem laidOut : laidOutB Tryd.prog = true := by kernel_rfl
theorem cells32 : Tryd.prog.cellsOf 32 = 4 := by kernel_rfl
set_option maxRecDepth 100000 in
theorem lifted (os : Os) (started : os.Started) (H : Type) (enc : TypeId × Value → H) :
    ReturnsInHanded {} Tryd.checked os 4 .any (fun w args => (Rows.schemesSolvesSpec.pre enc Tryd.prog Tryd.f4 [] false w args ∧ laidMetH Tryd.prog laid w) ∧ sizedMet enc Tryd.prog Tryd.f4 (OpenSpec.ofChange Rows.schemesSolvesSpec) false w args)
      (Rows.schemesSolvesSpec.post enc Tryd.prog Tryd.f4 false true false false) := by
  refine returnsInHanded_of_change_and (C := Tryd.checked) (X := fun w _ => laidMetH Tryd.prog laid w) (fun _ _ _ hh h => h.of_heap hh) own started (by kernel_rfl) Tryd.func4
    (ChangeSpec.witness_shaped (enc := enc) (C := Tryd.checked) (os := os) (X := fun w _ => laidMetH Tryd.prog laid w) false (World.laidAll Tryd.prog os laid) #[.agg #[.int .i64 0, .int .i64 0, .int .i64 0, .int .i64 0]] 8 (World.laidAll_os _ _ _)
      (World.shaped_of_ZipB (by kernel_rfl) (by kernel_rfl)) (by kernel_rfl) (by kernel_rfl) (by kernel_rfl) (laid_met os _)) ?_
  intro W base args ds gs before hval0 hW _ _ hL _
  have hval : ∀ (j : Nat) t v, Tryd.f4.params[j]? = some t → args[j]? = some v → Value.okWide Tryd.prog W .any base t v := hval0
  have hW' := hW
  obtain ⟨p, q, hA0, hV, rfl, hfz, hnd⟩ := hW
  have hA : DataW.TrodAll enc Tryd.prog W 0 (fun _ => true) true Tryd.f4.params.toList args.toList ds p := hA0
  rw [Tryd.params4] at hA hval
  obtain ⟨v0, vs0, d0, ds0, p0, q0, hargs, rfl, rfl, h0, r0⟩ := trodAll_cons hA
  obtain ⟨rfl, rfl, rfl⟩ := trodAll_nil r0
  obtain rfl : args = #[v0] := by cases args; simp_all
  obtain ⟨rfl, rfl⟩ := trodVars_none hV
  have hTab := tab_of_laid hL
  have k0 := h0
  have lt0 : ∀ x ∈ p0, x.block < W.heap.size := by obtain ⟨m, hm⟩ := k0; exact DataW.trod_lt m _ _ _ hm
  obtain ⟨aN, aK, aL, aM, rfl⟩ : ∃ a b c d : Int, v0 = num4 a b c d := by
    obtain ⟨u0, u1, u2, u3, y0, y1, y2, y3, n, rfl, _, _, e0, e1, e2, e3⟩ := Go.Joins.open_agg4 Tryd.underlying32 (by kernel_rfl) cells32 (hval 0 32 v0 rfl rfl) h0
    obtain ⟨x0, g0, _, _⟩ := DataW.trod_int Tryd.underlying3 e0
    obtain ⟨x1, g1, _, _⟩ := DataW.trod_int Tryd.underlying3 e1
    obtain ⟨x2, g2, _, _⟩ := DataW.trod_int Tryd.underlying3 e2
    obtain ⟨x3, g3, _, _⟩ := DataW.trod_int Tryd.underlying3 e3
    simp at g0 g1 g2 g3
    subst g0 g1 g2 g3
    exact ⟨x0, x1, x2, x3, rfl⟩
  clear hA0 hval0
  refine (schemesSolves_law aN aK aL aM W hTab).mono fun e W' ⟨he, bel⟩ => ?_
  subst he
  exact ⟨_, rfl, _, _, _, [], _, [], hW', trodAll_mk1 (shut_bool Tryd.underlying4 _), (trodAll_cons_mk (Below.trod laidOut (by kernel_rfl) (of_decide_eq_true (by kernel_rfl)) k0 bel lt0) trodAll_mk0), rfl, bel.frame _, fun h => by cases h⟩

theorem over : Rows.schemesSolvesRow.holds Tryd.pinned (OpenSpec.ofChange Rows.schemesSolvesSpec) :=
  OpenClaim.holds_of_wide 4 Tryd.f4 rfl rfl rfl rfl rfl rfl rfl ⟨rfl, rfl, rfl, rfl, rfl⟩ rfl rfl rfl rfl rfl (by kernel_rfl) Tryd.func4 (by kernel_rfl)
    (of_decide_eq_true (by kernel_rfl)) (by unfold Func.isWrapper; first | (rw [if_pos (by decide +kernel)]; kernel_rfl) | (rw [if_neg (by decide +kernel)]; exact ⟨rfl, rfl⟩))
    (fun os started H enc _ => lifted os started H enc)

end Go.Proofs.YtdnhfnegnjdeoaaDoor.schemesSolves
namespace Go.Proofs.YtdnhfnegnjdeoaaDoor
theorem schemesSolves_proved : Rows.SchemesSolvesCardSaid :=
  Claim7.holds_tied_plain_at .later [] [.data, .data] true (true, "1f7800c15cef1337511dba8f4ac9d7b79e9a940efac91069f3482c6d46644f35") false
    schemesSolves.over (fun _ h => by cases h) (by kernel_rfl) (fun _ h => by cases h) schemesSolves_row_tie rfl ⟨rfl, rfl⟩ (by kernel_rfl) rfl
    (fun f fn hf hfn => by
      obtain rfl : f = 4 := Option.some.inj ((show Tryd.prog.funcNamed "corsage/corsagelaw06.SchemesSolves" = some 4 by kernel_rfl).symm.trans hf) |>.symm
      obtain rfl : fn = Tryd.f4 := (Option.some.inj (Tryd.func4.symm.trans hfn)).symm
      exact ⟨by kernel_rfl, fun j t ht => by
        rw [Tryd.params4] at ht
        have hm : t ∈ [32] := by simpa using Array.mem_of_getElem? ht
        have hall : ([32].all fun u => !Tryd.prog.wantsStandIn u) = true := by kernel_rfl
        exact (show Tryd.prog.wantsStandIn t = false by simpa using List.all_eq_true.1 hall t hm)⟩)
    (by kernel_rfl)
#print axioms schemesSolves_proved
end Go.Proofs.YtdnhfnegnjdeoaaDoor
