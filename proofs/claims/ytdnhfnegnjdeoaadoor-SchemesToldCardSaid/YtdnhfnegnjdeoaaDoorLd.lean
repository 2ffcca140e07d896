/- What the laid tables give the walks; the witness' start. -/
import Derived.Test.YtdnhfnegnjdeoaaDoorTz
import Derived.ProofKit
import Derived.LaidMore
import Derived.OpenShut
import Derived.Lay
import Derived.Stop.Joined
namespace Go.Proofs.YtdnhfnegnjdeoaaDoor
open Go.ChangeShapes Go.WideShapes Go.ChangeAt Go.RowKit

def laid : List (String × DataW Unit) := [("math/bits.deBruijn32tab", Rows.laid_math_bits_deBruijn32tab), ("math/bits.deBruijn64tab", Rows.laid_math_bits_deBruijn64tab)]

theorem g32 : Tryd.prog.globalNamed "math/bits.deBruijn32tab" = some 0 := by kernel_rfl
theorem g64 : Tryd.prog.globalNamed "math/bits.deBruijn64tab" = some 1 := by kernel_rfl
theorem t64 : (Tryd.prog.globals[1]?).map (·.type) = some 106 := by kernel_rfl
theorem c5 : Tryd.prog.cellsOf 5 = 1 := by kernel_rfl
theorem laid64 {H : Type} : (Rows.laid_math_bits_deBruijn64tab : DataW H) = .agg (Lib.deBruijn64tab.map fun (k : Nat) => .lit (.int .u8 (k : Int))) := rfl

theorem tab_of_laid {W : World} (h : laidMetH Tryd.prog laid W) : TabAt 1 Lib.deBruijn64tab W := by
  rw [MakeChecks.laidMetH_plain _ _ _ (by kernel_rfl)] at h
  obtain ⟨ps, ⟨g0, t0, cs0, f0, p0, q0, _, _, _, _, ⟨g1, t1, cs1, f1, p1, q1, hg1, ht1, hv1, hd1, _, _⟩, _⟩, _, _⟩ := h
  obtain rfl := Option.some.inj (g64.symm.trans hg1)
  obtain rfl := Option.some.inj (t64.symm.trans ht1)
  obtain ⟨xs, m1, rfl, hx1, hlen, hn, hel⟩ := DataW.trod_array Tryd.underlying106 hd1
  have hxs : xs.map (·.1) = Lib.deBruijn64tab.map fun (k : Nat) => .lit (.int .u8 (k : Int)) := by
    have := (Prod.mk.inj hx1).1
    rw [laid64] at this
    exact (DataW.agg.inj this).symm
  intro j hj
  have hj64 : j < 64 := hj
  have h0 := hel j hj64
  have hxj : xs[j]? = some xs[j] := by simp [hn, hj64]
  rw [c5, hxj, Nat.mul_one] at h0
  obtain ⟨n, e1, e2, _⟩ := DataW.trod_int Tryd.underlying5 h0
  have hj1 : (xs.map (·.1))[j]? = some (.lit (.int .u8 n)) := by rw [List.getElem?_map, hxj, e2]; rfl
  rw [hxs, List.getElem?_map] at hj1
  have hjt : Lib.deBruijn64tab[j]? = some (Lib.deBruijn64tab.getD j 0) := by simp [hj]
  rw [hjt] at hj1
  simp only [Option.map_some, Option.some.injEq, DataW.lit.injEq, Lit.int.injEq, true_and] at hj1
  rw [World.var?_cell hg1 hv1 j, hj1]
  have hc : (cs1.toList.drop j)[0]? = some (Value.int .u8 n) := by
    have : ((cs1.toList.drop j).take 1)[0]? = some (Value.int .u8 n) := by rw [e1]; rfl
    rwa [List.getElem?_take_of_lt (by decide)] at this
  rw [List.getElem?_drop] at hc
  simpa using hc

theorem laid_met (os : Os) (args : Array Value) : laidMetH Tryd.prog laid ((World.laidAll Tryd.prog os laid).forCall (fun _ _ => 0) ⟨#[], args, []⟩).memory := by
  rw [MakeChecks.laidMetH_plain _ _ _ (by kernel_rfl)]
  exact laidMet_laidAll _ (by kernel_rfl) (by kernel_rfl)
end Go.Proofs.YtdnhfnegnjdeoaaDoor
