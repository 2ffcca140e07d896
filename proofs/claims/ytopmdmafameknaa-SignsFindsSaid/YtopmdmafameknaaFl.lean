/- equal rows of four -/
import Derived.Test.YtopmdmafameknaaFk
import Derived.Test.YtopmdmafameknaaFj
import Derived.Test.YtopmdmafameknaaFd
import Derived.Test.YtopmdmafameknaaDw
namespace Go.Proofs.Ytopmdmafameknaa
open Go.RowKit
theorem run_neq_four (a b c d x y z u : Int) (w : World) : (binOp .neq 43 (qv a b c d) (qv x y z u)).run Try.prog w = .ok (.bool (!decide ((a, b, c, d) = (x, y, z, u)))) w := by
  rw [run_neq_struct, eqIn_four 9998]; rfl
set_option maxRecDepth 20000 in
set_option maxHeartbeats 2000000 in
theorem eqRows_any (v u : Value) (L : List (List Nat)) (w : World) (hv : RowsC w v L) (hu : RowsC w u L) : Calls Try.prog 51 #[v, u] w fun e w' => e = .returned (.bool true) ∧ Below w.heap.size w w' := by
  obtain ⟨ao, cv, rfl, hcv, hl, hx⟩ := hv
  obtain ⟨bo, cu, rfl, hcu, _, hy⟩ := hu
  have HX := Lib.hid hx
  have HY := Lib.hid hy
  clear hx hy
  go_enter Try.func51, Try.ntmps51
  go_wp2_with fail
  go_loopw [13] (fun i wr => ∃ k : Nat, k ≤ L.length ∧ i = .int .i64 k ∧ Below w.heap.size w wr) (fun i _ => L.length - (intOf i).toNat)
  case atStart => exact ⟨0, Nat.zero_le _, rfl, Below.refl _ _⟩
  case round =>
    obtain ⟨k, hk, rfl, hb⟩ := hrel
    have HB := Lib.hid hb
    clear hb
    by_cases hlt : k < L.length
    · obtain ⟨x, ht⟩ : ∃ t, L[k]? = some t := ⟨L[k], by simp [hlt]⟩
      obtain ⟨g, rfl, c1, c2, c3, c4⟩ := HX.out k _ ht
      obtain ⟨f, rfl, b0, b1, b2, b3⟩ := HY.out k _ ht
      clear ht
      generalize ((x.getD 0 0 : Nat) : Int) = x0 at *
      generalize ((x.getD 1 0 : Nat) : Int) = x1 at *
      generalize ((x.getD 2 0 : Nat) : Int) = x2 at *
      generalize ((x.getD 3 0 : Nat) : Int) = x3 at *
      have c1 := ck c1 HB.out
      have c2 := ck c2 HB.out
      have c3 := ck c3 HB.out
      have c4 := ck c4 HB.out
      have b0 := ck b0 HB.out
      have b1 := ck b1 HB.out
      have b2 := ck b2 HB.out
      have b3 := ck b3 HB.out
      have HBd := Lib.hid (below_drew' HB.out)
      have he : ∀ w, (binOp .neq 43 (qv x0 x1 x2 x3) (qv x0 x1 x2 x3)).run Try.prog w = .ok (.bool false) w := fun w => by rw [run_neq_four, decide_eq_true rfl]; rfl
      unfold qv at he
      go_wp2_with fail
      go_region_held3 (fun W => W.cell? ⟨f, k * 4, none⟩ = some (.int .i64 x0) ∧ W.cell? ⟨f, k * 4 + 1, none⟩ = some (.int .i64 x1) ∧ W.cell? ⟨f, k * 4 + 2, none⟩ = some (.int .i64 x2) ∧ W.cell? ⟨f, k * 4 + 3, none⟩ = some (.int .i64 x3) ∧ W.cell? ⟨g, k * 4, none⟩ = some (.int .i64 x0) ∧ W.cell? ⟨g, k * 4 + 1, none⟩ = some (.int .i64 x1) ∧ W.cell? ⟨g, k * 4 + 2, none⟩ = some (.int .i64 x2) ∧ W.cell? ⟨g, k * 4 + 3, none⟩ = some (.int .i64 x3)) (go_keep) (fail)
      go_wp2_with fail
      go_roundw
      case rel => exact ⟨k + 1, by omega, by go_num, HBd.out⟩
      case measure => (first | (simp [intOf]; done) | (simp [intOf]; omega))
    · have hke : k = L.length := by omega
      subst hke
      go_wp2_with fail
      go_ret
      exact ⟨rfl, HB.out⟩
end Go.Proofs.Ytopmdmafameknaa
