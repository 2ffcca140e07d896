/- arrays of three ints, compared -/
import Derived.Test.YtllokfkagneneaaA
namespace Go.Proofs.Ytllokfkagneneaa
open Go.RowKit

theorem run_part3 (a b c : Int) (w : World) : (part 3 #[.int .i64 a, .int .i64 b, .int .i64 c] 0).run Try.prog w = .ok (.int .i64 a) w ∧ (part 3 #[.int .i64 a, .int .i64 b, .int .i64 c] 1).run Try.prog w = .ok (.int .i64 b) w ∧ (part 3 #[.int .i64 a, .int .i64 b, .int .i64 c] 2).run Try.prog w = .ok (.int .i64 c) w := by
  refine ⟨?_, ?_, ?_⟩ <;> kernel_rfl
theorem run_size3 (w : World) : (sizeOf 3).run Try.prog w = .ok 1 w := by kernel_rfl
theorem eqIn_tri (d : Nat) (a b c x y z : Int) (w : World) : (Op.equalIn (d + 2) 31 (tri a b c) (tri x y z)).run Try.prog w = .ok (decide ((a, b, c) = (x, y, z))) w := by
  have h : Try.prog.underlying 31 = some (.array 3 3) := Try.underlying31
  have p1 := run_part3 a b c
  have p2 := run_part3 x y z
  have e := fun (a b : Int) => run_equalIn_int (P := Try.prog) w d 3 .i64 .i64 a b Try.underlying3
  rw [Op.equalIn]
  simp only [Sem.run_bind, run_underlying h, Result.andThen_ok, run_size3]
  simp only [Std.Legacy.Range.forIn_eq_forIn_range', Std.Legacy.Range.size]
  simp [List.range', p1, p2, e]
  by_cases h1 : a = x <;> by_cases h2 : b = y <;> by_cases h3 : c = z <;> simp [h1, h2, h3]
theorem run_eql_tri (a b c x y z : Int) (w : World) : (binOp .eql 31 (tri a b c) (tri x y z)).run Try.prog w = .ok (.bool (decide ((a, b, c) = (x, y, z)))) w := by
  rw [run_eql_struct, eqIn_tri 9998]; rfl
theorem run_neq_tri (a b c x y z : Int) (w : World) : (binOp .neq 31 (tri a b c) (tri x y z)).run Try.prog w = .ok (.bool (!decide ((a, b, c) = (x, y, z)))) w := by
  rw [run_neq_struct, eqIn_tri 9998]; rfl
end Go.Proofs.Ytllokfkagneneaa
