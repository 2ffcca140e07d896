/- planes: dot, mod, cross, newPlane -/
import Derived.Test.YtllokfkagneneaaRows
import Derived.Test.YtllokfkagneneaaP
import Derived.Deep.DeepCutAuto
namespace Go.Proofs.Ytllokfkagneneaa
open Go.RowKit

theorem prodb {a x : Int} (ha : -200 ≤ a ∧ a ≤ 200) (hx : 0 ≤ x ∧ x ≤ 200) : -40000 ≤ a * x ∧ a * x ≤ 40000 := by
  rcases Int.le_total 0 a with h | h
  · exact ⟨by have := Int.mul_nonneg h hx.1; omega, by have := Int.mul_le_mul ha.2 hx.2 hx.1 (by omega); omega⟩
  · have h1 : 0 ≤ (-a) * x := Int.mul_nonneg (by omega) hx.1
    have h2 : (-a) * x ≤ 200 * 200 := Int.mul_le_mul (by omega) hx.2 hx.1 (by omega)
    rw [Int.neg_mul] at h1 h2
    omega

set_option maxHeartbeats 400000 in
theorem dot_any (a b c x y z : Int) (w : World) (ha : -200 ≤ a ∧ a ≤ 200) (hb : -200 ≤ b ∧ b ≤ 200) (hc : -200 ≤ c ∧ c ≤ 200) (hx : 0 ≤ x ∧ x ≤ 200) (hy : 0 ≤ y ∧ y ≤ 200) (hz : 0 ≤ z ∧ z ≤ 200) :
    Calls Try.prog 94 #[tri a b c, tri x y z] w fun e w' => e = .returned (.int .i64 (a*x+b*y+c*z)) ∧ Below w.heap.size w w' := by
  obtain ⟨h1, h1'⟩ := prodb ha hx
  obtain ⟨h2, h2'⟩ := prodb hb hy
  obtain ⟨h3, h3'⟩ := prodb hc hz
  clear ha hb hc hx hy hz
  go_enter Try.func94, Try.ntmps94
  go_wp2
  go_ret
  exact ⟨rfl, ((Below.refl _ _).alloc (Nat.le_refl _) _).alloc (by simp) _⟩

set_option maxHeartbeats 400000 in
theorem mod_any (b : Nat) (p n : Int) (w : World) (hc : w.cell? ⟨b, 0, none⟩ = some (.int .i64 p)) (hp : 2 ≤ p) (hp' : p ≤ 7) :
    Calls Try.prog 88 #[.pointer (some ⟨b, 0, none⟩), .int .i64 n] w fun e w' => e = .returned (.int .i64 (n % p)) ∧ ∃ m, w' = w.drewN m := by
  obtain ⟨h1, h2, h3⟩ := mod_go p n hp hp'
  have H1 := Lib.hid h1
  clear h1
  have H0 : (p == 0) = false := by simp; omega
  go_enter Try.func88, Try.ntmps88
  go_wp2
  go_quiet (fail)
  go_wp2
  go_ret
  exact ⟨ret_int H1.out, _, rfl⟩

set_option maxHeartbeats 400000 in
theorem cross_any (a b c x y z : Int) (w : World) (ha : 0 ≤ a ∧ a ≤ 200) (hb : 0 ≤ b ∧ b ≤ 200) (hc : 0 ≤ c ∧ c ≤ 200) (hx : 0 ≤ x ∧ x ≤ 200) (hy : 0 ≤ y ∧ y ≤ 200) (hz : 0 ≤ z ∧ z ≤ 200) :
    Calls Try.prog 73 #[tri a b c, tri x y z] w fun e w' => e = .returned (tri (b*z-c*y) (c*x-a*z) (a*y-b*x)) ∧ Below w.heap.size w w' := by
  obtain ⟨h1, h1'⟩ := prodb (a := b) (by omega) hz
  obtain ⟨h2, h2'⟩ := prodb (a := c) (by omega) hy
  obtain ⟨h3, h3'⟩ := prodb (a := c) (by omega) hx
  obtain ⟨h4, h4'⟩ := prodb (a := a) (by omega) hz
  obtain ⟨h5, h5'⟩ := prodb (a := a) (by omega) hy
  obtain ⟨h6, h6'⟩ := prodb (a := b) (by omega) hx
  clear ha hb hc hx hy hz
  go_enter Try.func73, Try.ntmps73
  go_wp2
  refine bodyPost_ret (v := tri (b*z-c*y) (c*x-a*z) (a*y-b*x)) (by simp [results, Try.results73, go_sem]) rfl ⟨rfl, ?_⟩
  exact (((Below.refl _ _).alloc (Nat.le_refl _) _).alloc (by simp) _).alloc (by simp; omega) _
end Go.Proofs.Ytllokfkagneneaa
