/- numbers asked about: isAsked, the reference's Asked, Of -/
import Derived.Test.YtdnhfnegnjdeoaaDoorAw
namespace Go.Proofs.YtdnhfnegnjdeoaaDoor
open Go.RowKit

def askB (N K L M : Int) : Bool := decide (4 ≤ N ∧ N ≤ 100 ∧ 1 ≤ K ∧ K ≤ N - 2 ∧ 0 ≤ L ∧ L < K ∧ 0 ≤ M ∧ M ≤ K)
theorem askB_no {N K L M : Int} (h : ¬ (4 ≤ N ∧ N ≤ 100 ∧ 1 ≤ K ∧ K ≤ N - 2 ∧ 0 ≤ L ∧ L < K ∧ 0 ≤ M ∧ M ≤ K)) : askB N K L M = false := decide_eq_false h

set_option maxRecDepth 100000 in
set_option maxHeartbeats 2000000 in
theorem isAsked_any (N K L M : Int) (w : World) : Calls Tryd.prog 67 #[num4 N K L M] w fun e w' => e = .returned (.bool (askB N K L M)) ∧ Below w.heap.size w w' := by
  have hQ := Q4.new w 24 N K L M
  have q0 := hQ.c0
  have q1 := hQ.c1
  have q2 := hQ.c2
  have q3 := hQ.c3
  have HB := Lib.hid ((Below.refl w.heap.size w).alloc (Nat.le_refl _) (.cells #[.int .i64 N, .int .i64 K, .int .i64 L, .int .i64 M] 24))
  unfold num4
  clear hQ
  by_cases p0 : N ≥ 4
  case neg =>
    have HA : Hid (askB N K L M = false) := Lib.hid (askB_no (by omega))
    go_enter Tryd.func67, Tryd.ntmps67
    go_wp2
    go_ret
    exact ⟨ret_bool HA.out.symm, HB.out⟩
  by_cases p1 : N ≤ 100
  case neg =>
    have HA : Hid (askB N K L M = false) := Lib.hid (askB_no (by omega))
    go_enter Tryd.func67, Tryd.ntmps67
    go_wp2
    go_ret
    exact ⟨ret_bool HA.out.symm, HB.out⟩
  by_cases p2 : K ≥ 1
  case neg =>
    have HA : Hid (askB N K L M = false) := Lib.hid (askB_no (by omega))
    go_enter Tryd.func67, Tryd.ntmps67
    go_wp2
    go_ret
    exact ⟨ret_bool HA.out.symm, HB.out⟩
  by_cases p3 : K ≤ N - 2
  case neg =>
    have HA : Hid (askB N K L M = false) := Lib.hid (askB_no (by omega))
    go_enter Tryd.func67, Tryd.ntmps67
    go_wp2
    go_ret
    exact ⟨ret_bool HA.out.symm, HB.out⟩
  by_cases p4 : L ≥ 0
  case neg =>
    have HA : Hid (askB N K L M = false) := Lib.hid (askB_no (by omega))
    go_enter Tryd.func67, Tryd.ntmps67
    go_wp2
    go_ret
    exact ⟨ret_bool HA.out.symm, HB.out⟩
  by_cases p5 : L < K
  case neg =>
    have HA : Hid (askB N K L M = false) := Lib.hid (askB_no (by omega))
    go_enter Tryd.func67, Tryd.ntmps67
    go_wp2
    go_ret
    exact ⟨ret_bool HA.out.symm, HB.out⟩
  by_cases p6 : M ≥ 0
  case neg =>
    have HA : Hid (askB N K L M = false) := Lib.hid (askB_no (by omega))
    go_enter Tryd.func67, Tryd.ntmps67
    go_wp2
    go_ret
    exact ⟨ret_bool HA.out.symm, HB.out⟩
  by_cases p7 : M ≤ K
  case neg =>
    have HA : Hid (askB N K L M = false) := Lib.hid (askB_no (by omega))
    go_enter Tryd.func67, Tryd.ntmps67
    go_wp2
    go_ret
    exact ⟨ret_bool HA.out.symm, HB.out⟩
  have HA : Hid (askB N K L M = true) := Lib.hid (decide_eq_true ⟨p0, p1, p2, p3, p4, p5, p6, p7⟩)
  go_enter Tryd.func67, Tryd.ntmps67
  go_wp2
  go_ret
  exact ⟨ret_bool HA.out.symm, HB.out⟩

set_option maxRecDepth 100000 in
set_option maxHeartbeats 2000000 in
theorem rAsked_any (N K L M : Int) (w : World) : Calls Tryd.prog 29 #[num4 N K L M] w fun e w' => e = .returned (.bool (askB N K L M)) ∧ Below w.heap.size w w' := by
  have hQ := Q4.new w 32 N K L M
  have q0 := hQ.c0
  have q1 := hQ.c1
  have q2 := hQ.c2
  have q3 := hQ.c3
  have HB := Lib.hid ((Below.refl w.heap.size w).alloc (Nat.le_refl _) (.cells #[.int .i64 N, .int .i64 K, .int .i64 L, .int .i64 M] 32))
  unfold num4
  clear hQ
  by_cases p0 : N ≥ 4
  case neg =>
    have HA : Hid (askB N K L M = false) := Lib.hid (askB_no (by omega))
    go_enter Tryd.func29, Tryd.ntmps29
    go_wp2
    go_ret
    exact ⟨ret_bool HA.out.symm, HB.out⟩
  by_cases p1 : N ≤ 100
  case neg =>
    have HA : Hid (askB N K L M = false) := Lib.hid (askB_no (by omega))
    go_enter Tryd.func29, Tryd.ntmps29
    go_wp2
    go_ret
    exact ⟨ret_bool HA.out.symm, HB.out⟩
  by_cases p2 : K ≥ 1
  case neg =>
    have HA : Hid (askB N K L M = false) := Lib.hid (askB_no (by omega))
    go_enter Tryd.func29, Tryd.ntmps29
    go_wp2
    go_ret
    exact ⟨ret_bool HA.out.symm, HB.out⟩
  by_cases p3 : K ≤ N - 2
  case neg =>
    have HA : Hid (askB N K L M = false) := Lib.hid (askB_no (by omega))
    go_enter Tryd.func29, Tryd.ntmps29
    go_wp2
    go_ret
    exact ⟨ret_bool HA.out.symm, HB.out⟩
  by_cases p4 : L ≥ 0
  case neg =>
    have HA : Hid (askB N K L M = false) := Lib.hid (askB_no (by omega))
    go_enter Tryd.func29, Tryd.ntmps29
    go_wp2
    go_ret
    exact ⟨ret_bool HA.out.symm, HB.out⟩
  by_cases p5 : L < K
  case neg =>
    have HA : Hid (askB N K L M = false) := Lib.hid (askB_no (by omega))
    go_enter Tryd.func29, Tryd.ntmps29
    go_wp2
    go_ret
    exact ⟨ret_bool HA.out.symm, HB.out⟩
  by_cases p6 : M ≥ 0
  case neg =>
    have HA : Hid (askB N K L M = false) := Lib.hid (askB_no (by omega))
    go_enter Tryd.func29, Tryd.ntmps29
    go_wp2
    go_ret
    exact ⟨ret_bool HA.out.symm, HB.out⟩
  by_cases p7 : M ≤ K
  case neg =>
    have HA : Hid (askB N K L M = false) := Lib.hid (askB_no (by omega))
    go_enter Tryd.func29, Tryd.ntmps29
    go_wp2
    go_ret
    exact ⟨ret_bool HA.out.symm, HB.out⟩
  have HA : Hid (askB N K L M = true) := Lib.hid (decide_eq_true ⟨p0, p1, p2, p3, p4, p5, p6, p7⟩)
  go_enter Tryd.func29, Tryd.ntmps29
  go_wp2
  go_ret
  exact ⟨ret_bool HA.out.symm, HB.out⟩

set_option maxHeartbeats 1000000 in
theorem of_any (a b c d : Int) (w : World) : Calls Tryd.prog 27 #[num4 a b c d] w fun e w' => e = .returned (num4 a b c d) ∧ Below w.heap.size w w' := by
  have hQ := Q4.new w 32 a b c d
  have q0 := hQ.c0
  have q1 := hQ.c1
  have q2 := hQ.c2
  have q3 := hQ.c3
  have hb := (Below.refl _ w).alloc (Nat.le_refl _) (.cells #[.int .i64 a, .int .i64 b, .int .i64 c, .int .i64 d] 32)
  have hs : (w.alloc (.cells #[.int .i64 a, .int .i64 b, .int .i64 c, .int .i64 d] 32)).heap.size = w.heap.size + 1 := World.size_alloc _ _
  unfold num4
  go_enter Tryd.func27, Tryd.ntmps27
  go_wp2_with fail
  have hS := Q4.new (w.alloc (.cells #[.int .i64 a, .int .i64 b, .int .i64 c, .int .i64 d] 32)) 24 a b c d
  have hB := hb.alloc (by omega) (.cells #[.int .i64 a, .int .i64 b, .int .i64 c, .int .i64 d] 24)
  rw [hs] at hS
  generalize ((w.alloc (.cells #[.int .i64 a, .int .i64 b, .int .i64 c, .int .i64 d] 32)).alloc (.cells #[.int .i64 a, .int .i64 b, .int .i64 c, .int .i64 d] 24)) = W at *
  refine bodyPost_ret (v := .agg #[.int .i64 a, .int .i64 b, .int .i64 c, .int .i64 d]) ?_ rfl ⟨rfl, hB⟩
  simp [results, Tryd.f27, go_sem, hS.c0, hS.c1, hS.c2, hS.c3]
end Go.Proofs.YtdnhfnegnjdeoaaDoor
