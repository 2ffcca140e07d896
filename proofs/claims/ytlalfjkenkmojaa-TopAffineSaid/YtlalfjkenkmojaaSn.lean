/- slices.Sort of nothing, and of moved numbers -/
import Derived.Test.YtlalfjkenkmojaaCp
import Derived.Test.YtlalfjkenkmojaaOp
namespace Go.Proofs.Ytlalfjkenkmojaa
open Go.RowKit
set_option maxHeartbeats 1000000 in
theorem ins_nil (w : World) : Calls Try.prog 100 #[.slice none 0 0, .int .i64 0, .int .i64 0] w fun e w' => e = .returned (.tuple #[]) ∧ w = w' := by
  go_enter Try.func100, Try.ntmps100
  go_wp2
  go_loop [6] (fun i => i = .int .i64 1) (fun _ => 0)
  case atStart => rfl
  case round =>
    subst hrel
    go_wp2
    exact ⟨rfl, _, results_none rfl _ _ _, rfl, rfl⟩
set_option maxHeartbeats 1000000 in
theorem pdq_nil (n : Int) (w : World) : Calls Try.prog 87 #[.slice none 0 0, .int .i64 0, .int .i64 0, .int .i64 n] w fun e w' => e = .returned (.tuple #[]) ∧ w = w' := by
  have HI := Lib.hid (fun w => ins_nil w)
  go_enter Try.func87, Try.ntmps87
  go_wp2_with fail
  go_loop [1, 2, 3, 8, 9] (fun a b _ d e => a = .int .i64 0 ∧ b = .int .i64 0 ∧ d = .bool true ∧ e = .bool true) (fun _ _ _ _ _ => 0)
  case atStart => exact ⟨rfl, rfl, rfl, rfl⟩
  case round =>
    obtain ⟨rfl, rfl, rfl, rfl⟩ := hrel
    go_wp2_with fail
    refine (HI.out _).mono ?_
    rintro e w' ⟨rfl, rfl⟩
    go_wp2
    refine bodyPost_ret (results_none rfl _ _ _) rfl ?_
    exact ⟨rfl, rfl⟩
set_option maxHeartbeats 1000000 in
theorem bits_nil (w : World) : Calls Try.prog 88 #[.int .u64 0] w fun e w' => (∃ n, e = .returned (.int .i64 n)) ∧ w = w' := by
  go_enter Try.func88, Try.ntmps88
  go_wp2
  go_ret
  exact ⟨⟨_, rfl⟩, rfl⟩
set_option maxHeartbeats 1000000 in
theorem sort_nil (w : World) : Calls Try.prog 53 #[.slice none 0 0] w fun e w' => e = .returned (.tuple #[]) ∧ Below w.heap.size w w' := by
  have HI := Lib.hid (fun n w => pdq_nil n w)
  go_enter Try.func53, Try.ntmps53
  go_wp2_with fail
  refine (bits_nil _).mono ?_
  rintro e w' ⟨⟨n, rfl⟩, rfl⟩
  go_wp2_with fail
  refine (HI.out _ _).mono ?_
  rintro e w' ⟨rfl, rfl⟩
  go_wp2
  exact ⟨rfl, _, results_none rfl _ _ _, rfl, Below.refl _ _⟩
/-- Moved numbers are sorted where they lie. -/
theorem sortA_any (base : Nat) (v : Value) (l : List Nat) (w : World) (hl : l.length ≤ 1000) (hb : ∀ x ∈ l, x < 65536) (ho : w.ownsRow base 3 1 v l.length (ints (nats l))) (hB : base ≤ w.heap.size) :
    Calls Try.prog 53 #[v] w fun e w' => e = .returned (.tuple #[]) ∧ Nats w' v (sortN l) ∧ Below base w w' := by
  by_cases hne : l = []
  · subst hne
    obtain ⟨_, h2⟩ := ho
    rcases h2 with ⟨rfl, _⟩ | ⟨g, cap, cur, rfl, hg, hh, hc, hm, hs, hx⟩
    · exact (sort_nil w).mono fun e w' ⟨he, hb'⟩ => ⟨he, by rw [show sortN [] = [] by unfold sortN; exact List.mergeSort_nil]; exact Ints.nil _, hb'.mono hB⟩
    · refine (sort53 g 0 cap [] w (holds_of_blockI hh rfl) (lt_of_block hh) (by simp)).mono fun e w' ⟨he, n, os, hw⟩ => ⟨he, ?_⟩
      subst hw
      refine ⟨?_, (Below.refl base w).grown (grownBy_sortedI _) hB fun k hk => by cases hk; exact hg⟩
      have e0 : sortN [] = [] := by unfold sortN; exact List.mergeSort_nil
      rw [e0]
      exact ⟨⟨_, cap, rfl, hc, by simp [ints, nats], hm, .inl rfl⟩, by simp [nats]⟩
  · exact sortL_any base v l w hne hl hb ho hB
end Go.Proofs.Ytlalfjkenkmojaa
