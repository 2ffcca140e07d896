/- CapsSets: no two cards; all dimensions together -/
import Derived.Test.YtlalfjkenkmojaaQa
import Derived.Test.YtlalfjkenkmojaaQb
import Derived.Test.YtlalfjkenkmojaaQc
import Derived.Test.YtlalfjkenkmojaaQd
namespace Go.Proofs.Ytlalfjkenkmojaa
open Go.RowKit

set_option maxHeartbeats 2000000 in
set_option maxRecDepth 100000 in
theorem setsBad_law (d a b by_ : Int) (w : World) (ha : I64 a) (hb : I64 b) (ht : twoB d a b = false) :
    Calls Try.prog 10 #[.int .i64 d, .int .i64 a, .int .i64 b, .int .i64 by_] w fun e w' => e = .returned (.bool true) ∧ Below w.heap.size w w' := by
  have HT := Lib.hid (fun w => Third_bad d a b w ha hb ht)
  have HAw := Lib.hid (fun w => awake_any w)
  clear ht
  go_enter Try.func10, Try.ntmps10
  go_wp2_with fail
  refine (HT.out w).mono ?_
  rintro e w1 ⟨rfl, hb1⟩
  have HB1 := Lib.hid hb1
  clear hb1
  go_wp2_with fail
  refine (HAw.out _).mono ?_
  rintro e w2 ⟨rfl, hb2⟩
  have HB2 := Lib.hid (HB1.out.trans (hb2.mono HB1.out.size))
  clear hb2
  go_wp2
  go_ret
  exact ⟨rfl, HB2.out⟩

theorem capsSets_law (d a b by_ : Int) (w : World) (ha : I64 a) (hb : I64 b) :
    Calls Try.prog 10 #[.int .i64 d, .int .i64 a, .int .i64 b, .int .i64 by_] w fun e w' => e = .returned (.bool true) ∧ Below w.heap.size w w' := by
  cases ht : twoB d a b with
  | false => exact setsBad_law d a b by_ w ha hb ht
  | true =>
    obtain ⟨h1, h2, h3, h4, h5, h6⟩ := (twoB_iff d a b).1 ht
    obtain ⟨n, rfl, hn1, hn4, hs⟩ := dimB_of h1
    rw [hs] at h3 h5
    obtain ⟨a, rfl⟩ := Int.eq_ofNat_of_zero_le h2
    obtain ⟨b, rfl⟩ := Int.eq_ofNat_of_zero_le h4
    have hab : a ≠ b := by omega
    have ha3 : a < 3 ^ n := by omega
    have hb3 : b < 3 ^ n := by omega
    clear h1 h2 h3 h4 h5 h6 hs ht
    rcases (show n = 1 ∨ n = 2 ∨ n = 3 ∨ n = 4 by omega) with rfl | rfl | rfl | rfl
    · exact sets1_law a b by_ w ha3 hb3 hab
    · exact sets2_law a b by_ w ha3 hb3 hab
    · exact sets3_law a b by_ w ha3 hb3 hab
    · exact sets4_law a b by_ w ha3 hb3 hab
end Go.Proofs.Ytlalfjkenkmojaa
