/- CapsWide: the walks together -/
import Derived.Test.YtlalfjkenkmojaaWb
import Derived.Test.YtlalfjkenkmojaaWc
import Derived.Test.YtlalfjkenkmojaaWd
import Derived.Test.YtlalfjkenkmojaaWe
import Derived.Test.YtlalfjkenkmojaaWf
namespace Go.Proofs.Ytlalfjkenkmojaa
open Go.RowKit
theorem capsWide_law (n : Int) (v : Value) (xs : List Int) (by_ : Int) (w : World) (h : Ints w v xs) :
    Calls Try.prog 13 #[.int .i64 n, v, .int .i64 by_] w fun e w' => e = .returned (.bool true) ∧ Below w.heap.size w w' := by
  cases hst : resB n xs with
  | false => exact wide_bad n v xs by_ w h hst
  | true =>
    obtain ⟨m, l, rfl, rfl, hs⟩ := res_nats hst
    obtain ⟨U, hU⟩ : ∃ U : Nat, IntKind.u64.wrap by_ = (U : Int) := ⟨(IntKind.u64.wrap by_).toNat, by rw [IntKind.wrap_u64]; omega⟩
    by_cases hg : Nat.gcd (1 + U % m) m = 1
    · cases hq : apartB m l with
      | false =>
        by_cases c : m ≤ 25
        · exact wide_nearF1 m v l by_ w h hs U _ _ hU rfl rfl hg hq c
        · exact wide_farF1 m v l by_ w h hs U _ _ hU rfl rfl hg hq (by omega)
      | true =>
        by_cases c : m ≤ 25
        · have := wideN_most hs.up hs.bd hq
          rcases Nat.lt_or_eq_of_le this with g | g
          · exact wide_less1 m v l by_ w h hs U _ _ hU rfl rfl hg hq c g
          · exact wide_same1 m v l by_ w h hs U _ _ hU rfl rfl hg hq c g
        · exact wide_far1 m v l by_ w h hs U _ _ hU rfl rfl hg hq (by omega)
    · cases hq : apartB m l with
      | false =>
        by_cases c : m ≤ 25
        · exact wide_nearF0 m v l by_ w h hs U _ _ hU rfl rfl hg hq c
        · exact wide_farF0 m v l by_ w h hs U _ _ hU rfl rfl hg hq (by omega)
      | true =>
        by_cases c : m ≤ 25
        · have := wideN_most hs.up hs.bd hq
          rcases Nat.lt_or_eq_of_le this with g | g
          · exact wide_less0 m v l by_ w h hs U _ _ hU rfl rfl hg hq c g
          · exact wide_same0 m v l by_ w h hs U _ _ hU rfl rfl hg hq c g
        · exact wide_far0 m v l by_ w h hs U _ _ hU rfl rfl hg hq (by omega)
end Go.Proofs.Ytlalfjkenkmojaa
