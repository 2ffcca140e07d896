/- CapsBounds: the walks together -/
import Derived.Test.YtlalfjkenkmojaaBw
import Derived.Test.YtlalfjkenkmojaaBx
import Derived.Test.YtlalfjkenkmojaaBy
import Derived.Test.YtlalfjkenkmojaaBz
namespace Go.Proofs.Ytlalfjkenkmojaa
open Go.RowKit
theorem capsBounds_law (d : Int) (v : Value) (xs : List Int) (x : Int) (w : World) (h : Ints w v xs) :
    Calls Try.prog 11 #[.int .i64 d, v, .int .i64 x] w fun e w' => e = .returned (.bool true) ∧ Below w.heap.size w w' := by
  cases hst : deckB d xs with
  | false => exact bounds_bad d v xs x w h hst
  | true =>
    obtain ⟨m, l, rfl, h1, h4, _, rfl, hk⟩ := deck_nats hst
    obtain ⟨U, hU⟩ : ∃ U : Nat, IntKind.u64.wrap x = (U : Int) := ⟨(IntKind.u64.wrap x).toNat, by rw [IntKind.wrap_u64]; omega⟩
    rcases (show m = 1 ∨ m = 2 ∨ m = 3 ∨ m = 4 by omega) with rfl | rfl | rfl | rfl
    · cases hc : capB 1 l with
      | false => exact bounds1_no v l x w h hk hc
      | true =>
        by_cases hx : U % 3 ∈ l
        · exact bounds1_in v l x w h hk U _ hU rfl hc hx
        · exact bounds1_out v l x w h hk U _ hU rfl hc hx
    · cases hc : capB 2 l with
      | false => exact bounds2_no v l x w h hk hc
      | true =>
        by_cases hx : U % 9 ∈ l
        · exact bounds2_in v l x w h hk U _ hU rfl hc hx
        · exact bounds2_out v l x w h hk U _ hU rfl hc hx
    · cases hc : capB 3 l with
      | false => exact bounds3_no v l x w h hk hc
      | true =>
        by_cases hx : U % 27 ∈ l
        · exact bounds3_in v l x w h hk U _ hU rfl hc hx
        · exact bounds3_out v l x w h hk U _ hU rfl hc hx
    · cases hc : capB 4 l with
      | false => exact bounds4_no v l x w h hk hc
      | true =>
        by_cases hx : U % 81 ∈ l
        · exact bounds4_in v l x w h hk U _ hU rfl hc hx
        · exact bounds4_out v l x w h hk U _ hU rfl hc hx
end Go.Proofs.Ytlalfjkenkmojaa
