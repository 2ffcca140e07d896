/- CapsLengths: all together -/
import Derived.Test.YtlalfjkenkmojaaYa
import Derived.Test.YtlalfjkenkmojaaYb
import Derived.Test.YtlalfjkenkmojaaYc
import Derived.Test.YtlalfjkenkmojaaYd
import Derived.Test.YtlalfjkenkmojaaYe
import Derived.Test.YtlalfjkenkmojaaYf
namespace Go.Proofs.Ytlalfjkenkmojaa
open Go.RowKit

theorem capsLengths_law (v : Value) (xs : List Int) (k : Int) (w : World) (h : Ints w v xs) :
    Calls Try.prog 16 #[v, .int .i64 k] w fun e w' => e = .returned (.bool true) ∧ Below w.heap.size w w' := by
  cases hr : rulV xs with
  | false =>
    by_cases hk : k < 1 ∨ 7 < k
    · exact len_bad0 v xs w h hr k hk
    · obtain ⟨k, rfl⟩ := Int.eq_ofNat_of_zero_le (show 0 ≤ k by omega)
      exact len_bad1 v xs w h hr k (by omega) (by omega)
  | true =>
    obtain ⟨l, rfl, h1, h10, hb⟩ := rulV_nats hr
    have h : Nats w v l := h
    by_cases hk : k < 1 ∨ 7 < k
    · cases hl : rulB l with
      | false => exact len_no0 v l w h h1 h10 hb hl k hk
      | true =>
        by_cases hs : l.length ≤ 7
        · exact len_yes01 v l w h h1 h10 hb hl hs k hk
        · exact len_yes00 v l w h h1 h10 hb hl (by omega) k hk
    · obtain ⟨k, rfl⟩ := Int.eq_ofNat_of_zero_le (show 0 ≤ k by omega)
      cases hl : rulB l with
      | false => exact len_no1 v l w h h1 h10 hb hl k (by omega) (by omega)
      | true =>
        by_cases hs : l.length ≤ 7
        · exact len_yes11 v l w h h1 h10 hb hl hs k (by omega) (by omega)
        · exact len_yes10 v l w h h1 h10 hb hl (by omega) k (by omega) (by omega)
end Go.Proofs.Ytlalfjkenkmojaa
