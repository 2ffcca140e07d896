/- no colouring of 27 numbers with 3 colours is without progressions -/
import Derived.Test.YtlalfjkenkmojaaKl
namespace Go.Proofs.Ytlalfjkenkmojaa
theorem noW27 : noW 27 0 0 0 0 0 0 = true := by decide +kernel
end Go.Proofs.Ytlalfjkenkmojaa
