/- no colouring of 35 numbers with 2 colours is without progressions of length 4; sums -/
import Derived.Test.YtlalfjkenkmojaaKl
namespace Go.Proofs.Ytlalfjkenkmojaa
theorem noV35 : noV 35 0 0 = true := by decide +kernel
end Go.Proofs.Ytlalfjkenkmojaa
