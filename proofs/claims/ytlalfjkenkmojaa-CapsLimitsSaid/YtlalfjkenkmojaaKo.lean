/- short searches: sums, and progressions of length 3 with one or two colours -/
import Derived.Test.YtlalfjkenkmojaaKl
namespace Go.Proofs.Ytlalfjkenkmojaa
theorem noS1 : (firstN sumFree 1 2 []).isNone = true := by decide +kernel
theorem noS2 : (firstN sumFree 2 5 []).isNone = true := by decide +kernel
theorem noS3 : (firstN sumFree 3 14 []).isNone = true := by decide +kernel
theorem noT1 : (firstN (strideB 3) 1 3 []).isNone = true := by decide +kernel
theorem noT2 : (firstN (strideB 3) 2 9 []).isNone = true := by decide +kernel
theorem noU1 : (firstN (strideB 4) 1 4 []).isNone = true := by decide +kernel
end Go.Proofs.Ytlalfjkenkmojaa
