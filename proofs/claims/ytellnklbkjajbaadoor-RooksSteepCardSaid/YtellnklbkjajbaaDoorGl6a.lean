/- stairs: what was reckoned over all heights of five rows; stairs: what was reckoned over all heights of six rows, first part -/
import Derived.Test.YtellnklbkjajbaaDoorGf
namespace Go.Proofs.YtellnklbkjajbaaDoor
theorem chk5 : (hts 5 5 0).all (chkG 5) = true := by decide +kernel
end Go.Proofs.YtellnklbkjajbaaDoor

namespace Go.Proofs.YtellnklbkjajbaaDoor
theorem chk6_00 : ((hts 6 4 0).map fun l => 0 :: 0 :: l).all (chkG 6) = true := by decide +kernel
end Go.Proofs.YtellnklbkjajbaaDoor
