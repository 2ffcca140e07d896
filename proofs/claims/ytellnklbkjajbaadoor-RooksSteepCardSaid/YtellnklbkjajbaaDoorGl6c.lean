/- stairs: what was reckoned over all heights of six rows, third part -/
import Derived.Test.YtellnklbkjajbaaDoorGf
namespace Go.Proofs.YtellnklbkjajbaaDoor
theorem chk6_10 : ((hts 6 4 1).map fun l => 1 :: 1 :: l).all (chkG 6) = true := by decide +kernel
theorem chk6_11 : ((hts 6 4 2).map fun l => 1 :: 2 :: l).all (chkG 6) = true := by decide +kernel
theorem chk6_12 : ((hts 6 4 3).map fun l => 1 :: 3 :: l).all (chkG 6) = true := by decide +kernel
theorem chk6_13 : ((hts 6 4 4).map fun l => 1 :: 4 :: l).all (chkG 6) = true := by decide +kernel
theorem chk6_14 : ((hts 6 4 5).map fun l => 1 :: 5 :: l).all (chkG 6) = true := by decide +kernel
theorem chk6_15 : ((hts 6 4 6).map fun l => 1 :: 6 :: l).all (chkG 6) = true := by decide +kernel
end Go.Proofs.YtellnklbkjajbaaDoor
