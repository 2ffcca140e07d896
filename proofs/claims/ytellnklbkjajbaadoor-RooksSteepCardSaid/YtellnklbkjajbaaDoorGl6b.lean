/- stairs: what was reckoned over all heights of six rows, second part -/
import Derived.Test.YtellnklbkjajbaaDoorGf
namespace Go.Proofs.YtellnklbkjajbaaDoor
theorem chk6_01 : ((hts 6 4 1).map fun l => 0 :: 1 :: l).all (chkG 6) = true := by decide +kernel
theorem chk6_02 : ((hts 6 4 2).map fun l => 0 :: 2 :: l).all (chkG 6) = true := by decide +kernel
theorem chk6_03 : ((hts 6 4 3).map fun l => 0 :: 3 :: l).all (chkG 6) = true := by decide +kernel
theorem chk6_04 : ((hts 6 4 4).map fun l => 0 :: 4 :: l).all (chkG 6) = true := by decide +kernel
theorem chk6_05 : ((hts 6 4 5).map fun l => 0 :: 5 :: l).all (chkG 6) = true := by decide +kernel
theorem chk6_06 : ((hts 6 4 6).map fun l => 0 :: 6 :: l).all (chkG 6) = true := by decide +kernel
end Go.Proofs.YtellnklbkjajbaaDoor
