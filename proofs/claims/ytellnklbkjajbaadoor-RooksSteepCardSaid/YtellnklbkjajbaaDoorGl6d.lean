/- stairs: what was reckoned over all heights of six rows, fourth part -/
import Derived.Test.YtellnklbkjajbaaDoorGf
namespace Go.Proofs.YtellnklbkjajbaaDoor
theorem chk6_20 : ((hts 6 4 2).map fun l => 2 :: 2 :: l).all (chkG 6) = true := by decide +kernel
theorem chk6_21 : ((hts 6 4 3).map fun l => 2 :: 3 :: l).all (chkG 6) = true := by decide +kernel
theorem chk6_22 : ((hts 6 4 4).map fun l => 2 :: 4 :: l).all (chkG 6) = true := by decide +kernel
theorem chk6_23 : ((hts 6 4 5).map fun l => 2 :: 5 :: l).all (chkG 6) = true := by decide +kernel
theorem chk6_24 : ((hts 6 4 6).map fun l => 2 :: 6 :: l).all (chkG 6) = true := by decide +kernel
theorem chk6_30 : ((hts 6 4 3).map fun l => 3 :: 3 :: l).all (chkG 6) = true := by decide +kernel
theorem chk6_31 : ((hts 6 4 4).map fun l => 3 :: 4 :: l).all (chkG 6) = true := by decide +kernel
theorem chk6_32 : ((hts 6 4 5).map fun l => 3 :: 5 :: l).all (chkG 6) = true := by decide +kernel
theorem chk6_33 : ((hts 6 4 6).map fun l => 3 :: 6 :: l).all (chkG 6) = true := by decide +kernel
theorem chk6_40 : ((hts 6 4 4).map fun l => 4 :: 4 :: l).all (chkG 6) = true := by decide +kernel
theorem chk6_41 : ((hts 6 4 5).map fun l => 4 :: 5 :: l).all (chkG 6) = true := by decide +kernel
theorem chk6_42 : ((hts 6 4 6).map fun l => 4 :: 6 :: l).all (chkG 6) = true := by decide +kernel
theorem chk6_50 : ((hts 6 4 5).map fun l => 5 :: 5 :: l).all (chkG 6) = true := by decide +kernel
theorem chk6_51 : ((hts 6 4 6).map fun l => 5 :: 6 :: l).all (chkG 6) = true := by decide +kernel
theorem chk6_60 : ((hts 6 4 6).map fun l => 6 :: 6 :: l).all (chkG 6) = true := by decide +kernel
end Go.Proofs.YtellnklbkjajbaaDoor
