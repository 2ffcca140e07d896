/-
  No cell of these rows narrows 'for every input' (looked for: loops, veiled, ifaces, maps, wideKeys, modest, calm, conditions, laid).
  DERIVED. THE GIVEN ROWS OF THIS SEAT. 16 by the template 'for every input the law returns true; each argument reads behind the call as it read before'; 0 by the template 'total and deterministic' (their statements: YtlnbodpdgebflaaTotals.lean).
  GIVEN WITH THE SEED: the statements are not yours to turn. If you find one false, say at which input.
  Laid BY PROGRAM, IN A SANDBOX (cutbox-rows.mjs): the forced cells as the released guide's own fill.sh prints them over the translation 2fb338d058e02c42… (all of the seat's roots in one cut). By AI agents, Wed Nov 11 2026. No macro, syntax, notation, axiom, sorry.
-/
import Derived.Test.YtlnbodpdgebflaaChecked
import GoSem.Claim
import GoSem.ClaimJoined
import GoSem.ClaimMapViews
import Derived.JoinedTies
import Derived.KernelRfl
namespace Go.Proofs.Ytlnbodpdgebflaa
/- THE CELL 'sum', in the pinned program and in every row, IS THE sha256 OF THE DUMP (.gsa) THAT YtlnbodpdgebflaaProg.lean LOADS. Nothing in Lean hashes anything: it is a label: what it is worth is what the hold of that sum in a sandbox is worth. -/
noncomputable def Try.pinned : Pinned := { name := "ytlnbodpdgebflaa", sum := "2fb338d058e02c42a8fbada693a2782cea50a55f0d2ed74058e2c631607180e9", checked := Try.checked }
namespace Rows
def none {H : Type} : Left H := { results := [], args := [] }

/-- 'corsagelaw02.MirrorWords': WHATEVER THE INPUT: true; the input reads as it did. -/
def mirrorWordsSpec : ChangeSpec := { name := "mirrorWords", fn := fun _ => fun
  | [d1, d2] => { results := [.lit (.bool true)], args := [d1, d2] }
  | _ => none }
def mirrorWordsRow : OpenClaim := { program := "ytlnbodpdgebflaa", sum := "2fb338d058e02c42a8fbada693a2782cea50a55f0d2ed74058e2c631607180e9", func := "corsage/corsagelaw02.MirrorWords", spec := "mirrorWords", unfollowed := true, recurses := true, plainKeys := false, apart := false }
def MirrorWordsSaid : Prop := mirrorWordsRow.holds Try.pinned (OpenSpec.ofChange mirrorWordsSpec)

/-- ITS FALSE NEIGHBOUR: 'it returns false'. Refute it at one input. -/
def mirrorWordsWrong : ChangeSpec := { name := "mirrorWords", fn := fun _ => fun
  | [d1, d2] => { results := [.lit (.bool false)], args := [d1, d2] }
  | _ => none }
def MirrorWordsWrongFalsely : Prop := mirrorWordsRow.holds Try.pinned (OpenSpec.ofChange mirrorWordsWrong)

/-- 'corsagelaw02.MirrorTimes': WHATEVER THE INPUT: true; the input reads as it did. -/
def mirrorTimesSpec : ChangeSpec := { name := "mirrorTimes", fn := fun _ => fun
  | [d1, d2, d3] => { results := [.lit (.bool true)], args := [d1, d2, d3] }
  | _ => none }
def mirrorTimesRow : OpenClaim := { program := "ytlnbodpdgebflaa", sum := "2fb338d058e02c42a8fbada693a2782cea50a55f0d2ed74058e2c631607180e9", func := "corsage/corsagelaw02.MirrorTimes", spec := "mirrorTimes", plainKeys := false, apart := false }
def MirrorTimesSaid : Prop := mirrorTimesRow.holds Try.pinned (OpenSpec.ofChange mirrorTimesSpec)

/-- ITS FALSE NEIGHBOUR: 'it returns false'. Refute it at one input. -/
def mirrorTimesWrong : ChangeSpec := { name := "mirrorTimes", fn := fun _ => fun
  | [d1, d2, d3] => { results := [.lit (.bool false)], args := [d1, d2, d3] }
  | _ => none }
def MirrorTimesWrongFalsely : Prop := mirrorTimesRow.holds Try.pinned (OpenSpec.ofChange mirrorTimesWrong)

/-- 'corsagelaw02.MirrorAll': WHATEVER THE INPUT: true; the input reads as it did. -/
def mirrorAllSpec : ChangeSpec := { name := "mirrorAll", fn := fun _ => fun
  | [d] => { results := [.lit (.bool true)], args := [d] }
  | _ => none }
def mirrorAllRow : OpenClaim := { program := "ytlnbodpdgebflaa", sum := "2fb338d058e02c42a8fbada693a2782cea50a55f0d2ed74058e2c631607180e9", func := "corsage/corsagelaw02.MirrorAll", spec := "mirrorAll", unfollowed := true, recurses := true, plainKeys := false, apart := false }
def MirrorAllSaid : Prop := mirrorAllRow.holds Try.pinned (OpenSpec.ofChange mirrorAllSpec)

/-- ITS FALSE NEIGHBOUR: 'it returns false'. Refute it at one input. -/
def mirrorAllWrong : ChangeSpec := { name := "mirrorAll", fn := fun _ => fun
  | [d] => { results := [.lit (.bool false)], args := [d] }
  | _ => none }
def MirrorAllWrongFalsely : Prop := mirrorAllRow.holds Try.pinned (OpenSpec.ofChange mirrorAllWrong)

/-- 'corsagelaw02.MirrorFalls': WHATEVER THE INPUT: true; the input reads as it did. -/
def mirrorFallsSpec : ChangeSpec := { name := "mirrorFalls", fn := fun _ => fun
  | [d1, d2, d3] => { results := [.lit (.bool true)], args := [d1, d2, d3] }
  | _ => none }
def mirrorFallsRow : OpenClaim := { program := "ytlnbodpdgebflaa", sum := "2fb338d058e02c42a8fbada693a2782cea50a55f0d2ed74058e2c631607180e9", func := "corsage/corsagelaw02.MirrorFalls", spec := "mirrorFalls", plainKeys := false, apart := false }
def MirrorFallsSaid : Prop := mirrorFallsRow.holds Try.pinned (OpenSpec.ofChange mirrorFallsSpec)

/-- ITS FALSE NEIGHBOUR: 'it returns false'. Refute it at one input. -/
def mirrorFallsWrong : ChangeSpec := { name := "mirrorFalls", fn := fun _ => fun
  | [d1, d2, d3] => { results := [.lit (.bool false)], args := [d1, d2, d3] }
  | _ => none }
def MirrorFallsWrongFalsely : Prop := mirrorFallsRow.holds Try.pinned (OpenSpec.ofChange mirrorFallsWrong)

/-- 'corsagelaw02.MirrorBelow': WHATEVER THE INPUT: true; the input reads as it did. -/
def mirrorBelowSpec : ChangeSpec := { name := "mirrorBelow", fn := fun _ => fun
  | [d1, d2, d3] => { results := [.lit (.bool true)], args := [d1, d2, d3] }
  | _ => none }
def mirrorBelowRow : OpenClaim := { program := "ytlnbodpdgebflaa", sum := "2fb338d058e02c42a8fbada693a2782cea50a55f0d2ed74058e2c631607180e9", func := "corsage/corsagelaw02.MirrorBelow", spec := "mirrorBelow", unfollowed := true, recurses := true, plainKeys := false, apart := false }
def MirrorBelowSaid : Prop := mirrorBelowRow.holds Try.pinned (OpenSpec.ofChange mirrorBelowSpec)

/-- ITS FALSE NEIGHBOUR: 'it returns false'. Refute it at one input. -/
def mirrorBelowWrong : ChangeSpec := { name := "mirrorBelow", fn := fun _ => fun
  | [d1, d2, d3] => { results := [.lit (.bool false)], args := [d1, d2, d3] }
  | _ => none }
def MirrorBelowWrongFalsely : Prop := mirrorBelowRow.holds Try.pinned (OpenSpec.ofChange mirrorBelowWrong)

/-- 'corsagelaw02.MirrorCosets': WHATEVER THE INPUT: true; the input reads as it did. -/
def mirrorCosetsSpec : ChangeSpec := { name := "mirrorCosets", fn := fun _ => fun
  | [d1, d2, d3] => { results := [.lit (.bool true)], args := [d1, d2, d3] }
  | _ => none }
def mirrorCosetsRow : OpenClaim := { program := "ytlnbodpdgebflaa", sum := "2fb338d058e02c42a8fbada693a2782cea50a55f0d2ed74058e2c631607180e9", func := "corsage/corsagelaw02.MirrorCosets", spec := "mirrorCosets", recurses := true, plainKeys := false, apart := false }
def MirrorCosetsSaid : Prop := mirrorCosetsRow.holds Try.pinned (OpenSpec.ofChange mirrorCosetsSpec)

/-- ITS FALSE NEIGHBOUR: 'it returns false'. Refute it at one input. -/
def mirrorCosetsWrong : ChangeSpec := { name := "mirrorCosets", fn := fun _ => fun
  | [d1, d2, d3] => { results := [.lit (.bool false)], args := [d1, d2, d3] }
  | _ => none }
def MirrorCosetsWrongFalsely : Prop := mirrorCosetsRow.holds Try.pinned (OpenSpec.ofChange mirrorCosetsWrong)

/-- 'corsagelaw02.MirrorPolynomials': WHATEVER THE INPUT: true; the input reads as it did. -/
def mirrorPolynomialsSpec : ChangeSpec := { name := "mirrorPolynomials", fn := fun _ => fun
  | [d1, d2, d3] => { results := [.lit (.bool true)], args := [d1, d2, d3] }
  | _ => none }
def mirrorPolynomialsRow : OpenClaim := { program := "ytlnbodpdgebflaa", sum := "2fb338d058e02c42a8fbada693a2782cea50a55f0d2ed74058e2c631607180e9", func := "corsage/corsagelaw02.MirrorPolynomials", spec := "mirrorPolynomials", unfollowed := true, recurses := true, plainKeys := false, apart := false }
def MirrorPolynomialsSaid : Prop := mirrorPolynomialsRow.holds Try.pinned (OpenSpec.ofChange mirrorPolynomialsSpec)

/-- ITS FALSE NEIGHBOUR: 'it returns false'. Refute it at one input. -/
def mirrorPolynomialsWrong : ChangeSpec := { name := "mirrorPolynomials", fn := fun _ => fun
  | [d1, d2, d3] => { results := [.lit (.bool false)], args := [d1, d2, d3] }
  | _ => none }
def MirrorPolynomialsWrongFalsely : Prop := mirrorPolynomialsRow.holds Try.pinned (OpenSpec.ofChange mirrorPolynomialsWrong)

/-- 'corsagelaw02.MirrorLetters': WHATEVER THE INPUT: true; the input reads as it did. -/
def mirrorLettersSpec : ChangeSpec := { name := "mirrorLetters", fn := fun _ => fun
  | [d1, d2, d3] => { results := [.lit (.bool true)], args := [d1, d2, d3] }
  | _ => none }
def mirrorLettersRow : OpenClaim := { program := "ytlnbodpdgebflaa", sum := "2fb338d058e02c42a8fbada693a2782cea50a55f0d2ed74058e2c631607180e9", func := "corsage/corsagelaw02.MirrorLetters", spec := "mirrorLetters", unfollowed := true, recurses := true, plainKeys := false, apart := false }
def MirrorLettersSaid : Prop := mirrorLettersRow.holds Try.pinned (OpenSpec.ofChange mirrorLettersSpec)

/-- ITS FALSE NEIGHBOUR: 'it returns false'. Refute it at one input. -/
def mirrorLettersWrong : ChangeSpec := { name := "mirrorLetters", fn := fun _ => fun
  | [d1, d2, d3] => { results := [.lit (.bool false)], args := [d1, d2, d3] }
  | _ => none }
def MirrorLettersWrongFalsely : Prop := mirrorLettersRow.holds Try.pinned (OpenSpec.ofChange mirrorLettersWrong)

/-- 'corsagelaw02.MirrorCounts': WHATEVER THE INPUT: true; the input reads as it did. -/
def mirrorCountsSpec : ChangeSpec := { name := "mirrorCounts", fn := fun _ => fun
  | [d] => { results := [.lit (.bool true)], args := [d] }
  | _ => none }
def mirrorCountsRow : OpenClaim := { program := "ytlnbodpdgebflaa", sum := "2fb338d058e02c42a8fbada693a2782cea50a55f0d2ed74058e2c631607180e9", func := "corsage/corsagelaw02.MirrorCounts", spec := "mirrorCounts", plainKeys := false, apart := false }
def MirrorCountsSaid : Prop := mirrorCountsRow.holds Try.pinned (OpenSpec.ofChange mirrorCountsSpec)

/-- ITS FALSE NEIGHBOUR: 'it returns false'. Refute it at one input. -/
def mirrorCountsWrong : ChangeSpec := { name := "mirrorCounts", fn := fun _ => fun
  | [d] => { results := [.lit (.bool false)], args := [d] }
  | _ => none }
def MirrorCountsWrongFalsely : Prop := mirrorCountsRow.holds Try.pinned (OpenSpec.ofChange mirrorCountsWrong)

/-- 'corsagelaw02.MirrorOrder': WHATEVER THE INPUT: true; the input reads as it did. -/
def mirrorOrderSpec : ChangeSpec := { name := "mirrorOrder", fn := fun _ => fun
  | [d1, d2, d3, d4] => { results := [.lit (.bool true)], args := [d1, d2, d3, d4] }
  | _ => none }
def mirrorOrderRow : OpenClaim := { program := "ytlnbodpdgebflaa", sum := "2fb338d058e02c42a8fbada693a2782cea50a55f0d2ed74058e2c631607180e9", func := "corsage/corsagelaw02.MirrorOrder", spec := "mirrorOrder", unfollowed := true, recurses := true, plainKeys := false, apart := false }
def MirrorOrderSaid : Prop := mirrorOrderRow.holds Try.pinned (OpenSpec.ofChange mirrorOrderSpec)

/-- ITS FALSE NEIGHBOUR: 'it returns false'. Refute it at one input. -/
def mirrorOrderWrong : ChangeSpec := { name := "mirrorOrder", fn := fun _ => fun
  | [d1, d2, d3, d4] => { results := [.lit (.bool false)], args := [d1, d2, d3, d4] }
  | _ => none }
def MirrorOrderWrongFalsely : Prop := mirrorOrderRow.holds Try.pinned (OpenSpec.ofChange mirrorOrderWrong)

/-- 'corsagelaw02.MirrorDiamonds': WHATEVER THE INPUT: true; the input reads as it did. -/
def mirrorDiamondsSpec : ChangeSpec := { name := "mirrorDiamonds", fn := fun _ => fun
  | [d1, d2] => { results := [.lit (.bool true)], args := [d1, d2] }
  | _ => none }
def mirrorDiamondsRow : OpenClaim := { program := "ytlnbodpdgebflaa", sum := "2fb338d058e02c42a8fbada693a2782cea50a55f0d2ed74058e2c631607180e9", func := "corsage/corsagelaw02.MirrorDiamonds", spec := "mirrorDiamonds", unfollowed := true, recurses := true, plainKeys := false, apart := false }
def MirrorDiamondsSaid : Prop := mirrorDiamondsRow.holds Try.pinned (OpenSpec.ofChange mirrorDiamondsSpec)

/-- ITS FALSE NEIGHBOUR: 'it returns false'. Refute it at one input. -/
def mirrorDiamondsWrong : ChangeSpec := { name := "mirrorDiamonds", fn := fun _ => fun
  | [d1, d2] => { results := [.lit (.bool false)], args := [d1, d2] }
  | _ => none }
def MirrorDiamondsWrongFalsely : Prop := mirrorDiamondsRow.holds Try.pinned (OpenSpec.ofChange mirrorDiamondsWrong)

/-- 'corsagelaw02.MirrorLeaves': WHATEVER THE INPUT: true; the input reads as it did. -/
def mirrorLeavesSpec : ChangeSpec := { name := "mirrorLeaves", fn := fun _ => fun
  | [d1, d2, d3] => { results := [.lit (.bool true)], args := [d1, d2, d3] }
  | _ => none }
def mirrorLeavesRow : OpenClaim := { program := "ytlnbodpdgebflaa", sum := "2fb338d058e02c42a8fbada693a2782cea50a55f0d2ed74058e2c631607180e9", func := "corsage/corsagelaw02.MirrorLeaves", spec := "mirrorLeaves", unfollowed := true, recurses := true, plainKeys := false, apart := false }
def MirrorLeavesSaid : Prop := mirrorLeavesRow.holds Try.pinned (OpenSpec.ofChange mirrorLeavesSpec)

/-- ITS FALSE NEIGHBOUR: 'it returns false'. Refute it at one input. -/
def mirrorLeavesWrong : ChangeSpec := { name := "mirrorLeaves", fn := fun _ => fun
  | [d1, d2, d3] => { results := [.lit (.bool false)], args := [d1, d2, d3] }
  | _ => none }
def MirrorLeavesWrongFalsely : Prop := mirrorLeavesRow.holds Try.pinned (OpenSpec.ofChange mirrorLeavesWrong)

/-- 'corsagelaw02.MirrorParts': WHATEVER THE INPUT: true; the input reads as it did. -/
def mirrorPartsSpec : ChangeSpec := { name := "mirrorParts", fn := fun _ => fun
  | [d1, d2, d3] => { results := [.lit (.bool true)], args := [d1, d2, d3] }
  | _ => none }
def mirrorPartsRow : OpenClaim := { program := "ytlnbodpdgebflaa", sum := "2fb338d058e02c42a8fbada693a2782cea50a55f0d2ed74058e2c631607180e9", func := "corsage/corsagelaw02.MirrorParts", spec := "mirrorParts", recurses := true, plainKeys := false, apart := false }
def MirrorPartsSaid : Prop := mirrorPartsRow.holds Try.pinned (OpenSpec.ofChange mirrorPartsSpec)

/-- ITS FALSE NEIGHBOUR: 'it returns false'. Refute it at one input. -/
def mirrorPartsWrong : ChangeSpec := { name := "mirrorParts", fn := fun _ => fun
  | [d1, d2, d3] => { results := [.lit (.bool false)], args := [d1, d2, d3] }
  | _ => none }
def MirrorPartsWrongFalsely : Prop := mirrorPartsRow.holds Try.pinned (OpenSpec.ofChange mirrorPartsWrong)

/-- 'corsagelaw02.MirrorSums': WHATEVER THE INPUT: true; the input reads as it did. -/
def mirrorSumsSpec : ChangeSpec := { name := "mirrorSums", fn := fun _ => fun
  | [d1, d2, d3] => { results := [.lit (.bool true)], args := [d1, d2, d3] }
  | _ => none }
def mirrorSumsRow : OpenClaim := { program := "ytlnbodpdgebflaa", sum := "2fb338d058e02c42a8fbada693a2782cea50a55f0d2ed74058e2c631607180e9", func := "corsage/corsagelaw02.MirrorSums", spec := "mirrorSums", unfollowed := true, recurses := true, plainKeys := false, apart := false }
def MirrorSumsSaid : Prop := mirrorSumsRow.holds Try.pinned (OpenSpec.ofChange mirrorSumsSpec)

/-- ITS FALSE NEIGHBOUR: 'it returns false'. Refute it at one input. -/
def mirrorSumsWrong : ChangeSpec := { name := "mirrorSums", fn := fun _ => fun
  | [d1, d2, d3] => { results := [.lit (.bool false)], args := [d1, d2, d3] }
  | _ => none }
def MirrorSumsWrongFalsely : Prop := mirrorSumsRow.holds Try.pinned (OpenSpec.ofChange mirrorSumsWrong)

/-- 'corsagetop.TopRobinson': WHATEVER THE INPUT: true; the input reads as it did. -/
def topRobinsonSpec : ChangeSpec := { name := "topRobinson", fn := fun _ => fun
  | [d] => { results := [.lit (.bool true)], args := [d] }
  | _ => none }
def topRobinsonRow : OpenClaim := { program := "ytlnbodpdgebflaa", sum := "2fb338d058e02c42a8fbada693a2782cea50a55f0d2ed74058e2c631607180e9", func := "corsage/corsagetop.TopRobinson", spec := "topRobinson", unfollowed := true, recurses := true, plainKeys := false, apart := false }
def TopRobinsonSaid : Prop := topRobinsonRow.holds Try.pinned (OpenSpec.ofChange topRobinsonSpec)

/-- ITS FALSE NEIGHBOUR: 'it returns false'. Refute it at one input. -/
def topRobinsonWrong : ChangeSpec := { name := "topRobinson", fn := fun _ => fun
  | [d] => { results := [.lit (.bool false)], args := [d] }
  | _ => none }
def TopRobinsonWrongFalsely : Prop := topRobinsonRow.holds Try.pinned (OpenSpec.ofChange topRobinsonWrong)

/-- 'corsagetop.TopFalls': WHATEVER THE INPUT: true; the input reads as it did. -/
def topFallsSpec : ChangeSpec := { name := "topFalls", fn := fun _ => fun
  | [d1, d2] => { results := [.lit (.bool true)], args := [d1, d2] }
  | _ => none }
def topFallsRow : OpenClaim := { program := "ytlnbodpdgebflaa", sum := "2fb338d058e02c42a8fbada693a2782cea50a55f0d2ed74058e2c631607180e9", func := "corsage/corsagetop.TopFalls", spec := "topFalls", unfollowed := true, recurses := true, plainKeys := false, apart := false }
def TopFallsSaid : Prop := topFallsRow.holds Try.pinned (OpenSpec.ofChange topFallsSpec)

/-- ITS FALSE NEIGHBOUR: 'it returns false'. Refute it at one input. -/
def topFallsWrong : ChangeSpec := { name := "topFalls", fn := fun _ => fun
  | [d1, d2] => { results := [.lit (.bool false)], args := [d1, d2] }
  | _ => none }
def TopFallsWrongFalsely : Prop := topFallsRow.holds Try.pinned (OpenSpec.ofChange topFallsWrong)

/- THE SECOND FORM. 'bulk': how many values and letters a reading holds, each counted each time it is reached (what is shared counts as often as it is met; a slice's spare places count too). A statement '..UptoSaid' is the law's where the arguments, and the package variables that the reading takes, are together of bulk at most 1048576: NARROWER than '..Said'. Prove '..Said' where nothing that the law and all that it calls make is longer than what came in: it says more and counts as full. Else prove '..UptoSaid'. A law counts once. -/
mutual
def uptoBulk {H : Type} : DataW H → Nat
  | .lit (.string bytes) => bytes.length + 1
  | .lit _ => 1
  | .nil => 1
  | .ptr d => uptoBulk d + 1
  | .slice elems spare => uptoBulkAll elems + uptoBulkAll spare + 1
  | .agg parts => uptoBulkAll parts + 1
  | .iface _ d => uptoBulk d + 1
  | .map entries => uptoBulkEntries entries + 1
  | .held _ => 1
def uptoBulkAll {H : Type} : List (DataW H) → Nat
  | [] => 0
  | d :: r => uptoBulk d + uptoBulkAll r
def uptoBulkEntries {H : Type} : List (Lit × DataW H) → Nat
  | [] => 0
  | x :: r => uptoBulkEntry x + uptoBulkEntries r
def uptoBulkEntry {H : Type} : Lit × DataW H → Nat
  | (.string bytes, d) => bytes.length + uptoBulk d + 1
  | (_, d) => uptoBulk d + 1
 end
def uptoSmall : (H : Type) → List (DataW H) → Bool := fun _ ds => decide (uptoBulkAll ds ≤ 1048576)
def OpenSpec.upto (s : _root_.Go.ChangeSpec) : _root_.Go.OpenSpec := { _root_.Go.OpenSpec.ofChange s with cond := some uptoSmall }

/-- 'corsagelaw02.MirrorWords', WHERE WHAT IT READS IS OF BULK AT MOST 1048576: true; the input reads as it did. -/
def mirrorWordsUptoRow : OpenClaim := { program := "ytlnbodpdgebflaa", sum := "2fb338d058e02c42a8fbada693a2782cea50a55f0d2ed74058e2c631607180e9", func := "corsage/corsagelaw02.MirrorWords", spec := "mirrorWords", unfollowed := true, recurses := true, plainKeys := false, apart := false, narrowed := true }
def MirrorWordsUptoSaid : Prop := mirrorWordsUptoRow.holds Try.pinned (OpenSpec.upto mirrorWordsSpec)

/-- 'corsagelaw02.MirrorTimes', WHERE WHAT IT READS IS OF BULK AT MOST 1048576: true; the input reads as it did. -/
def mirrorTimesUptoRow : OpenClaim := { program := "ytlnbodpdgebflaa", sum := "2fb338d058e02c42a8fbada693a2782cea50a55f0d2ed74058e2c631607180e9", func := "corsage/corsagelaw02.MirrorTimes", spec := "mirrorTimes", plainKeys := false, apart := false, narrowed := true }
def MirrorTimesUptoSaid : Prop := mirrorTimesUptoRow.holds Try.pinned (OpenSpec.upto mirrorTimesSpec)

/-- 'corsagelaw02.MirrorAll', WHERE WHAT IT READS IS OF BULK AT MOST 1048576: true; the input reads as it did. -/
def mirrorAllUptoRow : OpenClaim := { program := "ytlnbodpdgebflaa", sum := "2fb338d058e02c42a8fbada693a2782cea50a55f0d2ed74058e2c631607180e9", func := "corsage/corsagelaw02.MirrorAll", spec := "mirrorAll", unfollowed := true, recurses := true, plainKeys := false, apart := false, narrowed := true }
def MirrorAllUptoSaid : Prop := mirrorAllUptoRow.holds Try.pinned (OpenSpec.upto mirrorAllSpec)

/-- 'corsagelaw02.MirrorFalls', WHERE WHAT IT READS IS OF BULK AT MOST 1048576: true; the input reads as it did. -/
def mirrorFallsUptoRow : OpenClaim := { program := "ytlnbodpdgebflaa", sum := "2fb338d058e02c42a8fbada693a2782cea50a55f0d2ed74058e2c631607180e9", func := "corsage/corsagelaw02.MirrorFalls", spec := "mirrorFalls", plainKeys := false, apart := false, narrowed := true }
def MirrorFallsUptoSaid : Prop := mirrorFallsUptoRow.holds Try.pinned (OpenSpec.upto mirrorFallsSpec)

/-- 'corsagelaw02.MirrorBelow', WHERE WHAT IT READS IS OF BULK AT MOST 1048576: true; the input reads as it did. -/
def mirrorBelowUptoRow : OpenClaim := { program := "ytlnbodpdgebflaa", sum := "2fb338d058e02c42a8fbada693a2782cea50a55f0d2ed74058e2c631607180e9", func := "corsage/corsagelaw02.MirrorBelow", spec := "mirrorBelow", unfollowed := true, recurses := true, plainKeys := false, apart := false, narrowed := true }
def MirrorBelowUptoSaid : Prop := mirrorBelowUptoRow.holds Try.pinned (OpenSpec.upto mirrorBelowSpec)

/-- 'corsagelaw02.MirrorCosets', WHERE WHAT IT READS IS OF BULK AT MOST 1048576: true; the input reads as it did. -/
def mirrorCosetsUptoRow : OpenClaim := { program := "ytlnbodpdgebflaa", sum := "2fb338d058e02c42a8fbada693a2782cea50a55f0d2ed74058e2c631607180e9", func := "corsage/corsagelaw02.MirrorCosets", spec := "mirrorCosets", recurses := true, plainKeys := false, apart := false, narrowed := true }
def MirrorCosetsUptoSaid : Prop := mirrorCosetsUptoRow.holds Try.pinned (OpenSpec.upto mirrorCosetsSpec)

/-- 'corsagelaw02.MirrorPolynomials', WHERE WHAT IT READS IS OF BULK AT MOST 1048576: true; the input reads as it did. -/
def mirrorPolynomialsUptoRow : OpenClaim := { program := "ytlnbodpdgebflaa", sum := "2fb338d058e02c42a8fbada693a2782cea50a55f0d2ed74058e2c631607180e9", func := "corsage/corsagelaw02.MirrorPolynomials", spec := "mirrorPolynomials", unfollowed := true, recurses := true, plainKeys := false, apart := false, narrowed := true }
def MirrorPolynomialsUptoSaid : Prop := mirrorPolynomialsUptoRow.holds Try.pinned (OpenSpec.upto mirrorPolynomialsSpec)

/-- 'corsagelaw02.MirrorLetters', WHERE WHAT IT READS IS OF BULK AT MOST 1048576: true; the input reads as it did. -/
def mirrorLettersUptoRow : OpenClaim := { program := "ytlnbodpdgebflaa", sum := "2fb338d058e02c42a8fbada693a2782cea50a55f0d2ed74058e2c631607180e9", func := "corsage/corsagelaw02.MirrorLetters", spec := "mirrorLetters", unfollowed := true, recurses := true, plainKeys := false, apart := false, narrowed := true }
def MirrorLettersUptoSaid : Prop := mirrorLettersUptoRow.holds Try.pinned (OpenSpec.upto mirrorLettersSpec)

/-- 'corsagelaw02.MirrorCounts', WHERE WHAT IT READS IS OF BULK AT MOST 1048576: true; the input reads as it did. -/
def mirrorCountsUptoRow : OpenClaim := { program := "ytlnbodpdgebflaa", sum := "2fb338d058e02c42a8fbada693a2782cea50a55f0d2ed74058e2c631607180e9", func := "corsage/corsagelaw02.MirrorCounts", spec := "mirrorCounts", plainKeys := false, apart := false, narrowed := true }
def MirrorCountsUptoSaid : Prop := mirrorCountsUptoRow.holds Try.pinned (OpenSpec.upto mirrorCountsSpec)

/-- 'corsagelaw02.MirrorOrder', WHERE WHAT IT READS IS OF BULK AT MOST 1048576: true; the input reads as it did. -/
def mirrorOrderUptoRow : OpenClaim := { program := "ytlnbodpdgebflaa", sum := "2fb338d058e02c42a8fbada693a2782cea50a55f0d2ed74058e2c631607180e9", func := "corsage/corsagelaw02.MirrorOrder", spec := "mirrorOrder", unfollowed := true, recurses := true, plainKeys := false, apart := false, narrowed := true }
def MirrorOrderUptoSaid : Prop := mirrorOrderUptoRow.holds Try.pinned (OpenSpec.upto mirrorOrderSpec)

/-- 'corsagelaw02.MirrorDiamonds', WHERE WHAT IT READS IS OF BULK AT MOST 1048576: true; the input reads as it did. -/
def mirrorDiamondsUptoRow : OpenClaim := { program := "ytlnbodpdgebflaa", sum := "2fb338d058e02c42a8fbada693a2782cea50a55f0d2ed74058e2c631607180e9", func := "corsage/corsagelaw02.MirrorDiamonds", spec := "mirrorDiamonds", unfollowed := true, recurses := true, plainKeys := false, apart := false, narrowed := true }
def MirrorDiamondsUptoSaid : Prop := mirrorDiamondsUptoRow.holds Try.pinned (OpenSpec.upto mirrorDiamondsSpec)

/-- 'corsagelaw02.MirrorLeaves', WHERE WHAT IT READS IS OF BULK AT MOST 1048576: true; the input reads as it did. -/
def mirrorLeavesUptoRow : OpenClaim := { program := "ytlnbodpdgebflaa", sum := "2fb338d058e02c42a8fbada693a2782cea50a55f0d2ed74058e2c631607180e9", func := "corsage/corsagelaw02.MirrorLeaves", spec := "mirrorLeaves", unfollowed := true, recurses := true, plainKeys := false, apart := false, narrowed := true }
def MirrorLeavesUptoSaid : Prop := mirrorLeavesUptoRow.holds Try.pinned (OpenSpec.upto mirrorLeavesSpec)

/-- 'corsagelaw02.MirrorParts', WHERE WHAT IT READS IS OF BULK AT MOST 1048576: true; the input reads as it did. -/
def mirrorPartsUptoRow : OpenClaim := { program := "ytlnbodpdgebflaa", sum := "2fb338d058e02c42a8fbada693a2782cea50a55f0d2ed74058e2c631607180e9", func := "corsage/corsagelaw02.MirrorParts", spec := "mirrorParts", recurses := true, plainKeys := false, apart := false, narrowed := true }
def MirrorPartsUptoSaid : Prop := mirrorPartsUptoRow.holds Try.pinned (OpenSpec.upto mirrorPartsSpec)

/-- 'corsagelaw02.MirrorSums', WHERE WHAT IT READS IS OF BULK AT MOST 1048576: true; the input reads as it did. -/
def mirrorSumsUptoRow : OpenClaim := { program := "ytlnbodpdgebflaa", sum := "2fb338d058e02c42a8fbada693a2782cea50a55f0d2ed74058e2c631607180e9", func := "corsage/corsagelaw02.MirrorSums", spec := "mirrorSums", unfollowed := true, recurses := true, plainKeys := false, apart := false, narrowed := true }
def MirrorSumsUptoSaid : Prop := mirrorSumsUptoRow.holds Try.pinned (OpenSpec.upto mirrorSumsSpec)

/-- 'corsagetop.TopRobinson', WHERE WHAT IT READS IS OF BULK AT MOST 1048576: true; the input reads as it did. -/
def topRobinsonUptoRow : OpenClaim := { program := "ytlnbodpdgebflaa", sum := "2fb338d058e02c42a8fbada693a2782cea50a55f0d2ed74058e2c631607180e9", func := "corsage/corsagetop.TopRobinson", spec := "topRobinson", unfollowed := true, recurses := true, plainKeys := false, apart := false, narrowed := true }
def TopRobinsonUptoSaid : Prop := topRobinsonUptoRow.holds Try.pinned (OpenSpec.upto topRobinsonSpec)

/-- 'corsagetop.TopFalls', WHERE WHAT IT READS IS OF BULK AT MOST 1048576: true; the input reads as it did. -/
def topFallsUptoRow : OpenClaim := { program := "ytlnbodpdgebflaa", sum := "2fb338d058e02c42a8fbada693a2782cea50a55f0d2ed74058e2c631607180e9", func := "corsage/corsagetop.TopFalls", spec := "topFalls", unfollowed := true, recurses := true, plainKeys := false, apart := false, narrowed := true }
def TopFallsUptoSaid : Prop := topFallsUptoRow.holds Try.pinned (OpenSpec.upto topFallsSpec)

end Rows
end Go.Proofs.Ytlnbodpdgebflaa
