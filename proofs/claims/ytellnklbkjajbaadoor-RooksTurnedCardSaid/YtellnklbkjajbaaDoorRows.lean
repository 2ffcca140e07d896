/-
  NARROWER THAN 'FOR EVERY INPUT', by the rows' own cells (each row's printed sentence says how): RooksCounts: laid · RooksAvoids: laid · RooksLess: laid · RooksStairs: laid · RooksSteep: laid · RooksGuests: laid · RooksCut: laid · RooksHits: laid · RooksEither: laid · RooksFactors: laid · RooksTurned: laid · TopEuler: laid.
  DERIVED. THE GIVEN ROWS OF THIS SEAT. 12 by the template 'for every input the law returns true; each argument reads behind the call as it read before'; 0 by the template 'total and deterministic' (their statements: YtellnklbkjajbaaDoorTotals.lean).
  GIVEN WITH THE SEED: the statements are not yours to turn. If you find one false, say at which input.
  Laid BY PROGRAM, IN A SANDBOX (cutbox-rows.mjs): the forced cells as the released guide's own fill.sh prints them over the translation 6fd09b1629478dbe… (all of the seat's roots in one cut). By AI agents, Wed Nov 11 2026. No macro, syntax, notation, axiom, sorry.
-/
import Derived.Test.YtellnklbkjajbaaDoorChecked
import GoSem.Claim
import GoSem.ClaimJoined
import GoSem.ClaimMapViews
import Derived.JoinedTies
import Derived.KernelRfl
namespace Go.Proofs.YtellnklbkjajbaaDoor
/- THE CELL 'sum', in the pinned program and in every row, IS THE sha256 OF THE DUMP (.gsa) THAT YtellnklbkjajbaaDoorProg.lean LOADS. Nothing in Lean hashes anything: it is a label: what it is worth is what the hold of that sum in a sandbox is worth. -/
noncomputable def Tryd.pinned : Pinned := { name := "ytellnklbkjajbaadoor", sum := "6fd09b1629478dbeac3f1de8df037f9838a850b8ff58c3216a4eabf03d1510f4", checked := Tryd.checked }
namespace Rows
def none {H : Type} : Left H := { results := [], args := [] }

/- WHAT THE LISTED PACKAGE-LEVEL VARIABLES READ AS WHEN THE CALL BEGINS. Each datum BY PROGRAM (the guide's laid-datum.mjs) off the statement by which the dump's own 'gosem.cut.vars' lays the variable. In a bare row this is a premise. The card (YtellnklbkjajbaaDoorCards.lean) ties it to the program's text. -/
def laid_math_bits_deBruijn32tab {H : Type} : DataW H := .agg [.lit (.int .u8 0), .lit (.int .u8 1), .lit (.int .u8 28), .lit (.int .u8 2), .lit (.int .u8 29), .lit (.int .u8 14), .lit (.int .u8 24), .lit (.int .u8 3), .lit (.int .u8 30), .lit (.int .u8 22), .lit (.int .u8 20), .lit (.int .u8 15), .lit (.int .u8 25), .lit (.int .u8 17), .lit (.int .u8 4), .lit (.int .u8 8), .lit (.int .u8 31), .lit (.int .u8 27), .lit (.int .u8 13), .lit (.int .u8 23), .lit (.int .u8 21), .lit (.int .u8 19), .lit (.int .u8 16), .lit (.int .u8 7), .lit (.int .u8 26), .lit (.int .u8 12), .lit (.int .u8 18), .lit (.int .u8 6), .lit (.int .u8 11), .lit (.int .u8 5), .lit (.int .u8 10), .lit (.int .u8 9)]
def laid_math_bits_deBruijn64tab {H : Type} : DataW H := .agg [.lit (.int .u8 0), .lit (.int .u8 1), .lit (.int .u8 56), .lit (.int .u8 2), .lit (.int .u8 57), .lit (.int .u8 49), .lit (.int .u8 28), .lit (.int .u8 3), .lit (.int .u8 61), .lit (.int .u8 58), .lit (.int .u8 42), .lit (.int .u8 50), .lit (.int .u8 38), .lit (.int .u8 29), .lit (.int .u8 17), .lit (.int .u8 4), .lit (.int .u8 62), .lit (.int .u8 47), .lit (.int .u8 59), .lit (.int .u8 36), .lit (.int .u8 45), .lit (.int .u8 43), .lit (.int .u8 51), .lit (.int .u8 22), .lit (.int .u8 53), .lit (.int .u8 39), .lit (.int .u8 33), .lit (.int .u8 30), .lit (.int .u8 24), .lit (.int .u8 18), .lit (.int .u8 12), .lit (.int .u8 5), .lit (.int .u8 63), .lit (.int .u8 55), .lit (.int .u8 48), .lit (.int .u8 27), .lit (.int .u8 60), .lit (.int .u8 41), .lit (.int .u8 37), .lit (.int .u8 16), .lit (.int .u8 46), .lit (.int .u8 35), .lit (.int .u8 44), .lit (.int .u8 21), .lit (.int .u8 52), .lit (.int .u8 32), .lit (.int .u8 23), .lit (.int .u8 11), .lit (.int .u8 54), .lit (.int .u8 26), .lit (.int .u8 40), .lit (.int .u8 15), .lit (.int .u8 34), .lit (.int .u8 20), .lit (.int .u8 31), .lit (.int .u8 10), .lit (.int .u8 25), .lit (.int .u8 14), .lit (.int .u8 19), .lit (.int .u8 9), .lit (.int .u8 13), .lit (.int .u8 8), .lit (.int .u8 7), .lit (.int .u8 6)]

/-- 'corsagelaw05.RooksCounts': WHATEVER THE INPUT: true; the input reads as it did. -/
def rooksCountsSpec : ChangeSpec := { name := "rooksCounts", fn := fun _ => fun
  | [d] => { results := [.lit (.bool true)], args := [d] }
  | _ => none }
def rooksCountsRow : OpenClaim := { program := "ytellnklbkjajbaadoor", sum := "6fd09b1629478dbeac3f1de8df037f9838a850b8ff58c3216a4eabf03d1510f4", func := "corsage/corsagelaw05.RooksCounts", spec := "rooksCounts", unfollowed := true, recurses := true, named := ["math/bits.deBruijn32tab", "math/bits.deBruijn64tab"], plainKeys := false, apart := false, laid := [("math/bits.deBruijn32tab", laid_math_bits_deBruijn32tab), ("math/bits.deBruijn64tab", laid_math_bits_deBruijn64tab)] }
def RooksCountsSaid : Prop := rooksCountsRow.holds Tryd.pinned (OpenSpec.ofChange rooksCountsSpec)

/-- ITS FALSE NEIGHBOUR: 'it returns false'. Refute it at one input. -/
def rooksCountsWrong : ChangeSpec := { name := "rooksCounts", fn := fun _ => fun
  | [d] => { results := [.lit (.bool false)], args := [d] }
  | _ => none }
def RooksCountsWrongFalsely : Prop := rooksCountsRow.holds Tryd.pinned (OpenSpec.ofChange rooksCountsWrong)

/-- 'corsagelaw05.RooksAvoids': WHATEVER THE INPUT: true; the input reads as it did. -/
def rooksAvoidsSpec : ChangeSpec := { name := "rooksAvoids", fn := fun _ => fun
  | [d] => { results := [.lit (.bool true)], args := [d] }
  | _ => none }
def rooksAvoidsRow : OpenClaim := { program := "ytellnklbkjajbaadoor", sum := "6fd09b1629478dbeac3f1de8df037f9838a850b8ff58c3216a4eabf03d1510f4", func := "corsage/corsagelaw05.RooksAvoids", spec := "rooksAvoids", unfollowed := true, recurses := true, named := ["math/bits.deBruijn32tab", "math/bits.deBruijn64tab"], plainKeys := false, apart := false, laid := [("math/bits.deBruijn32tab", laid_math_bits_deBruijn32tab), ("math/bits.deBruijn64tab", laid_math_bits_deBruijn64tab)] }
def RooksAvoidsSaid : Prop := rooksAvoidsRow.holds Tryd.pinned (OpenSpec.ofChange rooksAvoidsSpec)

/-- ITS FALSE NEIGHBOUR: 'it returns false'. Refute it at one input. -/
def rooksAvoidsWrong : ChangeSpec := { name := "rooksAvoids", fn := fun _ => fun
  | [d] => { results := [.lit (.bool false)], args := [d] }
  | _ => none }
def RooksAvoidsWrongFalsely : Prop := rooksAvoidsRow.holds Tryd.pinned (OpenSpec.ofChange rooksAvoidsWrong)

/-- 'corsagelaw05.RooksLess': WHATEVER THE INPUT: true; the input reads as it did. -/
def rooksLessSpec : ChangeSpec := { name := "rooksLess", fn := fun _ => fun
  | [d1, d2, d3] => { results := [.lit (.bool true)], args := [d1, d2, d3] }
  | _ => none }
def rooksLessRow : OpenClaim := { program := "ytellnklbkjajbaadoor", sum := "6fd09b1629478dbeac3f1de8df037f9838a850b8ff58c3216a4eabf03d1510f4", func := "corsage/corsagelaw05.RooksLess", spec := "rooksLess", unfollowed := true, recurses := true, named := ["math/bits.deBruijn32tab", "math/bits.deBruijn64tab"], plainKeys := false, apart := false, laid := [("math/bits.deBruijn32tab", laid_math_bits_deBruijn32tab), ("math/bits.deBruijn64tab", laid_math_bits_deBruijn64tab)] }
def RooksLessSaid : Prop := rooksLessRow.holds Tryd.pinned (OpenSpec.ofChange rooksLessSpec)

/-- ITS FALSE NEIGHBOUR: 'it returns false'. Refute it at one input. -/
def rooksLessWrong : ChangeSpec := { name := "rooksLess", fn := fun _ => fun
  | [d1, d2, d3] => { results := [.lit (.bool false)], args := [d1, d2, d3] }
  | _ => none }
def RooksLessWrongFalsely : Prop := rooksLessRow.holds Tryd.pinned (OpenSpec.ofChange rooksLessWrong)

/-- 'corsagelaw05.RooksStairs': WHATEVER THE INPUT: true; the input reads as it did. -/
def rooksStairsSpec : ChangeSpec := { name := "rooksStairs", fn := fun _ => fun
  | [d1, d2] => { results := [.lit (.bool true)], args := [d1, d2] }
  | _ => none }
def rooksStairsRow : OpenClaim := { program := "ytellnklbkjajbaadoor", sum := "6fd09b1629478dbeac3f1de8df037f9838a850b8ff58c3216a4eabf03d1510f4", func := "corsage/corsagelaw05.RooksStairs", spec := "rooksStairs", unfollowed := true, recurses := true, named := ["math/bits.deBruijn32tab", "math/bits.deBruijn64tab"], plainKeys := false, apart := false, laid := [("math/bits.deBruijn32tab", laid_math_bits_deBruijn32tab), ("math/bits.deBruijn64tab", laid_math_bits_deBruijn64tab)] }
def RooksStairsSaid : Prop := rooksStairsRow.holds Tryd.pinned (OpenSpec.ofChange rooksStairsSpec)

/-- ITS FALSE NEIGHBOUR: 'it returns false'. Refute it at one input. -/
def rooksStairsWrong : ChangeSpec := { name := "rooksStairs", fn := fun _ => fun
  | [d1, d2] => { results := [.lit (.bool false)], args := [d1, d2] }
  | _ => none }
def RooksStairsWrongFalsely : Prop := rooksStairsRow.holds Tryd.pinned (OpenSpec.ofChange rooksStairsWrong)

/-- 'corsagelaw05.RooksSteep': WHATEVER THE INPUT: true; the input reads as it did. -/
def rooksSteepSpec : ChangeSpec := { name := "rooksSteep", fn := fun _ => fun
  | [d1, d2] => { results := [.lit (.bool true)], args := [d1, d2] }
  | _ => none }
def rooksSteepRow : OpenClaim := { program := "ytellnklbkjajbaadoor", sum := "6fd09b1629478dbeac3f1de8df037f9838a850b8ff58c3216a4eabf03d1510f4", func := "corsage/corsagelaw05.RooksSteep", spec := "rooksSteep", unfollowed := true, recurses := true, named := ["math/bits.deBruijn32tab", "math/bits.deBruijn64tab"], plainKeys := false, apart := false, laid := [("math/bits.deBruijn32tab", laid_math_bits_deBruijn32tab), ("math/bits.deBruijn64tab", laid_math_bits_deBruijn64tab)] }
def RooksSteepSaid : Prop := rooksSteepRow.holds Tryd.pinned (OpenSpec.ofChange rooksSteepSpec)

/-- ITS FALSE NEIGHBOUR: 'it returns false'. Refute it at one input. -/
def rooksSteepWrong : ChangeSpec := { name := "rooksSteep", fn := fun _ => fun
  | [d1, d2] => { results := [.lit (.bool false)], args := [d1, d2] }
  | _ => none }
def RooksSteepWrongFalsely : Prop := rooksSteepRow.holds Tryd.pinned (OpenSpec.ofChange rooksSteepWrong)

/-- 'corsagelaw05.RooksGuests': WHATEVER THE INPUT: true; the input reads as it did. -/
def rooksGuestsSpec : ChangeSpec := { name := "rooksGuests", fn := fun _ => fun
  | [d] => { results := [.lit (.bool true)], args := [d] }
  | _ => none }
def rooksGuestsRow : OpenClaim := { program := "ytellnklbkjajbaadoor", sum := "6fd09b1629478dbeac3f1de8df037f9838a850b8ff58c3216a4eabf03d1510f4", func := "corsage/corsagelaw05.RooksGuests", spec := "rooksGuests", unfollowed := true, recurses := true, named := ["math/bits.deBruijn32tab", "math/bits.deBruijn64tab"], plainKeys := false, apart := false, laid := [("math/bits.deBruijn32tab", laid_math_bits_deBruijn32tab), ("math/bits.deBruijn64tab", laid_math_bits_deBruijn64tab)] }
def RooksGuestsSaid : Prop := rooksGuestsRow.holds Tryd.pinned (OpenSpec.ofChange rooksGuestsSpec)

/-- ITS FALSE NEIGHBOUR: 'it returns false'. Refute it at one input. -/
def rooksGuestsWrong : ChangeSpec := { name := "rooksGuests", fn := fun _ => fun
  | [d] => { results := [.lit (.bool false)], args := [d] }
  | _ => none }
def RooksGuestsWrongFalsely : Prop := rooksGuestsRow.holds Tryd.pinned (OpenSpec.ofChange rooksGuestsWrong)

/-- 'corsagelaw05.RooksCut': WHATEVER THE INPUT: true; the input reads as it did. -/
def rooksCutSpec : ChangeSpec := { name := "rooksCut", fn := fun _ => fun
  | [d1, d2, d3] => { results := [.lit (.bool true)], args := [d1, d2, d3] }
  | _ => none }
def rooksCutRow : OpenClaim := { program := "ytellnklbkjajbaadoor", sum := "6fd09b1629478dbeac3f1de8df037f9838a850b8ff58c3216a4eabf03d1510f4", func := "corsage/corsagelaw05.RooksCut", spec := "rooksCut", unfollowed := true, recurses := true, named := ["math/bits.deBruijn32tab", "math/bits.deBruijn64tab"], plainKeys := false, apart := false, laid := [("math/bits.deBruijn32tab", laid_math_bits_deBruijn32tab), ("math/bits.deBruijn64tab", laid_math_bits_deBruijn64tab)] }
def RooksCutSaid : Prop := rooksCutRow.holds Tryd.pinned (OpenSpec.ofChange rooksCutSpec)

/-- ITS FALSE NEIGHBOUR: 'it returns false'. Refute it at one input. -/
def rooksCutWrong : ChangeSpec := { name := "rooksCut", fn := fun _ => fun
  | [d1, d2, d3] => { results := [.lit (.bool false)], args := [d1, d2, d3] }
  | _ => none }
def RooksCutWrongFalsely : Prop := rooksCutRow.holds Tryd.pinned (OpenSpec.ofChange rooksCutWrong)

/-- 'corsagelaw05.RooksHits': WHATEVER THE INPUT: true; the input reads as it did. -/
def rooksHitsSpec : ChangeSpec := { name := "rooksHits", fn := fun _ => fun
  | [d] => { results := [.lit (.bool true)], args := [d] }
  | _ => none }
def rooksHitsRow : OpenClaim := { program := "ytellnklbkjajbaadoor", sum := "6fd09b1629478dbeac3f1de8df037f9838a850b8ff58c3216a4eabf03d1510f4", func := "corsage/corsagelaw05.RooksHits", spec := "rooksHits", unfollowed := true, recurses := true, named := ["math/bits.deBruijn32tab", "math/bits.deBruijn64tab"], plainKeys := false, apart := false, laid := [("math/bits.deBruijn32tab", laid_math_bits_deBruijn32tab), ("math/bits.deBruijn64tab", laid_math_bits_deBruijn64tab)] }
def RooksHitsSaid : Prop := rooksHitsRow.holds Tryd.pinned (OpenSpec.ofChange rooksHitsSpec)

/-- ITS FALSE NEIGHBOUR: 'it returns false'. Refute it at one input. -/
def rooksHitsWrong : ChangeSpec := { name := "rooksHits", fn := fun _ => fun
  | [d] => { results := [.lit (.bool false)], args := [d] }
  | _ => none }
def RooksHitsWrongFalsely : Prop := rooksHitsRow.holds Tryd.pinned (OpenSpec.ofChange rooksHitsWrong)

/-- 'corsagelaw05.RooksEither': WHATEVER THE INPUT: true; the input reads as it did. -/
def rooksEitherSpec : ChangeSpec := { name := "rooksEither", fn := fun _ => fun
  | [d] => { results := [.lit (.bool true)], args := [d] }
  | _ => none }
def rooksEitherRow : OpenClaim := { program := "ytellnklbkjajbaadoor", sum := "6fd09b1629478dbeac3f1de8df037f9838a850b8ff58c3216a4eabf03d1510f4", func := "corsage/corsagelaw05.RooksEither", spec := "rooksEither", unfollowed := true, recurses := true, named := ["math/bits.deBruijn32tab", "math/bits.deBruijn64tab"], plainKeys := false, apart := false, laid := [("math/bits.deBruijn32tab", laid_math_bits_deBruijn32tab), ("math/bits.deBruijn64tab", laid_math_bits_deBruijn64tab)] }
def RooksEitherSaid : Prop := rooksEitherRow.holds Tryd.pinned (OpenSpec.ofChange rooksEitherSpec)

/-- ITS FALSE NEIGHBOUR: 'it returns false'. Refute it at one input. -/
def rooksEitherWrong : ChangeSpec := { name := "rooksEither", fn := fun _ => fun
  | [d] => { results := [.lit (.bool false)], args := [d] }
  | _ => none }
def RooksEitherWrongFalsely : Prop := rooksEitherRow.holds Tryd.pinned (OpenSpec.ofChange rooksEitherWrong)

/-- 'corsagelaw05.RooksFactors': WHATEVER THE INPUT: true; the input reads as it did. -/
def rooksFactorsSpec : ChangeSpec := { name := "rooksFactors", fn := fun _ => fun
  | [d1, d2, d3] => { results := [.lit (.bool true)], args := [d1, d2, d3] }
  | _ => none }
def rooksFactorsRow : OpenClaim := { program := "ytellnklbkjajbaadoor", sum := "6fd09b1629478dbeac3f1de8df037f9838a850b8ff58c3216a4eabf03d1510f4", func := "corsage/corsagelaw05.RooksFactors", spec := "rooksFactors", unfollowed := true, recurses := true, named := ["math/bits.deBruijn32tab", "math/bits.deBruijn64tab"], plainKeys := false, apart := false, laid := [("math/bits.deBruijn32tab", laid_math_bits_deBruijn32tab), ("math/bits.deBruijn64tab", laid_math_bits_deBruijn64tab)] }
def RooksFactorsSaid : Prop := rooksFactorsRow.holds Tryd.pinned (OpenSpec.ofChange rooksFactorsSpec)

/-- ITS FALSE NEIGHBOUR: 'it returns false'. Refute it at one input. -/
def rooksFactorsWrong : ChangeSpec := { name := "rooksFactors", fn := fun _ => fun
  | [d1, d2, d3] => { results := [.lit (.bool false)], args := [d1, d2, d3] }
  | _ => none }
def RooksFactorsWrongFalsely : Prop := rooksFactorsRow.holds Tryd.pinned (OpenSpec.ofChange rooksFactorsWrong)

/-- 'corsagelaw05.RooksTurned': WHATEVER THE INPUT: true; the input reads as it did. -/
def rooksTurnedSpec : ChangeSpec := { name := "rooksTurned", fn := fun _ => fun
  | [d1, d2, d3] => { results := [.lit (.bool true)], args := [d1, d2, d3] }
  | _ => none }
def rooksTurnedRow : OpenClaim := { program := "ytellnklbkjajbaadoor", sum := "6fd09b1629478dbeac3f1de8df037f9838a850b8ff58c3216a4eabf03d1510f4", func := "corsage/corsagelaw05.RooksTurned", spec := "rooksTurned", unfollowed := true, recurses := true, named := ["math/bits.deBruijn32tab", "math/bits.deBruijn64tab"], plainKeys := false, apart := false, laid := [("math/bits.deBruijn32tab", laid_math_bits_deBruijn32tab), ("math/bits.deBruijn64tab", laid_math_bits_deBruijn64tab)] }
def RooksTurnedSaid : Prop := rooksTurnedRow.holds Tryd.pinned (OpenSpec.ofChange rooksTurnedSpec)

/-- ITS FALSE NEIGHBOUR: 'it returns false'. Refute it at one input. -/
def rooksTurnedWrong : ChangeSpec := { name := "rooksTurned", fn := fun _ => fun
  | [d1, d2, d3] => { results := [.lit (.bool false)], args := [d1, d2, d3] }
  | _ => none }
def RooksTurnedWrongFalsely : Prop := rooksTurnedRow.holds Tryd.pinned (OpenSpec.ofChange rooksTurnedWrong)

/-- 'corsagetop.TopEuler': WHATEVER THE INPUT: true; the input reads as it did. -/
def topEulerSpec : ChangeSpec := { name := "topEuler", fn := fun _ => fun
  | [d] => { results := [.lit (.bool true)], args := [d] }
  | _ => none }
def topEulerRow : OpenClaim := { program := "ytellnklbkjajbaadoor", sum := "6fd09b1629478dbeac3f1de8df037f9838a850b8ff58c3216a4eabf03d1510f4", func := "corsage/corsagetop.TopEuler", spec := "topEuler", unfollowed := true, recurses := true, named := ["math/bits.deBruijn32tab", "math/bits.deBruijn64tab"], plainKeys := false, apart := false, laid := [("math/bits.deBruijn32tab", laid_math_bits_deBruijn32tab), ("math/bits.deBruijn64tab", laid_math_bits_deBruijn64tab)] }
def TopEulerSaid : Prop := topEulerRow.holds Tryd.pinned (OpenSpec.ofChange topEulerSpec)

/-- ITS FALSE NEIGHBOUR: 'it returns false'. Refute it at one input. -/
def topEulerWrong : ChangeSpec := { name := "topEuler", fn := fun _ => fun
  | [d] => { results := [.lit (.bool false)], args := [d] }
  | _ => none }
def TopEulerWrongFalsely : Prop := topEulerRow.holds Tryd.pinned (OpenSpec.ofChange topEulerWrong)

/- THE SECOND FORM. 'bulk': how many values and letters a reading holds, each counted each time it is reached (what is shared counts as often as it is met; a slice's spare places count too). A statement '..UptoSaid' is the law's where the arguments, and the package variables that the reading takes, are together of bulk at most 1048576: NARROWER than '..Said'. Prove '..Said' where nothing that the law and all that it calls make is longer than what came in: it says more and counts as full. Else prove '..UptoSaid'. A law counts once. -/
mutual
def uptoBulk {H : Type} : DataW H → Nat
  | .lit (.string bytes) => bytes.length + 1
  | .lit _ => 1
  | .nil => 1
  | .ptr d => uptoBulk d + 1
  | .slice elems spare => uptoBulkAll elems + uptoBulkAll spare + 1
  | .agg parts => uptoBulkAll parts + 1
  | .iface _ d => uptoBulk d + 1
  | .map entries => uptoBulkEntries entries + 1
  | .held _ => 1
def uptoBulkAll {H : Type} : List (DataW H) → Nat
  | [] => 0
  | d :: r => uptoBulk d + uptoBulkAll r
def uptoBulkEntries {H : Type} : List (Lit × DataW H) → Nat
  | [] => 0
  | x :: r => uptoBulkEntry x + uptoBulkEntries r
def uptoBulkEntry {H : Type} : Lit × DataW H → Nat
  | (.string bytes, d) => bytes.length + uptoBulk d + 1
  | (_, d) => uptoBulk d + 1
 end
def uptoSmall : (H : Type) → List (DataW H) → Bool := fun _ ds => decide (uptoBulkAll ds ≤ 1048576)
def OpenSpec.upto (s : _root_.Go.ChangeSpec) : _root_.Go.OpenSpec := { _root_.Go.OpenSpec.ofChange s with cond := some uptoSmall }

/-- 'corsagelaw05.RooksCounts', WHERE WHAT IT READS IS OF BULK AT MOST 1048576: true; the input reads as it did. -/
def rooksCountsUptoRow : OpenClaim := { program := "ytellnklbkjajbaadoor", sum := "6fd09b1629478dbeac3f1de8df037f9838a850b8ff58c3216a4eabf03d1510f4", func := "corsage/corsagelaw05.RooksCounts", spec := "rooksCounts", unfollowed := true, recurses := true, named := ["math/bits.deBruijn32tab", "math/bits.deBruijn64tab"], plainKeys := false, apart := false, laid := [("math/bits.deBruijn32tab", laid_math_bits_deBruijn32tab), ("math/bits.deBruijn64tab", laid_math_bits_deBruijn64tab)], narrowed := true }
def RooksCountsUptoSaid : Prop := rooksCountsUptoRow.holds Tryd.pinned (OpenSpec.upto rooksCountsSpec)

/-- 'corsagelaw05.RooksAvoids', WHERE WHAT IT READS IS OF BULK AT MOST 1048576: true; the input reads as it did. -/
def rooksAvoidsUptoRow : OpenClaim := { program := "ytellnklbkjajbaadoor", sum := "6fd09b1629478dbeac3f1de8df037f9838a850b8ff58c3216a4eabf03d1510f4", func := "corsage/corsagelaw05.RooksAvoids", spec := "rooksAvoids", unfollowed := true, recurses := true, named := ["math/bits.deBruijn32tab", "math/bits.deBruijn64tab"], plainKeys := false, apart := false, laid := [("math/bits.deBruijn32tab", laid_math_bits_deBruijn32tab), ("math/bits.deBruijn64tab", laid_math_bits_deBruijn64tab)], narrowed := true }
def RooksAvoidsUptoSaid : Prop := rooksAvoidsUptoRow.holds Tryd.pinned (OpenSpec.upto rooksAvoidsSpec)

/-- 'corsagelaw05.RooksLess', WHERE WHAT IT READS IS OF BULK AT MOST 1048576: true; the input reads as it did. -/
def rooksLessUptoRow : OpenClaim := { program := "ytellnklbkjajbaadoor", sum := "6fd09b1629478dbeac3f1de8df037f9838a850b8ff58c3216a4eabf03d1510f4", func := "corsage/corsagelaw05.RooksLess", spec := "rooksLess", unfollowed := true, recurses := true, named := ["math/bits.deBruijn32tab", "math/bits.deBruijn64tab"], plainKeys := false, apart := false, laid := [("math/bits.deBruijn32tab", laid_math_bits_deBruijn32tab), ("math/bits.deBruijn64tab", laid_math_bits_deBruijn64tab)], narrowed := true }
def RooksLessUptoSaid : Prop := rooksLessUptoRow.holds Tryd.pinned (OpenSpec.upto rooksLessSpec)

/-- 'corsagelaw05.RooksStairs', WHERE WHAT IT READS IS OF BULK AT MOST 1048576: true; the input reads as it did. -/
def rooksStairsUptoRow : OpenClaim := { program := "ytellnklbkjajbaadoor", sum := "6fd09b1629478dbeac3f1de8df037f9838a850b8ff58c3216a4eabf03d1510f4", func := "corsage/corsagelaw05.RooksStairs", spec := "rooksStairs", unfollowed := true, recurses := true, named := ["math/bits.deBruijn32tab", "math/bits.deBruijn64tab"], plainKeys := false, apart := false, laid := [("math/bits.deBruijn32tab", laid_math_bits_deBruijn32tab), ("math/bits.deBruijn64tab", laid_math_bits_deBruijn64tab)], narrowed := true }
def RooksStairsUptoSaid : Prop := rooksStairsUptoRow.holds Tryd.pinned (OpenSpec.upto rooksStairsSpec)

/-- 'corsagelaw05.RooksSteep', WHERE WHAT IT READS IS OF BULK AT MOST 1048576: true; the input reads as it did. -/
def rooksSteepUptoRow : OpenClaim := { program := "ytellnklbkjajbaadoor", sum := "6fd09b1629478dbeac3f1de8df037f9838a850b8ff58c3216a4eabf03d1510f4", func := "corsage/corsagelaw05.RooksSteep", spec := "rooksSteep", unfollowed := true, recurses := true, named := ["math/bits.deBruijn32tab", "math/bits.deBruijn64tab"], plainKeys := false, apart := false, laid := [("math/bits.deBruijn32tab", laid_math_bits_deBruijn32tab), ("math/bits.deBruijn64tab", laid_math_bits_deBruijn64tab)], narrowed := true }
def RooksSteepUptoSaid : Prop := rooksSteepUptoRow.holds Tryd.pinned (OpenSpec.upto rooksSteepSpec)

/-- 'corsagelaw05.RooksGuests', WHERE WHAT IT READS IS OF BULK AT MOST 1048576: true; the input reads as it did. -/
def rooksGuestsUptoRow : OpenClaim := { program := "ytellnklbkjajbaadoor", sum := "6fd09b1629478dbeac3f1de8df037f9838a850b8ff58c3216a4eabf03d1510f4", func := "corsage/corsagelaw05.RooksGuests", spec := "rooksGuests", unfollowed := true, recurses := true, named := ["math/bits.deBruijn32tab", "math/bits.deBruijn64tab"], plainKeys := false, apart := false, laid := [("math/bits.deBruijn32tab", laid_math_bits_deBruijn32tab), ("math/bits.deBruijn64tab", laid_math_bits_deBruijn64tab)], narrowed := true }
def RooksGuestsUptoSaid : Prop := rooksGuestsUptoRow.holds Tryd.pinned (OpenSpec.upto rooksGuestsSpec)

/-- 'corsagelaw05.RooksCut', WHERE WHAT IT READS IS OF BULK AT MOST 1048576: true; the input reads as it did. -/
def rooksCutUptoRow : OpenClaim := { program := "ytellnklbkjajbaadoor", sum := "6fd09b1629478dbeac3f1de8df037f9838a850b8ff58c3216a4eabf03d1510f4", func := "corsage/corsagelaw05.RooksCut", spec := "rooksCut", unfollowed := true, recurses := true, named := ["math/bits.deBruijn32tab", "math/bits.deBruijn64tab"], plainKeys := false, apart := false, laid := [("math/bits.deBruijn32tab", laid_math_bits_deBruijn32tab), ("math/bits.deBruijn64tab", laid_math_bits_deBruijn64tab)], narrowed := true }
def RooksCutUptoSaid : Prop := rooksCutUptoRow.holds Tryd.pinned (OpenSpec.upto rooksCutSpec)

/-- 'corsagelaw05.RooksHits', WHERE WHAT IT READS IS OF BULK AT MOST 1048576: true; the input reads as it did. -/
def rooksHitsUptoRow : OpenClaim := { program := "ytellnklbkjajbaadoor", sum := "6fd09b1629478dbeac3f1de8df037f9838a850b8ff58c3216a4eabf03d1510f4", func := "corsage/corsagelaw05.RooksHits", spec := "rooksHits", unfollowed := true, recurses := true, named := ["math/bits.deBruijn32tab", "math/bits.deBruijn64tab"], plainKeys := false, apart := false, laid := [("math/bits.deBruijn32tab", laid_math_bits_deBruijn32tab), ("math/bits.deBruijn64tab", laid_math_bits_deBruijn64tab)], narrowed := true }
def RooksHitsUptoSaid : Prop := rooksHitsUptoRow.holds Tryd.pinned (OpenSpec.upto rooksHitsSpec)

/-- 'corsagelaw05.RooksEither', WHERE WHAT IT READS IS OF BULK AT MOST 1048576: true; the input reads as it did. -/
def rooksEitherUptoRow : OpenClaim := { program := "ytellnklbkjajbaadoor", sum := "6fd09b1629478dbeac3f1de8df037f9838a850b8ff58c3216a4eabf03d1510f4", func := "corsage/corsagelaw05.RooksEither", spec := "rooksEither", unfollowed := true, recurses := true, named := ["math/bits.deBruijn32tab", "math/bits.deBruijn64tab"], plainKeys := false, apart := false, laid := [("math/bits.deBruijn32tab", laid_math_bits_deBruijn32tab), ("math/bits.deBruijn64tab", laid_math_bits_deBruijn64tab)], narrowed := true }
def RooksEitherUptoSaid : Prop := rooksEitherUptoRow.holds Tryd.pinned (OpenSpec.upto rooksEitherSpec)

/-- 'corsagelaw05.RooksFactors', WHERE WHAT IT READS IS OF BULK AT MOST 1048576: true; the input reads as it did. -/
def rooksFactorsUptoRow : OpenClaim := { program := "ytellnklbkjajbaadoor", sum := "6fd09b1629478dbeac3f1de8df037f9838a850b8ff58c3216a4eabf03d1510f4", func := "corsage/corsagelaw05.RooksFactors", spec := "rooksFactors", unfollowed := true, recurses := true, named := ["math/bits.deBruijn32tab", "math/bits.deBruijn64tab"], plainKeys := false, apart := false, laid := [("math/bits.deBruijn32tab", laid_math_bits_deBruijn32tab), ("math/bits.deBruijn64tab", laid_math_bits_deBruijn64tab)], narrowed := true }
def RooksFactorsUptoSaid : Prop := rooksFactorsUptoRow.holds Tryd.pinned (OpenSpec.upto rooksFactorsSpec)

/-- 'corsagelaw05.RooksTurned', WHERE WHAT IT READS IS OF BULK AT MOST 1048576: true; the input reads as it did. -/
def rooksTurnedUptoRow : OpenClaim := { program := "ytellnklbkjajbaadoor", sum := "6fd09b1629478dbeac3f1de8df037f9838a850b8ff58c3216a4eabf03d1510f4", func := "corsage/corsagelaw05.RooksTurned", spec := "rooksTurned", unfollowed := true, recurses := true, named := ["math/bits.deBruijn32tab", "math/bits.deBruijn64tab"], plainKeys := false, apart := false, laid := [("math/bits.deBruijn32tab", laid_math_bits_deBruijn32tab), ("math/bits.deBruijn64tab", laid_math_bits_deBruijn64tab)], narrowed := true }
def RooksTurnedUptoSaid : Prop := rooksTurnedUptoRow.holds Tryd.pinned (OpenSpec.upto rooksTurnedSpec)

/-- 'corsagetop.TopEuler', WHERE WHAT IT READS IS OF BULK AT MOST 1048576: true; the input reads as it did. -/
def topEulerUptoRow : OpenClaim := { program := "ytellnklbkjajbaadoor", sum := "6fd09b1629478dbeac3f1de8df037f9838a850b8ff58c3216a4eabf03d1510f4", func := "corsage/corsagetop.TopEuler", spec := "topEuler", unfollowed := true, recurses := true, named := ["math/bits.deBruijn32tab", "math/bits.deBruijn64tab"], plainKeys := false, apart := false, laid := [("math/bits.deBruijn32tab", laid_math_bits_deBruijn32tab), ("math/bits.deBruijn64tab", laid_math_bits_deBruijn64tab)], narrowed := true }
def TopEulerUptoSaid : Prop := topEulerUptoRow.holds Tryd.pinned (OpenSpec.upto topEulerSpec)

end Rows
end Go.Proofs.YtellnklbkjajbaaDoor
