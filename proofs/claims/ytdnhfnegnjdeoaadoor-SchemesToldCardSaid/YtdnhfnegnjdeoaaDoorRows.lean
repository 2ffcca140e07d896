/-
  NARROWER THAN 'FOR EVERY INPUT', by the rows' own cells (each row's printed sentence says how): SchemesReads: laid · SchemesSolves: laid · SchemesMakes: laid · SchemesSwitches: laid · SchemesSame: laid · SchemesAlone: laid · SchemesLists: laid · SchemesTold: laid · SchemesFamilies: laid · SchemesSpectra: laid · SchemesTwice: laid · SchemesDescend: laid · TopPaley: laid · TopRegular: laid.
  DERIVED. THE GIVEN ROWS OF THIS SEAT. 14 by the template 'for every input the law returns true; each argument reads behind the call as it read before'; 0 by the template 'total and deterministic' (their statements: YtdnhfnegnjdeoaaDoorTotals.lean).
  GIVEN WITH THE SEED: the statements are not yours to turn. If you find one false, say at which input.
  Laid BY PROGRAM, IN A SANDBOX (cutbox-rows.mjs): the forced cells as the released guide's own fill.sh prints them over the translation 19c7247d113d36a2… (all of the seat's roots in one cut). By AI agents, Wed Nov 11 2026. No macro, syntax, notation, axiom, sorry.
-/
import Derived.Test.YtdnhfnegnjdeoaaDoorChecked
import GoSem.Claim
import GoSem.ClaimJoined
import GoSem.ClaimMapViews
import Derived.JoinedTies
import Derived.KernelRfl
namespace Go.Proofs.YtdnhfnegnjdeoaaDoor
/- THE CELL 'sum', in the pinned program and in every row, IS THE sha256 OF THE DUMP (.gsa) THAT YtdnhfnegnjdeoaaDoorProg.lean LOADS. Nothing in Lean hashes anything: it is a label: what it is worth is what the hold of that sum in a sandbox is worth. -/
noncomputable def Tryd.pinned : Pinned := { name := "ytdnhfnegnjdeoaadoor", sum := "19c7247d113d36a29725372971c8af7f11106dbc258f31bde6cdc6ff25682b6f", checked := Tryd.checked }
namespace Rows
def none {H : Type} : Left H := { results := [], args := [] }

/- WHAT THE LISTED PACKAGE-LEVEL VARIABLES READ AS WHEN THE CALL BEGINS. Each datum BY PROGRAM (the guide's laid-datum.mjs) off the statement by which the dump's own 'gosem.cut.vars' lays the variable. In a bare row this is a premise. The card (YtdnhfnegnjdeoaaDoorCards.lean) ties it to the program's text. -/
def laid_math_bits_deBruijn32tab {H : Type} : DataW H := .agg [.lit (.int .u8 0), .lit (.int .u8 1), .lit (.int .u8 28), .lit (.int .u8 2), .lit (.int .u8 29), .lit (.int .u8 14), .lit (.int .u8 24), .lit (.int .u8 3), .lit (.int .u8 30), .lit (.int .u8 22), .lit (.int .u8 20), .lit (.int .u8 15), .lit (.int .u8 25), .lit (.int .u8 17), .lit (.int .u8 4), .lit (.int .u8 8), .lit (.int .u8 31), .lit (.int .u8 27), .lit (.int .u8 13), .lit (.int .u8 23), .lit (.int .u8 21), .lit (.int .u8 19), .lit (.int .u8 16), .lit (.int .u8 7), .lit (.int .u8 26), .lit (.int .u8 12), .lit (.int .u8 18), .lit (.int .u8 6), .lit (.int .u8 11), .lit (.int .u8 5), .lit (.int .u8 10), .lit (.int .u8 9)]
def laid_math_bits_deBruijn64tab {H : Type} : DataW H := .agg [.lit (.int .u8 0), .lit (.int .u8 1), .lit (.int .u8 56), .lit (.int .u8 2), .lit (.int .u8 57), .lit (.int .u8 49), .lit (.int .u8 28), .lit (.int .u8 3), .lit (.int .u8 61), .lit (.int .u8 58), .lit (.int .u8 42), .lit (.int .u8 50), .lit (.int .u8 38), .lit (.int .u8 29), .lit (.int .u8 17), .lit (.int .u8 4), .lit (.int .u8 62), .lit (.int .u8 47), .lit (.int .u8 59), .lit (.int .u8 36), .lit (.int .u8 45), .lit (.int .u8 43), .lit (.int .u8 51), .lit (.int .u8 22), .lit (.int .u8 53), .lit (.int .u8 39), .lit (.int .u8 33), .lit (.int .u8 30), .lit (.int .u8 24), .lit (.int .u8 18), .lit (.int .u8 12), .lit (.int .u8 5), .lit (.int .u8 63), .lit (.int .u8 55), .lit (.int .u8 48), .lit (.int .u8 27), .lit (.int .u8 60), .lit (.int .u8 41), .lit (.int .u8 37), .lit (.int .u8 16), .lit (.int .u8 46), .lit (.int .u8 35), .lit (.int .u8 44), .lit (.int .u8 21), .lit (.int .u8 52), .lit (.int .u8 32), .lit (.int .u8 23), .lit (.int .u8 11), .lit (.int .u8 54), .lit (.int .u8 26), .lit (.int .u8 40), .lit (.int .u8 15), .lit (.int .u8 34), .lit (.int .u8 20), .lit (.int .u8 31), .lit (.int .u8 10), .lit (.int .u8 25), .lit (.int .u8 14), .lit (.int .u8 19), .lit (.int .u8 9), .lit (.int .u8 13), .lit (.int .u8 8), .lit (.int .u8 7), .lit (.int .u8 6)]

/-- 'corsagelaw06.SchemesReads': WHATEVER THE INPUT: true; the input reads as it did. -/
def schemesReadsSpec : ChangeSpec := { name := "schemesReads", fn := fun _ => fun
  | [d] => { results := [.lit (.bool true)], args := [d] }
  | _ => none }
def schemesReadsRow : OpenClaim := { program := "ytdnhfnegnjdeoaadoor", sum := "19c7247d113d36a29725372971c8af7f11106dbc258f31bde6cdc6ff25682b6f", func := "corsage/corsagelaw06.SchemesReads", spec := "schemesReads", unfollowed := true, recurses := true, named := ["math/bits.deBruijn32tab", "math/bits.deBruijn64tab"], apart := false, laid := [("math/bits.deBruijn32tab", laid_math_bits_deBruijn32tab), ("math/bits.deBruijn64tab", laid_math_bits_deBruijn64tab)] }
def SchemesReadsSaid : Prop := schemesReadsRow.holds Tryd.pinned (OpenSpec.ofChange schemesReadsSpec)

/-- ITS FALSE NEIGHBOUR: 'it returns false'. Refute it at one input. -/
def schemesReadsWrong : ChangeSpec := { name := "schemesReads", fn := fun _ => fun
  | [d] => { results := [.lit (.bool false)], args := [d] }
  | _ => none }
def SchemesReadsWrongFalsely : Prop := schemesReadsRow.holds Tryd.pinned (OpenSpec.ofChange schemesReadsWrong)

/-- 'corsagelaw06.SchemesSolves': WHATEVER THE INPUT: true; the input reads as it did. -/
def schemesSolvesSpec : ChangeSpec := { name := "schemesSolves", fn := fun _ => fun
  | [d] => { results := [.lit (.bool true)], args := [d] }
  | _ => none }
def schemesSolvesRow : OpenClaim := { program := "ytdnhfnegnjdeoaadoor", sum := "19c7247d113d36a29725372971c8af7f11106dbc258f31bde6cdc6ff25682b6f", func := "corsage/corsagelaw06.SchemesSolves", spec := "schemesSolves", unfollowed := true, recurses := true, named := ["math/bits.deBruijn32tab", "math/bits.deBruijn64tab"], apart := false, laid := [("math/bits.deBruijn32tab", laid_math_bits_deBruijn32tab), ("math/bits.deBruijn64tab", laid_math_bits_deBruijn64tab)] }
def SchemesSolvesSaid : Prop := schemesSolvesRow.holds Tryd.pinned (OpenSpec.ofChange schemesSolvesSpec)

/-- ITS FALSE NEIGHBOUR: 'it returns false'. Refute it at one input. -/
def schemesSolvesWrong : ChangeSpec := { name := "schemesSolves", fn := fun _ => fun
  | [d] => { results := [.lit (.bool false)], args := [d] }
  | _ => none }
def SchemesSolvesWrongFalsely : Prop := schemesSolvesRow.holds Tryd.pinned (OpenSpec.ofChange schemesSolvesWrong)

/-- 'corsagelaw06.SchemesMakes': WHATEVER THE INPUT: true; the input reads as it did. -/
def schemesMakesSpec : ChangeSpec := { name := "schemesMakes", fn := fun _ => fun
  | [d] => { results := [.lit (.bool true)], args := [d] }
  | _ => none }
def schemesMakesRow : OpenClaim := { program := "ytdnhfnegnjdeoaadoor", sum := "19c7247d113d36a29725372971c8af7f11106dbc258f31bde6cdc6ff25682b6f", func := "corsage/corsagelaw06.SchemesMakes", spec := "schemesMakes", unfollowed := true, recurses := true, named := ["math/bits.deBruijn32tab", "math/bits.deBruijn64tab"], apart := false, laid := [("math/bits.deBruijn32tab", laid_math_bits_deBruijn32tab), ("math/bits.deBruijn64tab", laid_math_bits_deBruijn64tab)] }
def SchemesMakesSaid : Prop := schemesMakesRow.holds Tryd.pinned (OpenSpec.ofChange schemesMakesSpec)

/-- ITS FALSE NEIGHBOUR: 'it returns false'. Refute it at one input. -/
def schemesMakesWrong : ChangeSpec := { name := "schemesMakes", fn := fun _ => fun
  | [d] => { results := [.lit (.bool false)], args := [d] }
  | _ => none }
def SchemesMakesWrongFalsely : Prop := schemesMakesRow.holds Tryd.pinned (OpenSpec.ofChange schemesMakesWrong)

/-- 'corsagelaw06.SchemesSwitches': WHATEVER THE INPUT: true; the input reads as it did. -/
def schemesSwitchesSpec : ChangeSpec := { name := "schemesSwitches", fn := fun _ => fun
  | [d1, d2] => { results := [.lit (.bool true)], args := [d1, d2] }
  | _ => none }
def schemesSwitchesRow : OpenClaim := { program := "ytdnhfnegnjdeoaadoor", sum := "19c7247d113d36a29725372971c8af7f11106dbc258f31bde6cdc6ff25682b6f", func := "corsage/corsagelaw06.SchemesSwitches", spec := "schemesSwitches", unfollowed := true, recurses := true, named := ["math/bits.deBruijn32tab", "math/bits.deBruijn64tab"], apart := false, laid := [("math/bits.deBruijn32tab", laid_math_bits_deBruijn32tab), ("math/bits.deBruijn64tab", laid_math_bits_deBruijn64tab)] }
def SchemesSwitchesSaid : Prop := schemesSwitchesRow.holds Tryd.pinned (OpenSpec.ofChange schemesSwitchesSpec)

/-- ITS FALSE NEIGHBOUR: 'it returns false'. Refute it at one input. -/
def schemesSwitchesWrong : ChangeSpec := { name := "schemesSwitches", fn := fun _ => fun
  | [d1, d2] => { results := [.lit (.bool false)], args := [d1, d2] }
  | _ => none }
def SchemesSwitchesWrongFalsely : Prop := schemesSwitchesRow.holds Tryd.pinned (OpenSpec.ofChange schemesSwitchesWrong)

/-- 'corsagelaw06.SchemesSame': WHATEVER THE INPUT: true; the input reads as it did. -/
def schemesSameSpec : ChangeSpec := { name := "schemesSame", fn := fun _ => fun
  | [d1, d2] => { results := [.lit (.bool true)], args := [d1, d2] }
  | _ => none }
def schemesSameRow : OpenClaim := { program := "ytdnhfnegnjdeoaadoor", sum := "19c7247d113d36a29725372971c8af7f11106dbc258f31bde6cdc6ff25682b6f", func := "corsage/corsagelaw06.SchemesSame", spec := "schemesSame", unfollowed := true, recurses := true, named := ["math/bits.deBruijn32tab", "math/bits.deBruijn64tab"], apart := false, laid := [("math/bits.deBruijn32tab", laid_math_bits_deBruijn32tab), ("math/bits.deBruijn64tab", laid_math_bits_deBruijn64tab)] }
def SchemesSameSaid : Prop := schemesSameRow.holds Tryd.pinned (OpenSpec.ofChange schemesSameSpec)

/-- ITS FALSE NEIGHBOUR: 'it returns false'. Refute it at one input. -/
def schemesSameWrong : ChangeSpec := { name := "schemesSame", fn := fun _ => fun
  | [d1, d2] => { results := [.lit (.bool false)], args := [d1, d2] }
  | _ => none }
def SchemesSameWrongFalsely : Prop := schemesSameRow.holds Tryd.pinned (OpenSpec.ofChange schemesSameWrong)

/-- 'corsagelaw06.SchemesAlone': WHATEVER THE INPUT: true; the input reads as it did. -/
def schemesAloneSpec : ChangeSpec := { name := "schemesAlone", fn := fun _ => fun
  | [d1, d2] => { results := [.lit (.bool true)], args := [d1, d2] }
  | _ => none }
def schemesAloneRow : OpenClaim := { program := "ytdnhfnegnjdeoaadoor", sum := "19c7247d113d36a29725372971c8af7f11106dbc258f31bde6cdc6ff25682b6f", func := "corsage/corsagelaw06.SchemesAlone", spec := "schemesAlone", unfollowed := true, recurses := true, named := ["math/bits.deBruijn32tab", "math/bits.deBruijn64tab"], apart := false, laid := [("math/bits.deBruijn32tab", laid_math_bits_deBruijn32tab), ("math/bits.deBruijn64tab", laid_math_bits_deBruijn64tab)] }
def SchemesAloneSaid : Prop := schemesAloneRow.holds Tryd.pinned (OpenSpec.ofChange schemesAloneSpec)

/-- ITS FALSE NEIGHBOUR: 'it returns false'. Refute it at one input. -/
def schemesAloneWrong : ChangeSpec := { name := "schemesAlone", fn := fun _ => fun
  | [d1, d2] => { results := [.lit (.bool false)], args := [d1, d2] }
  | _ => none }
def SchemesAloneWrongFalsely : Prop := schemesAloneRow.holds Tryd.pinned (OpenSpec.ofChange schemesAloneWrong)

/-- 'corsagelaw06.SchemesLists': WHATEVER THE INPUT: true; the input reads as it did. -/
def schemesListsSpec : ChangeSpec := { name := "schemesLists", fn := fun _ => fun
  | [d] => { results := [.lit (.bool true)], args := [d] }
  | _ => none }
def schemesListsRow : OpenClaim := { program := "ytdnhfnegnjdeoaadoor", sum := "19c7247d113d36a29725372971c8af7f11106dbc258f31bde6cdc6ff25682b6f", func := "corsage/corsagelaw06.SchemesLists", spec := "schemesLists", unfollowed := true, recurses := true, named := ["math/bits.deBruijn32tab", "math/bits.deBruijn64tab"], apart := false, laid := [("math/bits.deBruijn32tab", laid_math_bits_deBruijn32tab), ("math/bits.deBruijn64tab", laid_math_bits_deBruijn64tab)] }
def SchemesListsSaid : Prop := schemesListsRow.holds Tryd.pinned (OpenSpec.ofChange schemesListsSpec)

/-- ITS FALSE NEIGHBOUR: 'it returns false'. Refute it at one input. -/
def schemesListsWrong : ChangeSpec := { name := "schemesLists", fn := fun _ => fun
  | [d] => { results := [.lit (.bool false)], args := [d] }
  | _ => none }
def SchemesListsWrongFalsely : Prop := schemesListsRow.holds Tryd.pinned (OpenSpec.ofChange schemesListsWrong)

/-- 'corsagelaw06.SchemesTold': WHATEVER THE INPUT: true; the input reads as it did. -/
def schemesToldSpec : ChangeSpec := { name := "schemesTold", fn := fun _ => fun
  | [d] => { results := [.lit (.bool true)], args := [d] }
  | _ => none }
def schemesToldRow : OpenClaim := { program := "ytdnhfnegnjdeoaadoor", sum := "19c7247d113d36a29725372971c8af7f11106dbc258f31bde6cdc6ff25682b6f", func := "corsage/corsagelaw06.SchemesTold", spec := "schemesTold", unfollowed := true, recurses := true, named := ["math/bits.deBruijn32tab", "math/bits.deBruijn64tab"], apart := false, laid := [("math/bits.deBruijn32tab", laid_math_bits_deBruijn32tab), ("math/bits.deBruijn64tab", laid_math_bits_deBruijn64tab)] }
def SchemesToldSaid : Prop := schemesToldRow.holds Tryd.pinned (OpenSpec.ofChange schemesToldSpec)

/-- ITS FALSE NEIGHBOUR: 'it returns false'. Refute it at one input. -/
def schemesToldWrong : ChangeSpec := { name := "schemesTold", fn := fun _ => fun
  | [d] => { results := [.lit (.bool false)], args := [d] }
  | _ => none }
def SchemesToldWrongFalsely : Prop := schemesToldRow.holds Tryd.pinned (OpenSpec.ofChange schemesToldWrong)

/-- 'corsagelaw06.SchemesFamilies': WHATEVER THE INPUT: true; the input reads as it did. -/
def schemesFamiliesSpec : ChangeSpec := { name := "schemesFamilies", fn := fun _ => fun
  | [d] => { results := [.lit (.bool true)], args := [d] }
  | _ => none }
def schemesFamiliesRow : OpenClaim := { program := "ytdnhfnegnjdeoaadoor", sum := "19c7247d113d36a29725372971c8af7f11106dbc258f31bde6cdc6ff25682b6f", func := "corsage/corsagelaw06.SchemesFamilies", spec := "schemesFamilies", unfollowed := true, recurses := true, named := ["math/bits.deBruijn32tab", "math/bits.deBruijn64tab"], apart := false, laid := [("math/bits.deBruijn32tab", laid_math_bits_deBruijn32tab), ("math/bits.deBruijn64tab", laid_math_bits_deBruijn64tab)] }
def SchemesFamiliesSaid : Prop := schemesFamiliesRow.holds Tryd.pinned (OpenSpec.ofChange schemesFamiliesSpec)

/-- ITS FALSE NEIGHBOUR: 'it returns false'. Refute it at one input. -/
def schemesFamiliesWrong : ChangeSpec := { name := "schemesFamilies", fn := fun _ => fun
  | [d] => { results := [.lit (.bool false)], args := [d] }
  | _ => none }
def SchemesFamiliesWrongFalsely : Prop := schemesFamiliesRow.holds Tryd.pinned (OpenSpec.ofChange schemesFamiliesWrong)

/-- 'corsagelaw06.SchemesSpectra': WHATEVER THE INPUT: true; the input reads as it did. -/
def schemesSpectraSpec : ChangeSpec := { name := "schemesSpectra", fn := fun _ => fun
  | [d] => { results := [.lit (.bool true)], args := [d] }
  | _ => none }
def schemesSpectraRow : OpenClaim := { program := "ytdnhfnegnjdeoaadoor", sum := "19c7247d113d36a29725372971c8af7f11106dbc258f31bde6cdc6ff25682b6f", func := "corsage/corsagelaw06.SchemesSpectra", spec := "schemesSpectra", unfollowed := true, recurses := true, named := ["math/bits.deBruijn32tab", "math/bits.deBruijn64tab"], apart := false, laid := [("math/bits.deBruijn32tab", laid_math_bits_deBruijn32tab), ("math/bits.deBruijn64tab", laid_math_bits_deBruijn64tab)] }
def SchemesSpectraSaid : Prop := schemesSpectraRow.holds Tryd.pinned (OpenSpec.ofChange schemesSpectraSpec)

/-- ITS FALSE NEIGHBOUR: 'it returns false'. Refute it at one input. -/
def schemesSpectraWrong : ChangeSpec := { name := "schemesSpectra", fn := fun _ => fun
  | [d] => { results := [.lit (.bool false)], args := [d] }
  | _ => none }
def SchemesSpectraWrongFalsely : Prop := schemesSpectraRow.holds Tryd.pinned (OpenSpec.ofChange schemesSpectraWrong)

/-- 'corsagelaw06.SchemesTwice': WHATEVER THE INPUT: true; the input reads as it did. -/
def schemesTwiceSpec : ChangeSpec := { name := "schemesTwice", fn := fun _ => fun
  | [d1, d2, d3] => { results := [.lit (.bool true)], args := [d1, d2, d3] }
  | _ => none }
def schemesTwiceRow : OpenClaim := { program := "ytdnhfnegnjdeoaadoor", sum := "19c7247d113d36a29725372971c8af7f11106dbc258f31bde6cdc6ff25682b6f", func := "corsage/corsagelaw06.SchemesTwice", spec := "schemesTwice", unfollowed := true, recurses := true, named := ["math/bits.deBruijn32tab", "math/bits.deBruijn64tab"], apart := false, laid := [("math/bits.deBruijn32tab", laid_math_bits_deBruijn32tab), ("math/bits.deBruijn64tab", laid_math_bits_deBruijn64tab)] }
def SchemesTwiceSaid : Prop := schemesTwiceRow.holds Tryd.pinned (OpenSpec.ofChange schemesTwiceSpec)

/-- ITS FALSE NEIGHBOUR: 'it returns false'. Refute it at one input. -/
def schemesTwiceWrong : ChangeSpec := { name := "schemesTwice", fn := fun _ => fun
  | [d1, d2, d3] => { results := [.lit (.bool false)], args := [d1, d2, d3] }
  | _ => none }
def SchemesTwiceWrongFalsely : Prop := schemesTwiceRow.holds Tryd.pinned (OpenSpec.ofChange schemesTwiceWrong)

/-- 'corsagelaw06.SchemesDescend': WHATEVER THE INPUT: true; the input reads as it did. -/
def schemesDescendSpec : ChangeSpec := { name := "schemesDescend", fn := fun _ => fun
  | [d1, d2] => { results := [.lit (.bool true)], args := [d1, d2] }
  | _ => none }
def schemesDescendRow : OpenClaim := { program := "ytdnhfnegnjdeoaadoor", sum := "19c7247d113d36a29725372971c8af7f11106dbc258f31bde6cdc6ff25682b6f", func := "corsage/corsagelaw06.SchemesDescend", spec := "schemesDescend", unfollowed := true, recurses := true, named := ["math/bits.deBruijn32tab", "math/bits.deBruijn64tab"], apart := false, laid := [("math/bits.deBruijn32tab", laid_math_bits_deBruijn32tab), ("math/bits.deBruijn64tab", laid_math_bits_deBruijn64tab)] }
def SchemesDescendSaid : Prop := schemesDescendRow.holds Tryd.pinned (OpenSpec.ofChange schemesDescendSpec)

/-- ITS FALSE NEIGHBOUR: 'it returns false'. Refute it at one input. -/
def schemesDescendWrong : ChangeSpec := { name := "schemesDescend", fn := fun _ => fun
  | [d1, d2] => { results := [.lit (.bool false)], args := [d1, d2] }
  | _ => none }
def SchemesDescendWrongFalsely : Prop := schemesDescendRow.holds Tryd.pinned (OpenSpec.ofChange schemesDescendWrong)

/-- 'corsagetop.TopPaley': WHATEVER THE INPUT: true; the input reads as it did. -/
def topPaleySpec : ChangeSpec := { name := "topPaley", fn := fun _ => fun
  | [d] => { results := [.lit (.bool true)], args := [d] }
  | _ => none }
def topPaleyRow : OpenClaim := { program := "ytdnhfnegnjdeoaadoor", sum := "19c7247d113d36a29725372971c8af7f11106dbc258f31bde6cdc6ff25682b6f", func := "corsage/corsagetop.TopPaley", spec := "topPaley", unfollowed := true, recurses := true, named := ["math/bits.deBruijn32tab", "math/bits.deBruijn64tab"], apart := false, laid := [("math/bits.deBruijn32tab", laid_math_bits_deBruijn32tab), ("math/bits.deBruijn64tab", laid_math_bits_deBruijn64tab)] }
def TopPaleySaid : Prop := topPaleyRow.holds Tryd.pinned (OpenSpec.ofChange topPaleySpec)

/-- ITS FALSE NEIGHBOUR: 'it returns false'. Refute it at one input. -/
def topPaleyWrong : ChangeSpec := { name := "topPaley", fn := fun _ => fun
  | [d] => { results := [.lit (.bool false)], args := [d] }
  | _ => none }
def TopPaleyWrongFalsely : Prop := topPaleyRow.holds Tryd.pinned (OpenSpec.ofChange topPaleyWrong)

/-- 'corsagetop.TopRegular': WHATEVER THE INPUT: true; the input reads as it did. -/
def topRegularSpec : ChangeSpec := { name := "topRegular", fn := fun _ => fun
  | [d1, d2] => { results := [.lit (.bool true)], args := [d1, d2] }
  | _ => none }
def topRegularRow : OpenClaim := { program := "ytdnhfnegnjdeoaadoor", sum := "19c7247d113d36a29725372971c8af7f11106dbc258f31bde6cdc6ff25682b6f", func := "corsage/corsagetop.TopRegular", spec := "topRegular", unfollowed := true, recurses := true, named := ["math/bits.deBruijn32tab", "math/bits.deBruijn64tab"], apart := false, laid := [("math/bits.deBruijn32tab", laid_math_bits_deBruijn32tab), ("math/bits.deBruijn64tab", laid_math_bits_deBruijn64tab)] }
def TopRegularSaid : Prop := topRegularRow.holds Tryd.pinned (OpenSpec.ofChange topRegularSpec)

/-- ITS FALSE NEIGHBOUR: 'it returns false'. Refute it at one input. -/
def topRegularWrong : ChangeSpec := { name := "topRegular", fn := fun _ => fun
  | [d1, d2] => { results := [.lit (.bool false)], args := [d1, d2] }
  | _ => none }
def TopRegularWrongFalsely : Prop := topRegularRow.holds Tryd.pinned (OpenSpec.ofChange topRegularWrong)

/- THE SECOND FORM. 'bulk': how many values and letters a reading holds, each counted each time it is reached (what is shared counts as often as it is met; a slice's spare places count too). A statement '..UptoSaid' is the law's where the arguments, and the package variables that the reading takes, are together of bulk at most 1048576: NARROWER than '..Said'. Prove '..Said' where nothing that the law and all that it calls make is longer than what came in: it says more and counts as full. Else prove '..UptoSaid'. A law counts once. -/
mutual
def uptoBulk {H : Type} : DataW H → Nat
  | .lit (.string bytes) => bytes.length + 1
  | .lit _ => 1
  | .nil => 1
  | .ptr d => uptoBulk d + 1
  | .slice elems spare => uptoBulkAll elems + uptoBulkAll spare + 1
  | .agg parts => uptoBulkAll parts + 1
  | .iface _ d => uptoBulk d + 1
  | .map entries => uptoBulkEntries entries + 1
  | .held _ => 1
def uptoBulkAll {H : Type} : List (DataW H) → Nat
  | [] => 0
  | d :: r => uptoBulk d + uptoBulkAll r
def uptoBulkEntries {H : Type} : List (Lit × DataW H) → Nat
  | [] => 0
  | x :: r => uptoBulkEntry x + uptoBulkEntries r
def uptoBulkEntry {H : Type} : Lit × DataW H → Nat
  | (.string bytes, d) => bytes.length + uptoBulk d + 1
  | (_, d) => uptoBulk d + 1
 end
def uptoSmall : (H : Type) → List (DataW H) → Bool := fun _ ds => decide (uptoBulkAll ds ≤ 1048576)
def OpenSpec.upto (s : _root_.Go.ChangeSpec) : _root_.Go.OpenSpec := { _root_.Go.OpenSpec.ofChange s with cond := some uptoSmall }

/-- 'corsagelaw06.SchemesReads', WHERE WHAT IT READS IS OF BULK AT MOST 1048576: true; the input reads as it did. -/
def schemesReadsUptoRow : OpenClaim := { program := "ytdnhfnegnjdeoaadoor", sum := "19c7247d113d36a29725372971c8af7f11106dbc258f31bde6cdc6ff25682b6f", func := "corsage/corsagelaw06.SchemesReads", spec := "schemesReads", unfollowed := true, recurses := true, named := ["math/bits.deBruijn32tab", "math/bits.deBruijn64tab"], apart := false, laid := [("math/bits.deBruijn32tab", laid_math_bits_deBruijn32tab), ("math/bits.deBruijn64tab", laid_math_bits_deBruijn64tab)], narrowed := true }
def SchemesReadsUptoSaid : Prop := schemesReadsUptoRow.holds Tryd.pinned (OpenSpec.upto schemesReadsSpec)

/-- 'corsagelaw06.SchemesSolves', WHERE WHAT IT READS IS OF BULK AT MOST 1048576: true; the input reads as it did. -/
def schemesSolvesUptoRow : OpenClaim := { program := "ytdnhfnegnjdeoaadoor", sum := "19c7247d113d36a29725372971c8af7f11106dbc258f31bde6cdc6ff25682b6f", func := "corsage/corsagelaw06.SchemesSolves", spec := "schemesSolves", unfollowed := true, recurses := true, named := ["math/bits.deBruijn32tab", "math/bits.deBruijn64tab"], apart := false, laid := [("math/bits.deBruijn32tab", laid_math_bits_deBruijn32tab), ("math/bits.deBruijn64tab", laid_math_bits_deBruijn64tab)], narrowed := true }
def SchemesSolvesUptoSaid : Prop := schemesSolvesUptoRow.holds Tryd.pinned (OpenSpec.upto schemesSolvesSpec)

/-- 'corsagelaw06.SchemesMakes', WHERE WHAT IT READS IS OF BULK AT MOST 1048576: true; the input reads as it did. -/
def schemesMakesUptoRow : OpenClaim := { program := "ytdnhfnegnjdeoaadoor", sum := "19c7247d113d36a29725372971c8af7f11106dbc258f31bde6cdc6ff25682b6f", func := "corsage/corsagelaw06.SchemesMakes", spec := "schemesMakes", unfollowed := true, recurses := true, named := ["math/bits.deBruijn32tab", "math/bits.deBruijn64tab"], apart := false, laid := [("math/bits.deBruijn32tab", laid_math_bits_deBruijn32tab), ("math/bits.deBruijn64tab", laid_math_bits_deBruijn64tab)], narrowed := true }
def SchemesMakesUptoSaid : Prop := schemesMakesUptoRow.holds Tryd.pinned (OpenSpec.upto schemesMakesSpec)

/-- 'corsagelaw06.SchemesSwitches', WHERE WHAT IT READS IS OF BULK AT MOST 1048576: true; the input reads as it did. -/
def schemesSwitchesUptoRow : OpenClaim := { program := "ytdnhfnegnjdeoaadoor", sum := "19c7247d113d36a29725372971c8af7f11106dbc258f31bde6cdc6ff25682b6f", func := "corsage/corsagelaw06.SchemesSwitches", spec := "schemesSwitches", unfollowed := true, recurses := true, named := ["math/bits.deBruijn32tab", "math/bits.deBruijn64tab"], apart := false, laid := [("math/bits.deBruijn32tab", laid_math_bits_deBruijn32tab), ("math/bits.deBruijn64tab", laid_math_bits_deBruijn64tab)], narrowed := true }
def SchemesSwitchesUptoSaid : Prop := schemesSwitchesUptoRow.holds Tryd.pinned (OpenSpec.upto schemesSwitchesSpec)

/-- 'corsagelaw06.SchemesSame', WHERE WHAT IT READS IS OF BULK AT MOST 1048576: true; the input reads as it did. -/
def schemesSameUptoRow : OpenClaim := { program := "ytdnhfnegnjdeoaadoor", sum := "19c7247d113d36a29725372971c8af7f11106dbc258f31bde6cdc6ff25682b6f", func := "corsage/corsagelaw06.SchemesSame", spec := "schemesSame", unfollowed := true, recurses := true, named := ["math/bits.deBruijn32tab", "math/bits.deBruijn64tab"], apart := false, laid := [("math/bits.deBruijn32tab", laid_math_bits_deBruijn32tab), ("math/bits.deBruijn64tab", laid_math_bits_deBruijn64tab)], narrowed := true }
def SchemesSameUptoSaid : Prop := schemesSameUptoRow.holds Tryd.pinned (OpenSpec.upto schemesSameSpec)

/-- 'corsagelaw06.SchemesAlone', WHERE WHAT IT READS IS OF BULK AT MOST 1048576: true; the input reads as it did. -/
def schemesAloneUptoRow : OpenClaim := { program := "ytdnhfnegnjdeoaadoor", sum := "19c7247d113d36a29725372971c8af7f11106dbc258f31bde6cdc6ff25682b6f", func := "corsage/corsagelaw06.SchemesAlone", spec := "schemesAlone", unfollowed := true, recurses := true, named := ["math/bits.deBruijn32tab", "math/bits.deBruijn64tab"], apart := false, laid := [("math/bits.deBruijn32tab", laid_math_bits_deBruijn32tab), ("math/bits.deBruijn64tab", laid_math_bits_deBruijn64tab)], narrowed := true }
def SchemesAloneUptoSaid : Prop := schemesAloneUptoRow.holds Tryd.pinned (OpenSpec.upto schemesAloneSpec)

/-- 'corsagelaw06.SchemesLists', WHERE WHAT IT READS IS OF BULK AT MOST 1048576: true; the input reads as it did. -/
def schemesListsUptoRow : OpenClaim := { program := "ytdnhfnegnjdeoaadoor", sum := "19c7247d113d36a29725372971c8af7f11106dbc258f31bde6cdc6ff25682b6f", func := "corsage/corsagelaw06.SchemesLists", spec := "schemesLists", unfollowed := true, recurses := true, named := ["math/bits.deBruijn32tab", "math/bits.deBruijn64tab"], apart := false, laid := [("math/bits.deBruijn32tab", laid_math_bits_deBruijn32tab), ("math/bits.deBruijn64tab", laid_math_bits_deBruijn64tab)], narrowed := true }
def SchemesListsUptoSaid : Prop := schemesListsUptoRow.holds Tryd.pinned (OpenSpec.upto schemesListsSpec)

/-- 'corsagelaw06.SchemesTold', WHERE WHAT IT READS IS OF BULK AT MOST 1048576: true; the input reads as it did. -/
def schemesToldUptoRow : OpenClaim := { program := "ytdnhfnegnjdeoaadoor", sum := "19c7247d113d36a29725372971c8af7f11106dbc258f31bde6cdc6ff25682b6f", func := "corsage/corsagelaw06.SchemesTold", spec := "schemesTold", unfollowed := true, recurses := true, named := ["math/bits.deBruijn32tab", "math/bits.deBruijn64tab"], apart := false, laid := [("math/bits.deBruijn32tab", laid_math_bits_deBruijn32tab), ("math/bits.deBruijn64tab", laid_math_bits_deBruijn64tab)], narrowed := true }
def SchemesToldUptoSaid : Prop := schemesToldUptoRow.holds Tryd.pinned (OpenSpec.upto schemesToldSpec)

/-- 'corsagelaw06.SchemesFamilies', WHERE WHAT IT READS IS OF BULK AT MOST 1048576: true; the input reads as it did. -/
def schemesFamiliesUptoRow : OpenClaim := { program := "ytdnhfnegnjdeoaadoor", sum := "19c7247d113d36a29725372971c8af7f11106dbc258f31bde6cdc6ff25682b6f", func := "corsage/corsagelaw06.SchemesFamilies", spec := "schemesFamilies", unfollowed := true, recurses := true, named := ["math/bits.deBruijn32tab", "math/bits.deBruijn64tab"], apart := false, laid := [("math/bits.deBruijn32tab", laid_math_bits_deBruijn32tab), ("math/bits.deBruijn64tab", laid_math_bits_deBruijn64tab)], narrowed := true }
def SchemesFamiliesUptoSaid : Prop := schemesFamiliesUptoRow.holds Tryd.pinned (OpenSpec.upto schemesFamiliesSpec)

/-- 'corsagelaw06.SchemesSpectra', WHERE WHAT IT READS IS OF BULK AT MOST 1048576: true; the input reads as it did. -/
def schemesSpectraUptoRow : OpenClaim := { program := "ytdnhfnegnjdeoaadoor", sum := "19c7247d113d36a29725372971c8af7f11106dbc258f31bde6cdc6ff25682b6f", func := "corsage/corsagelaw06.SchemesSpectra", spec := "schemesSpectra", unfollowed := true, recurses := true, named := ["math/bits.deBruijn32tab", "math/bits.deBruijn64tab"], apart := false, laid := [("math/bits.deBruijn32tab", laid_math_bits_deBruijn32tab), ("math/bits.deBruijn64tab", laid_math_bits_deBruijn64tab)], narrowed := true }
def SchemesSpectraUptoSaid : Prop := schemesSpectraUptoRow.holds Tryd.pinned (OpenSpec.upto schemesSpectraSpec)

/-- 'corsagelaw06.SchemesTwice', WHERE WHAT IT READS IS OF BULK AT MOST 1048576: true; the input reads as it did. -/
def schemesTwiceUptoRow : OpenClaim := { program := "ytdnhfnegnjdeoaadoor", sum := "19c7247d113d36a29725372971c8af7f11106dbc258f31bde6cdc6ff25682b6f", func := "corsage/corsagelaw06.SchemesTwice", spec := "schemesTwice", unfollowed := true, recurses := true, named := ["math/bits.deBruijn32tab", "math/bits.deBruijn64tab"], apart := false, laid := [("math/bits.deBruijn32tab", laid_math_bits_deBruijn32tab), ("math/bits.deBruijn64tab", laid_math_bits_deBruijn64tab)], narrowed := true }
def SchemesTwiceUptoSaid : Prop := schemesTwiceUptoRow.holds Tryd.pinned (OpenSpec.upto schemesTwiceSpec)

/-- 'corsagelaw06.SchemesDescend', WHERE WHAT IT READS IS OF BULK AT MOST 1048576: true; the input reads as it did. -/
def schemesDescendUptoRow : OpenClaim := { program := "ytdnhfnegnjdeoaadoor", sum := "19c7247d113d36a29725372971c8af7f11106dbc258f31bde6cdc6ff25682b6f", func := "corsage/corsagelaw06.SchemesDescend", spec := "schemesDescend", unfollowed := true, recurses := true, named := ["math/bits.deBruijn32tab", "math/bits.deBruijn64tab"], apart := false, laid := [("math/bits.deBruijn32tab", laid_math_bits_deBruijn32tab), ("math/bits.deBruijn64tab", laid_math_bits_deBruijn64tab)], narrowed := true }
def SchemesDescendUptoSaid : Prop := schemesDescendUptoRow.holds Tryd.pinned (OpenSpec.upto schemesDescendSpec)

/-- 'corsagetop.TopPaley', WHERE WHAT IT READS IS OF BULK AT MOST 1048576: true; the input reads as it did. -/
def topPaleyUptoRow : OpenClaim := { program := "ytdnhfnegnjdeoaadoor", sum := "19c7247d113d36a29725372971c8af7f11106dbc258f31bde6cdc6ff25682b6f", func := "corsage/corsagetop.TopPaley", spec := "topPaley", unfollowed := true, recurses := true, named := ["math/bits.deBruijn32tab", "math/bits.deBruijn64tab"], apart := false, laid := [("math/bits.deBruijn32tab", laid_math_bits_deBruijn32tab), ("math/bits.deBruijn64tab", laid_math_bits_deBruijn64tab)], narrowed := true }
def TopPaleyUptoSaid : Prop := topPaleyUptoRow.holds Tryd.pinned (OpenSpec.upto topPaleySpec)

/-- 'corsagetop.TopRegular', WHERE WHAT IT READS IS OF BULK AT MOST 1048576: true; the input reads as it did. -/
def topRegularUptoRow : OpenClaim := { program := "ytdnhfnegnjdeoaadoor", sum := "19c7247d113d36a29725372971c8af7f11106dbc258f31bde6cdc6ff25682b6f", func := "corsage/corsagetop.TopRegular", spec := "topRegular", unfollowed := true, recurses := true, named := ["math/bits.deBruijn32tab", "math/bits.deBruijn64tab"], apart := false, laid := [("math/bits.deBruijn32tab", laid_math_bits_deBruijn32tab), ("math/bits.deBruijn64tab", laid_math_bits_deBruijn64tab)], narrowed := true }
def TopRegularUptoSaid : Prop := topRegularUptoRow.holds Tryd.pinned (OpenSpec.upto topRegularSpec)

end Rows
end Go.Proofs.YtdnhfnegnjdeoaaDoor
