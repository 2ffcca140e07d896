/-
  DERIVED. GIVEN WITH THE SEED: THE CARDS: each row of YtdnhfnegnjdeoaaDoorRows.lean that lists a variable, with what it lists TIED to the program's text (the seventh form; the later family's looks); each row that meets fmt, with fmt's text TOLD by the authors' own Lean function (tested against real Go, not proved from fmt's source: count such statements apart). THE CARD IS WHAT COUNTS. Prove the row's statement (the work); the ties are given (YtdnhfnegnjdeoaaDoorTie.lean); close each card by the builder's one call (the guide's Derived/Test/ToyasCard.lean, 'card_holds'). Laid BY PROGRAM, IN A SANDBOX (cutbox-door.mjs). By AI agents, Wed Nov 11 2026. No macro, syntax, notation, axiom, sorry.
-/
import Derived.Test.YtdnhfnegnjdeoaaDoorRows
import GoSem.ClaimSeven
namespace Go.Proofs.YtdnhfnegnjdeoaaDoor
namespace Rows

/-- THE TIED CARD OF 'corsagelaw06.SchemesReads'. -/
def schemesReadsCard : Claim7 := { stood := { row := schemesReadsRow, standIns := [], harness := (true, "1f7800c15cef1337511dba8f4ac9d7b79e9a940efac91069f3482c6d46644f35"), looks := false }, kinds := [], alts := [], laidByText := true, laidKinds := [.data, .data], laidTests := true, laidLooks := .later }
def SchemesReadsCardSaid : Prop := Claim7.holds Tryd.pinned (.plain (OpenSpec.ofChange schemesReadsSpec)) schemesReadsCard

/-- THE TIED CARD OF 'corsagelaw06.SchemesSolves'. -/
def schemesSolvesCard : Claim7 := { stood := { row := schemesSolvesRow, standIns := [], harness := (true, "1f7800c15cef1337511dba8f4ac9d7b79e9a940efac91069f3482c6d46644f35"), looks := false }, kinds := [], alts := [], laidByText := true, laidKinds := [.data, .data], laidTests := true, laidLooks := .later }
def SchemesSolvesCardSaid : Prop := Claim7.holds Tryd.pinned (.plain (OpenSpec.ofChange schemesSolvesSpec)) schemesSolvesCard

/-- THE TIED CARD OF 'corsagelaw06.SchemesMakes'. -/
def schemesMakesCard : Claim7 := { stood := { row := schemesMakesRow, standIns := [], harness := (true, "1f7800c15cef1337511dba8f4ac9d7b79e9a940efac91069f3482c6d46644f35"), looks := false }, kinds := [], alts := [], laidByText := true, laidKinds := [.data, .data], laidTests := true, laidLooks := .later }
def SchemesMakesCardSaid : Prop := Claim7.holds Tryd.pinned (.plain (OpenSpec.ofChange schemesMakesSpec)) schemesMakesCard

/-- THE TIED CARD OF 'corsagelaw06.SchemesSwitches'. -/
def schemesSwitchesCard : Claim7 := { stood := { row := schemesSwitchesRow, standIns := [], harness := (true, "1f7800c15cef1337511dba8f4ac9d7b79e9a940efac91069f3482c6d46644f35"), looks := false }, kinds := [], alts := [], laidByText := true, laidKinds := [.data, .data], laidTests := true, laidLooks := .later }
def SchemesSwitchesCardSaid : Prop := Claim7.holds Tryd.pinned (.plain (OpenSpec.ofChange schemesSwitchesSpec)) schemesSwitchesCard

/-- THE TIED CARD OF 'corsagelaw06.SchemesSame'. -/
def schemesSameCard : Claim7 := { stood := { row := schemesSameRow, standIns := [], harness := (true, "1f7800c15cef1337511dba8f4ac9d7b79e9a940efac91069f3482c6d46644f35"), looks := false }, kinds := [], alts := [], laidByText := true, laidKinds := [.data, .data], laidTests := true, laidLooks := .later }
def SchemesSameCardSaid : Prop := Claim7.holds Tryd.pinned (.plain (OpenSpec.ofChange schemesSameSpec)) schemesSameCard

/-- THE TIED CARD OF 'corsagelaw06.SchemesAlone'. -/
def schemesAloneCard : Claim7 := { stood := { row := schemesAloneRow, standIns := [], harness := (true, "1f7800c15cef1337511dba8f4ac9d7b79e9a940efac91069f3482c6d46644f35"), looks := false }, kinds := [], alts := [], laidByText := true, laidKinds := [.data, .data], laidTests := true, laidLooks := .later }
def SchemesAloneCardSaid : Prop := Claim7.holds Tryd.pinned (.plain (OpenSpec.ofChange schemesAloneSpec)) schemesAloneCard

/-- THE TIED CARD OF 'corsagelaw06.SchemesLists'. -/
def schemesListsCard : Claim7 := { stood := { row := schemesListsRow, standIns := [], harness := (true, "1f7800c15cef1337511dba8f4ac9d7b79e9a940efac91069f3482c6d46644f35"), looks := false }, kinds := [], alts := [], laidByText := true, laidKinds := [.data, .data], laidTests := true, laidLooks := .later }
def SchemesListsCardSaid : Prop := Claim7.holds Tryd.pinned (.plain (OpenSpec.ofChange schemesListsSpec)) schemesListsCard

/-- THE TIED CARD OF 'corsagelaw06.SchemesTold'. -/
def schemesToldCard : Claim7 := { stood := { row := schemesToldRow, standIns := [], harness := (true, "1f7800c15cef1337511dba8f4ac9d7b79e9a940efac91069f3482c6d46644f35"), looks := false }, kinds := [], alts := [], laidByText := true, laidKinds := [.data, .data], laidTests := true, laidLooks := .later }
def SchemesToldCardSaid : Prop := Claim7.holds Tryd.pinned (.plain (OpenSpec.ofChange schemesToldSpec)) schemesToldCard

/-- THE TIED CARD OF 'corsagelaw06.SchemesFamilies'. -/
def schemesFamiliesCard : Claim7 := { stood := { row := schemesFamiliesRow, standIns := [], harness := (true, "1f7800c15cef1337511dba8f4ac9d7b79e9a940efac91069f3482c6d46644f35"), looks := false }, kinds := [], alts := [], laidByText := true, laidKinds := [.data, .data], laidTests := true, laidLooks := .later }
def SchemesFamiliesCardSaid : Prop := Claim7.holds Tryd.pinned (.plain (OpenSpec.ofChange schemesFamiliesSpec)) schemesFamiliesCard

/-- THE TIED CARD OF 'corsagelaw06.SchemesSpectra'. -/
def schemesSpectraCard : Claim7 := { stood := { row := schemesSpectraRow, standIns := [], harness := (true, "1f7800c15cef1337511dba8f4ac9d7b79e9a940efac91069f3482c6d46644f35"), looks := false }, kinds := [], alts := [], laidByText := true, laidKinds := [.data, .data], laidTests := true, laidLooks := .later }
def SchemesSpectraCardSaid : Prop := Claim7.holds Tryd.pinned (.plain (OpenSpec.ofChange schemesSpectraSpec)) schemesSpectraCard

/-- THE TIED CARD OF 'corsagelaw06.SchemesTwice'. -/
def schemesTwiceCard : Claim7 := { stood := { row := schemesTwiceRow, standIns := [], harness := (true, "1f7800c15cef1337511dba8f4ac9d7b79e9a940efac91069f3482c6d46644f35"), looks := false }, kinds := [], alts := [], laidByText := true, laidKinds := [.data, .data], laidTests := true, laidLooks := .later }
def SchemesTwiceCardSaid : Prop := Claim7.holds Tryd.pinned (.plain (OpenSpec.ofChange schemesTwiceSpec)) schemesTwiceCard

/-- THE TIED CARD OF 'corsagelaw06.SchemesDescend'. -/
def schemesDescendCard : Claim7 := { stood := { row := schemesDescendRow, standIns := [], harness := (true, "1f7800c15cef1337511dba8f4ac9d7b79e9a940efac91069f3482c6d46644f35"), looks := false }, kinds := [], alts := [], laidByText := true, laidKinds := [.data, .data], laidTests := true, laidLooks := .later }
def SchemesDescendCardSaid : Prop := Claim7.holds Tryd.pinned (.plain (OpenSpec.ofChange schemesDescendSpec)) schemesDescendCard

/-- THE TIED CARD OF 'corsagetop.TopPaley'. -/
def topPaleyCard : Claim7 := { stood := { row := topPaleyRow, standIns := [], harness := (true, "1f7800c15cef1337511dba8f4ac9d7b79e9a940efac91069f3482c6d46644f35"), looks := false }, kinds := [], alts := [], laidByText := true, laidKinds := [.data, .data], laidTests := true, laidLooks := .later }
def TopPaleyCardSaid : Prop := Claim7.holds Tryd.pinned (.plain (OpenSpec.ofChange topPaleySpec)) topPaleyCard

/-- THE TIED CARD OF 'corsagetop.TopRegular'. -/
def topRegularCard : Claim7 := { stood := { row := topRegularRow, standIns := [], harness := (true, "1f7800c15cef1337511dba8f4ac9d7b79e9a940efac91069f3482c6d46644f35"), looks := false }, kinds := [], alts := [], laidByText := true, laidKinds := [.data, .data], laidTests := true, laidLooks := .later }
def TopRegularCardSaid : Prop := Claim7.holds Tryd.pinned (.plain (OpenSpec.ofChange topRegularSpec)) topRegularCard

/-- THE SECOND FORM's CARD OF 'corsagelaw06.SchemesReads'. -/
def schemesReadsUptoCard : Claim7 := { stood := { row := schemesReadsUptoRow, standIns := [], harness := (true, "1f7800c15cef1337511dba8f4ac9d7b79e9a940efac91069f3482c6d46644f35"), looks := false }, kinds := [], alts := [], laidByText := true, laidKinds := [.data, .data], laidTests := true, laidLooks := .later }
def SchemesReadsUptoCardSaid : Prop := Claim7.holds Tryd.pinned (.plain (OpenSpec.upto schemesReadsSpec)) schemesReadsUptoCard

/-- THE SECOND FORM's CARD OF 'corsagelaw06.SchemesSolves'. -/
def schemesSolvesUptoCard : Claim7 := { stood := { row := schemesSolvesUptoRow, standIns := [], harness := (true, "1f7800c15cef1337511dba8f4ac9d7b79e9a940efac91069f3482c6d46644f35"), looks := false }, kinds := [], alts := [], laidByText := true, laidKinds := [.data, .data], laidTests := true, laidLooks := .later }
def SchemesSolvesUptoCardSaid : Prop := Claim7.holds Tryd.pinned (.plain (OpenSpec.upto schemesSolvesSpec)) schemesSolvesUptoCard

/-- THE SECOND FORM's CARD OF 'corsagelaw06.SchemesMakes'. -/
def schemesMakesUptoCard : Claim7 := { stood := { row := schemesMakesUptoRow, standIns := [], harness := (true, "1f7800c15cef1337511dba8f4ac9d7b79e9a940efac91069f3482c6d46644f35"), looks := false }, kinds := [], alts := [], laidByText := true, laidKinds := [.data, .data], laidTests := true, laidLooks := .later }
def SchemesMakesUptoCardSaid : Prop := Claim7.holds Tryd.pinned (.plain (OpenSpec.upto schemesMakesSpec)) schemesMakesUptoCard

/-- THE SECOND FORM's CARD OF 'corsagelaw06.SchemesSwitches'. -/
def schemesSwitchesUptoCard : Claim7 := { stood := { row := schemesSwitchesUptoRow, standIns := [], harness := (true, "1f7800c15cef1337511dba8f4ac9d7b79e9a940efac91069f3482c6d46644f35"), looks := false }, kinds := [], alts := [], laidByText := true, laidKinds := [.data, .data], laidTests := true, laidLooks := .later }
def SchemesSwitchesUptoCardSaid : Prop := Claim7.holds Tryd.pinned (.plain (OpenSpec.upto schemesSwitchesSpec)) schemesSwitchesUptoCard

/-- THE SECOND FORM's CARD OF 'corsagelaw06.SchemesSame'. -/
def schemesSameUptoCard : Claim7 := { stood := { row := schemesSameUptoRow, standIns := [], harness := (true, "1f7800c15cef1337511dba8f4ac9d7b79e9a940efac91069f3482c6d46644f35"), looks := false }, kinds := [], alts := [], laidByText := true, laidKinds := [.data, .data], laidTests := true, laidLooks := .later }
def SchemesSameUptoCardSaid : Prop := Claim7.holds Tryd.pinned (.plain (OpenSpec.upto schemesSameSpec)) schemesSameUptoCard

/-- THE SECOND FORM's CARD OF 'corsagelaw06.SchemesAlone'. -/
def schemesAloneUptoCard : Claim7 := { stood := { row := schemesAloneUptoRow, standIns := [], harness := (true, "1f7800c15cef1337511dba8f4ac9d7b79e9a940efac91069f3482c6d46644f35"), looks := false }, kinds := [], alts := [], laidByText := true, laidKinds := [.data, .data], laidTests := true, laidLooks := .later }
def SchemesAloneUptoCardSaid : Prop := Claim7.holds Tryd.pinned (.plain (OpenSpec.upto schemesAloneSpec)) schemesAloneUptoCard

/-- THE SECOND FORM's CARD OF 'corsagelaw06.SchemesLists'. -/
def schemesListsUptoCard : Claim7 := { stood := { row := schemesListsUptoRow, standIns := [], harness := (true, "1f7800c15cef1337511dba8f4ac9d7b79e9a940efac91069f3482c6d46644f35"), looks := false }, kinds := [], alts := [], laidByText := true, laidKinds := [.data, .data], laidTests := true, laidLooks := .later }
def SchemesListsUptoCardSaid : Prop := Claim7.holds Tryd.pinned (.plain (OpenSpec.upto schemesListsSpec)) schemesListsUptoCard

/-- THE SECOND FORM's CARD OF 'corsagelaw06.SchemesTold'. -/
def schemesToldUptoCard : Claim7 := { stood := { row := schemesToldUptoRow, standIns := [], harness := (true, "1f7800c15cef1337511dba8f4ac9d7b79e9a940efac91069f3482c6d46644f35"), looks := false }, kinds := [], alts := [], laidByText := true, laidKinds := [.data, .data], laidTests := true, laidLooks := .later }
def SchemesToldUptoCardSaid : Prop := Claim7.holds Tryd.pinned (.plain (OpenSpec.upto schemesToldSpec)) schemesToldUptoCard

/-- THE SECOND FORM's CARD OF 'corsagelaw06.SchemesFamilies'. -/
def schemesFamiliesUptoCard : Claim7 := { stood := { row := schemesFamiliesUptoRow, standIns := [], harness := (true, "1f7800c15cef1337511dba8f4ac9d7b79e9a940efac91069f3482c6d46644f35"), looks := false }, kinds := [], alts := [], laidByText := true, laidKinds := [.data, .data], laidTests := true, laidLooks := .later }
def SchemesFamiliesUptoCardSaid : Prop := Claim7.holds Tryd.pinned (.plain (OpenSpec.upto schemesFamiliesSpec)) schemesFamiliesUptoCard

/-- THE SECOND FORM's CARD OF 'corsagelaw06.SchemesSpectra'. -/
def schemesSpectraUptoCard : Claim7 := { stood := { row := schemesSpectraUptoRow, standIns := [], harness := (true, "1f7800c15cef1337511dba8f4ac9d7b79e9a940efac91069f3482c6d46644f35"), looks := false }, kinds := [], alts := [], laidByText := true, laidKinds := [.data, .data], laidTests := true, laidLooks := .later }
def SchemesSpectraUptoCardSaid : Prop := Claim7.holds Tryd.pinned (.plain (OpenSpec.upto schemesSpectraSpec)) schemesSpectraUptoCard

/-- THE SECOND FORM's CARD OF 'corsagelaw06.SchemesTwice'. -/
def schemesTwiceUptoCard : Claim7 := { stood := { row := schemesTwiceUptoRow, standIns := [], harness := (true, "1f7800c15cef1337511dba8f4ac9d7b79e9a940efac91069f3482c6d46644f35"), looks := false }, kinds := [], alts := [], laidByText := true, laidKinds := [.data, .data], laidTests := true, laidLooks := .later }
def SchemesTwiceUptoCardSaid : Prop := Claim7.holds Tryd.pinned (.plain (OpenSpec.upto schemesTwiceSpec)) schemesTwiceUptoCard

/-- THE SECOND FORM's CARD OF 'corsagelaw06.SchemesDescend'. -/
def schemesDescendUptoCard : Claim7 := { stood := { row := schemesDescendUptoRow, standIns := [], harness := (true, "1f7800c15cef1337511dba8f4ac9d7b79e9a940efac91069f3482c6d46644f35"), looks := false }, kinds := [], alts := [], laidByText := true, laidKinds := [.data, .data], laidTests := true, laidLooks := .later }
def SchemesDescendUptoCardSaid : Prop := Claim7.holds Tryd.pinned (.plain (OpenSpec.upto schemesDescendSpec)) schemesDescendUptoCard

/-- THE SECOND FORM's CARD OF 'corsagetop.TopPaley'. -/
def topPaleyUptoCard : Claim7 := { stood := { row := topPaleyUptoRow, standIns := [], harness := (true, "1f7800c15cef1337511dba8f4ac9d7b79e9a940efac91069f3482c6d46644f35"), looks := false }, kinds := [], alts := [], laidByText := true, laidKinds := [.data, .data], laidTests := true, laidLooks := .later }
def TopPaleyUptoCardSaid : Prop := Claim7.holds Tryd.pinned (.plain (OpenSpec.upto topPaleySpec)) topPaleyUptoCard

/-- THE SECOND FORM's CARD OF 'corsagetop.TopRegular'. -/
def topRegularUptoCard : Claim7 := { stood := { row := topRegularUptoRow, standIns := [], harness := (true, "1f7800c15cef1337511dba8f4ac9d7b79e9a940efac91069f3482c6d46644f35"), looks := false }, kinds := [], alts := [], laidByText := true, laidKinds := [.data, .data], laidTests := true, laidLooks := .later }
def TopRegularUptoCardSaid : Prop := Claim7.holds Tryd.pinned (.plain (OpenSpec.upto topRegularSpec)) topRegularUptoCard
end Rows
end Go.Proofs.YtdnhfnegnjdeoaaDoor
