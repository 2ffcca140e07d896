/-
  DERIVED. GIVEN WITH THE SEED: THE CARDS: each row of YtellnklbkjajbaaDoorRows.lean that lists a variable, with what it lists TIED to the program's text (the seventh form; the later family's looks); each row that meets fmt, with fmt's text TOLD by the authors' own Lean function (tested against real Go, not proved from fmt's source: count such statements apart). THE CARD IS WHAT COUNTS. Prove the row's statement (the work); the ties are given (YtellnklbkjajbaaDoorTie.lean); close each card by the builder's one call (the guide's Derived/Test/ToyasCard.lean, 'card_holds'). Laid BY PROGRAM, IN A SANDBOX (cutbox-door.mjs). By AI agents, Wed Nov 11 2026. No macro, syntax, notation, axiom, sorry.
-/
import Derived.Test.YtellnklbkjajbaaDoorRows
import GoSem.ClaimSeven
namespace Go.Proofs.YtellnklbkjajbaaDoor
namespace Rows

/-- THE TIED CARD OF 'corsagelaw05.RooksCounts'. -/
def rooksCountsCard : Claim7 := { stood := { row := rooksCountsRow, standIns := [], harness := (true, "f0f8bcee5a790f1191e61dad6abafdce3822df704abf99cb5696a847ad05dc5c"), looks := false }, kinds := [], alts := [], laidByText := true, laidKinds := [.data, .data], laidTests := true, laidLooks := .later }
def RooksCountsCardSaid : Prop := Claim7.holds Tryd.pinned (.plain (OpenSpec.ofChange rooksCountsSpec)) rooksCountsCard

/-- THE TIED CARD OF 'corsagelaw05.RooksAvoids'. -/
def rooksAvoidsCard : Claim7 := { stood := { row := rooksAvoidsRow, standIns := [], harness := (true, "f0f8bcee5a790f1191e61dad6abafdce3822df704abf99cb5696a847ad05dc5c"), looks := false }, kinds := [], alts := [], laidByText := true, laidKinds := [.data, .data], laidTests := true, laidLooks := .later }
def RooksAvoidsCardSaid : Prop := Claim7.holds Tryd.pinned (.plain (OpenSpec.ofChange rooksAvoidsSpec)) rooksAvoidsCard

/-- THE TIED CARD OF 'corsagelaw05.RooksLess'. -/
def rooksLessCard : Claim7 := { stood := { row := rooksLessRow, standIns := [], harness := (true, "f0f8bcee5a790f1191e61dad6abafdce3822df704abf99cb5696a847ad05dc5c"), looks := false }, kinds := [], alts := [], laidByText := true, laidKinds := [.data, .data], laidTests := true, laidLooks := .later }
def RooksLessCardSaid : Prop := Claim7.holds Tryd.pinned (.plain (OpenSpec.ofChange rooksLessSpec)) rooksLessCard

/-- THE TIED CARD OF 'corsagelaw05.RooksStairs'. -/
def rooksStairsCard : Claim7 := { stood := { row := rooksStairsRow, standIns := [], harness := (true, "f0f8bcee5a790f1191e61dad6abafdce3822df704abf99cb5696a847ad05dc5c"), looks := false }, kinds := [], alts := [], laidByText := true, laidKinds := [.data, .data], laidTests := true, laidLooks := .later }
def RooksStairsCardSaid : Prop := Claim7.holds Tryd.pinned (.plain (OpenSpec.ofChange rooksStairsSpec)) rooksStairsCard

/-- THE TIED CARD OF 'corsagelaw05.RooksSteep'. -/
def rooksSteepCard : Claim7 := { stood := { row := rooksSteepRow, standIns := [], harness := (true, "f0f8bcee5a790f1191e61dad6abafdce3822df704abf99cb5696a847ad05dc5c"), looks := false }, kinds := [], alts := [], laidByText := true, laidKinds := [.data, .data], laidTests := true, laidLooks := .later }
def RooksSteepCardSaid : Prop := Claim7.holds Tryd.pinned (.plain (OpenSpec.ofChange rooksSteepSpec)) rooksSteepCard

/-- THE TIED CARD OF 'corsagelaw05.RooksGuests'. -/
def rooksGuestsCard : Claim7 := { stood := { row := rooksGuestsRow, standIns := [], harness := (true, "f0f8bcee5a790f1191e61dad6abafdce3822df704abf99cb5696a847ad05dc5c"), looks := false }, kinds := [], alts := [], laidByText := true, laidKinds := [.data, .data], laidTests := true, laidLooks := .later }
def RooksGuestsCardSaid : Prop := Claim7.holds Tryd.pinned (.plain (OpenSpec.ofChange rooksGuestsSpec)) rooksGuestsCard

/-- THE TIED CARD OF 'corsagelaw05.RooksCut'. -/
def rooksCutCard : Claim7 := { stood := { row := rooksCutRow, standIns := [], harness := (true, "f0f8bcee5a790f1191e61dad6abafdce3822df704abf99cb5696a847ad05dc5c"), looks := false }, kinds := [], alts := [], laidByText := true, laidKinds := [.data, .data], laidTests := true, laidLooks := .later }
def RooksCutCardSaid : Prop := Claim7.holds Tryd.pinned (.plain (OpenSpec.ofChange rooksCutSpec)) rooksCutCard

/-- THE TIED CARD OF 'corsagelaw05.RooksHits'. -/
def rooksHitsCard : Claim7 := { stood := { row := rooksHitsRow, standIns := [], harness := (true, "f0f8bcee5a790f1191e61dad6abafdce3822df704abf99cb5696a847ad05dc5c"), looks := false }, kinds := [], alts := [], laidByText := true, laidKinds := [.data, .data], laidTests := true, laidLooks := .later }
def RooksHitsCardSaid : Prop := Claim7.holds Tryd.pinned (.plain (OpenSpec.ofChange rooksHitsSpec)) rooksHitsCard

/-- THE TIED CARD OF 'corsagelaw05.RooksEither'. -/
def rooksEitherCard : Claim7 := { stood := { row := rooksEitherRow, standIns := [], harness := (true, "f0f8bcee5a790f1191e61dad6abafdce3822df704abf99cb5696a847ad05dc5c"), looks := false }, kinds := [], alts := [], laidByText := true, laidKinds := [.data, .data], laidTests := true, laidLooks := .later }
def RooksEitherCardSaid : Prop := Claim7.holds Tryd.pinned (.plain (OpenSpec.ofChange rooksEitherSpec)) rooksEitherCard

/-- THE TIED CARD OF 'corsagelaw05.RooksFactors'. -/
def rooksFactorsCard : Claim7 := { stood := { row := rooksFactorsRow, standIns := [], harness := (true, "f0f8bcee5a790f1191e61dad6abafdce3822df704abf99cb5696a847ad05dc5c"), looks := false }, kinds := [], alts := [], laidByText := true, laidKinds := [.data, .data], laidTests := true, laidLooks := .later }
def RooksFactorsCardSaid : Prop := Claim7.holds Tryd.pinned (.plain (OpenSpec.ofChange rooksFactorsSpec)) rooksFactorsCard

/-- THE TIED CARD OF 'corsagelaw05.RooksTurned'. -/
def rooksTurnedCard : Claim7 := { stood := { row := rooksTurnedRow, standIns := [], harness := (true, "f0f8bcee5a790f1191e61dad6abafdce3822df704abf99cb5696a847ad05dc5c"), looks := false }, kinds := [], alts := [], laidByText := true, laidKinds := [.data, .data], laidTests := true, laidLooks := .later }
def RooksTurnedCardSaid : Prop := Claim7.holds Tryd.pinned (.plain (OpenSpec.ofChange rooksTurnedSpec)) rooksTurnedCard

/-- THE TIED CARD OF 'corsagetop.TopEuler'. -/
def topEulerCard : Claim7 := { stood := { row := topEulerRow, standIns := [], harness := (true, "f0f8bcee5a790f1191e61dad6abafdce3822df704abf99cb5696a847ad05dc5c"), looks := false }, kinds := [], alts := [], laidByText := true, laidKinds := [.data, .data], laidTests := true, laidLooks := .later }
def TopEulerCardSaid : Prop := Claim7.holds Tryd.pinned (.plain (OpenSpec.ofChange topEulerSpec)) topEulerCard

/-- THE SECOND FORM's CARD OF 'corsagelaw05.RooksCounts'. -/
def rooksCountsUptoCard : Claim7 := { stood := { row := rooksCountsUptoRow, standIns := [], harness := (true, "f0f8bcee5a790f1191e61dad6abafdce3822df704abf99cb5696a847ad05dc5c"), looks := false }, kinds := [], alts := [], laidByText := true, laidKinds := [.data, .data], laidTests := true, laidLooks := .later }
def RooksCountsUptoCardSaid : Prop := Claim7.holds Tryd.pinned (.plain (OpenSpec.upto rooksCountsSpec)) rooksCountsUptoCard

/-- THE SECOND FORM's CARD OF 'corsagelaw05.RooksAvoids'. -/
def rooksAvoidsUptoCard : Claim7 := { stood := { row := rooksAvoidsUptoRow, standIns := [], harness := (true, "f0f8bcee5a790f1191e61dad6abafdce3822df704abf99cb5696a847ad05dc5c"), looks := false }, kinds := [], alts := [], laidByText := true, laidKinds := [.data, .data], laidTests := true, laidLooks := .later }
def RooksAvoidsUptoCardSaid : Prop := Claim7.holds Tryd.pinned (.plain (OpenSpec.upto rooksAvoidsSpec)) rooksAvoidsUptoCard

/-- THE SECOND FORM's CARD OF 'corsagelaw05.RooksLess'. -/
def rooksLessUptoCard : Claim7 := { stood := { row := rooksLessUptoRow, standIns := [], harness := (true, "f0f8bcee5a790f1191e61dad6abafdce3822df704abf99cb5696a847ad05dc5c"), looks := false }, kinds := [], alts := [], laidByText := true, laidKinds := [.data, .data], laidTests := true, laidLooks := .later }
def RooksLessUptoCardSaid : Prop := Claim7.holds Tryd.pinned (.plain (OpenSpec.upto rooksLessSpec)) rooksLessUptoCard

/-- THE SECOND FORM's CARD OF 'corsagelaw05.RooksStairs'. -/
def rooksStairsUptoCard : Claim7 := { stood := { row := rooksStairsUptoRow, standIns := [], harness := (true, "f0f8bcee5a790f1191e61dad6abafdce3822df704abf99cb5696a847ad05dc5c"), looks := false }, kinds := [], alts := [], laidByText := true, laidKinds := [.data, .data], laidTests := true, laidLooks := .later }
def RooksStairsUptoCardSaid : Prop := Claim7.holds Tryd.pinned (.plain (OpenSpec.upto rooksStairsSpec)) rooksStairsUptoCard

/-- THE SECOND FORM's CARD OF 'corsagelaw05.RooksSteep'. -/
def rooksSteepUptoCard : Claim7 := { stood := { row := rooksSteepUptoRow, standIns := [], harness := (true, "f0f8bcee5a790f1191e61dad6abafdce3822df704abf99cb5696a847ad05dc5c"), looks := false }, kinds := [], alts := [], laidByText := true, laidKinds := [.data, .data], laidTests := true, laidLooks := .later }
def RooksSteepUptoCardSaid : Prop := Claim7.holds Tryd.pinned (.plain (OpenSpec.upto rooksSteepSpec)) rooksSteepUptoCard

/-- THE SECOND FORM's CARD OF 'corsagelaw05.RooksGuests'. -/
def rooksGuestsUptoCard : Claim7 := { stood := { row := rooksGuestsUptoRow, standIns := [], harness := (true, "f0f8bcee5a790f1191e61dad6abafdce3822df704abf99cb5696a847ad05dc5c"), looks := false }, kinds := [], alts := [], laidByText := true, laidKinds := [.data, .data], laidTests := true, laidLooks := .later }
def RooksGuestsUptoCardSaid : Prop := Claim7.holds Tryd.pinned (.plain (OpenSpec.upto rooksGuestsSpec)) rooksGuestsUptoCard

/-- THE SECOND FORM's CARD OF 'corsagelaw05.RooksCut'. -/
def rooksCutUptoCard : Claim7 := { stood := { row := rooksCutUptoRow, standIns := [], harness := (true, "f0f8bcee5a790f1191e61dad6abafdce3822df704abf99cb5696a847ad05dc5c"), looks := false }, kinds := [], alts := [], laidByText := true, laidKinds := [.data, .data], laidTests := true, laidLooks := .later }
def RooksCutUptoCardSaid : Prop := Claim7.holds Tryd.pinned (.plain (OpenSpec.upto rooksCutSpec)) rooksCutUptoCard

/-- THE SECOND FORM's CARD OF 'corsagelaw05.RooksHits'. -/
def rooksHitsUptoCard : Claim7 := { stood := { row := rooksHitsUptoRow, standIns := [], harness := (true, "f0f8bcee5a790f1191e61dad6abafdce3822df704abf99cb5696a847ad05dc5c"), looks := false }, kinds := [], alts := [], laidByText := true, laidKinds := [.data, .data], laidTests := true, laidLooks := .later }
def RooksHitsUptoCardSaid : Prop := Claim7.holds Tryd.pinned (.plain (OpenSpec.upto rooksHitsSpec)) rooksHitsUptoCard

/-- THE SECOND FORM's CARD OF 'corsagelaw05.RooksEither'. -/
def rooksEitherUptoCard : Claim7 := { stood := { row := rooksEitherUptoRow, standIns := [], harness := (true, "f0f8bcee5a790f1191e61dad6abafdce3822df704abf99cb5696a847ad05dc5c"), looks := false }, kinds := [], alts := [], laidByText := true, laidKinds := [.data, .data], laidTests := true, laidLooks := .later }
def RooksEitherUptoCardSaid : Prop := Claim7.holds Tryd.pinned (.plain (OpenSpec.upto rooksEitherSpec)) rooksEitherUptoCard

/-- THE SECOND FORM's CARD OF 'corsagelaw05.RooksFactors'. -/
def rooksFactorsUptoCard : Claim7 := { stood := { row := rooksFactorsUptoRow, standIns := [], harness := (true, "f0f8bcee5a790f1191e61dad6abafdce3822df704abf99cb5696a847ad05dc5c"), looks := false }, kinds := [], alts := [], laidByText := true, laidKinds := [.data, .data], laidTests := true, laidLooks := .later }
def RooksFactorsUptoCardSaid : Prop := Claim7.holds Tryd.pinned (.plain (OpenSpec.upto rooksFactorsSpec)) rooksFactorsUptoCard

/-- THE SECOND FORM's CARD OF 'corsagelaw05.RooksTurned'. -/
def rooksTurnedUptoCard : Claim7 := { stood := { row := rooksTurnedUptoRow, standIns := [], harness := (true, "f0f8bcee5a790f1191e61dad6abafdce3822df704abf99cb5696a847ad05dc5c"), looks := false }, kinds := [], alts := [], laidByText := true, laidKinds := [.data, .data], laidTests := true, laidLooks := .later }
def RooksTurnedUptoCardSaid : Prop := Claim7.holds Tryd.pinned (.plain (OpenSpec.upto rooksTurnedSpec)) rooksTurnedUptoCard

/-- THE SECOND FORM's CARD OF 'corsagetop.TopEuler'. -/
def topEulerUptoCard : Claim7 := { stood := { row := topEulerUptoRow, standIns := [], harness := (true, "f0f8bcee5a790f1191e61dad6abafdce3822df704abf99cb5696a847ad05dc5c"), looks := false }, kinds := [], alts := [], laidByText := true, laidKinds := [.data, .data], laidTests := true, laidLooks := .later }
def TopEulerUptoCardSaid : Prop := Claim7.holds Tryd.pinned (.plain (OpenSpec.upto topEulerSpec)) topEulerUptoCard
end Rows
end Go.Proofs.YtellnklbkjajbaaDoor
