/-
  DERIVED. GIVEN WITH THE SEED: THE CARDS: each row of YtefebamomdcaaaaGreatDoorRows.lean that lists a variable, with what it lists TIED to the program's text (the seventh form; the later family's looks); each row that meets fmt, with fmt's text TOLD by the authors' own Lean function (tested against real Go, not proved from fmt's source: count such statements apart). THE CARD IS WHAT COUNTS. Prove the row's statement (the work); the ties are given (YtefebamomdcaaaaGreatDoorTie.lean); close each card by the builder's one call (the guide's Derived/Test/ToyasCard.lean, 'card_holds'). Laid BY PROGRAM, IN A SANDBOX (cutbox-door.mjs). By AI agents, Wed Nov 11 2026. No macro, syntax, notation, axiom, sorry.
-/
import Derived.Test.YtefebamomdcaaaaGreatDoorRows
import GoSem.ClaimSeven
namespace Go.Proofs.YtefebamomdcaaaaGreatDoor
namespace Rows

/-- THE TIED CARD OF 'chirographlaw03.BerParses'. -/
def berParsesCard : Claim7 := { stood := { row := berParsesRow, standIns := [], harness := (true, "8674adc02c2b172f2d752586f86a6a6c6e4ddfdb3382d8aa2bfacc5501f07024"), looks := true }, kinds := [], alts := [], laidByText := true, laidKinds := [.handle], laidTests := true, laidLooks := .later }
def BerParsesCardSaid : Prop := Claim7.holds Tryz.pinned (.plain (OpenSpec.ofChange berParsesSpec)) berParsesCard

/-- THE TIED CARD OF 'chirographlaw03.BerEncodes'. -/
def berEncodesCard : Claim7 := { stood := { row := berEncodesRow, standIns := [], harness := (true, "8674adc02c2b172f2d752586f86a6a6c6e4ddfdb3382d8aa2bfacc5501f07024"), looks := true }, kinds := [], alts := [], laidByText := true, laidKinds := [.handle], laidTests := true, laidLooks := .later }
def BerEncodesCardSaid : Prop := Claim7.holds Tryz.pinned (.plain (OpenSpec.ofChange berEncodesSpec)) berEncodesCard

/-- THE TIED CARD OF 'chirographlaw03.BerNormals'. -/
def berNormalsCard : Claim7 := { stood := { row := berNormalsRow, standIns := [], harness := (true, "8674adc02c2b172f2d752586f86a6a6c6e4ddfdb3382d8aa2bfacc5501f07024"), looks := true }, kinds := [], alts := [], laidByText := true, laidKinds := [.handle], laidTests := true, laidLooks := .later }
def BerNormalsCardSaid : Prop := Claim7.holds Tryz.pinned (.plain (OpenSpec.ofChange berNormalsSpec)) berNormalsCard

/-- THE TIED CARD OF 'chirographlaw03.BerDers'. -/
def berDersCard : Claim7 := { stood := { row := berDersRow, standIns := [], harness := (true, "8674adc02c2b172f2d752586f86a6a6c6e4ddfdb3382d8aa2bfacc5501f07024"), looks := true }, kinds := [], alts := [], laidByText := true, laidKinds := [.handle], laidTests := true, laidLooks := .later }
def BerDersCardSaid : Prop := Claim7.holds Tryz.pinned (.plain (OpenSpec.ofChange berDersSpec)) berDersCard

/-- THE TIED CARD OF 'chirographlaw03.BerWays'. -/
def berWaysCard : Claim7 := { stood := { row := berWaysRow, standIns := [], harness := (true, "8674adc02c2b172f2d752586f86a6a6c6e4ddfdb3382d8aa2bfacc5501f07024"), looks := true }, kinds := [], alts := [], laidByText := true, laidKinds := [.handle], laidTests := true, laidLooks := .later }
def BerWaysCardSaid : Prop := Claim7.holds Tryz.pinned (.plain (OpenSpec.ofChange berWaysSpec)) berWaysCard

/-- THE TIED CARD OF 'chirographlaw04.DerWhole'. -/
def derWholeCard : Claim7 := { stood := { row := derWholeRow, standIns := [], harness := (true, "8674adc02c2b172f2d752586f86a6a6c6e4ddfdb3382d8aa2bfacc5501f07024"), looks := true }, kinds := [], alts := [], laidByText := true, laidKinds := [.data, .data, .data, .handle], laidTests := true, laidLooks := .later }
def DerWholeCardSaid : Prop := Claim7.holds Tryz.pinned (.plain (OpenSpec.ofChange derWholeSpec)) derWholeCard

/-- THE SECOND FORM's CARD OF 'chirographlaw03.BerParses'. -/
def berParsesUptoCard : Claim7 := { stood := { row := berParsesUptoRow, standIns := [], harness := (true, "8674adc02c2b172f2d752586f86a6a6c6e4ddfdb3382d8aa2bfacc5501f07024"), looks := true }, kinds := [], alts := [], laidByText := true, laidKinds := [.handle], laidTests := true, laidLooks := .later }
def BerParsesUptoCardSaid : Prop := Claim7.holds Tryz.pinned (.plain (OpenSpec.upto berParsesSpec)) berParsesUptoCard

/-- THE SECOND FORM's CARD OF 'chirographlaw03.BerEncodes'. -/
def berEncodesUptoCard : Claim7 := { stood := { row := berEncodesUptoRow, standIns := [], harness := (true, "8674adc02c2b172f2d752586f86a6a6c6e4ddfdb3382d8aa2bfacc5501f07024"), looks := true }, kinds := [], alts := [], laidByText := true, laidKinds := [.handle], laidTests := true, laidLooks := .later }
def BerEncodesUptoCardSaid : Prop := Claim7.holds Tryz.pinned (.plain (OpenSpec.upto berEncodesSpec)) berEncodesUptoCard

/-- THE SECOND FORM's CARD OF 'chirographlaw03.BerNormals'. -/
def berNormalsUptoCard : Claim7 := { stood := { row := berNormalsUptoRow, standIns := [], harness := (true, "8674adc02c2b172f2d752586f86a6a6c6e4ddfdb3382d8aa2bfacc5501f07024"), looks := true }, kinds := [], alts := [], laidByText := true, laidKinds := [.handle], laidTests := true, laidLooks := .later }
def BerNormalsUptoCardSaid : Prop := Claim7.holds Tryz.pinned (.plain (OpenSpec.upto berNormalsSpec)) berNormalsUptoCard

/-- THE SECOND FORM's CARD OF 'chirographlaw03.BerDers'. -/
def berDersUptoCard : Claim7 := { stood := { row := berDersUptoRow, standIns := [], harness := (true, "8674adc02c2b172f2d752586f86a6a6c6e4ddfdb3382d8aa2bfacc5501f07024"), looks := true }, kinds := [], alts := [], laidByText := true, laidKinds := [.handle], laidTests := true, laidLooks := .later }
def BerDersUptoCardSaid : Prop := Claim7.holds Tryz.pinned (.plain (OpenSpec.upto berDersSpec)) berDersUptoCard

/-- THE SECOND FORM's CARD OF 'chirographlaw03.BerWays'. -/
def berWaysUptoCard : Claim7 := { stood := { row := berWaysUptoRow, standIns := [], harness := (true, "8674adc02c2b172f2d752586f86a6a6c6e4ddfdb3382d8aa2bfacc5501f07024"), looks := true }, kinds := [], alts := [], laidByText := true, laidKinds := [.handle], laidTests := true, laidLooks := .later }
def BerWaysUptoCardSaid : Prop := Claim7.holds Tryz.pinned (.plain (OpenSpec.upto berWaysSpec)) berWaysUptoCard

/-- THE SECOND FORM's CARD OF 'chirographlaw04.DerWhole'. -/
def derWholeUptoCard : Claim7 := { stood := { row := derWholeUptoRow, standIns := [], harness := (true, "8674adc02c2b172f2d752586f86a6a6c6e4ddfdb3382d8aa2bfacc5501f07024"), looks := true }, kinds := [], alts := [], laidByText := true, laidKinds := [.data, .data, .data, .handle], laidTests := true, laidLooks := .later }
def DerWholeUptoCardSaid : Prop := Claim7.holds Tryz.pinned (.plain (OpenSpec.upto derWholeSpec)) derWholeUptoCard
end Rows
end Go.Proofs.YtefebamomdcaaaaGreatDoor
