/-
  DERIVED. GIVEN WITH THE SEED: THE CARDS: each row of YtekacoeikjonmaaDoorRows.lean that lists a variable, with what it lists TIED to the program's text (the seventh form; the later family's looks); each row that meets fmt, with fmt's text TOLD by the authors' own Lean function (tested against real Go, not proved from fmt's source: count such statements apart). THE CARD IS WHAT COUNTS. Prove the row's statement (the work); the ties are given (YtekacoeikjonmaaDoorTie.lean); close each card by the builder's one call (the guide's Derived/Test/ToyasCard.lean, 'card_holds'). Laid BY PROGRAM, IN A SANDBOX (cutbox-door.mjs). By AI agents, Wed Nov 11 2026. No macro, syntax, notation, axiom, sorry.
-/
import Derived.Test.YtekacoeikjonmaaDoorRows
import GoSem.ClaimSeven
namespace Go.Proofs.YtekacoeikjonmaaDoor
namespace Rows

/-- THE TIED CARD OF 'chirographlaw03.BerAgain'. -/
def berAgainCard : Claim7 := { stood := { row := berAgainRow, standIns := [], harness := (true, "702d62d15e08081c24b72886033cbcb91db4de665197ee0653c42847ac8f7aee"), looks := true }, kinds := [], alts := [], laidByText := true, laidKinds := [.handle], laidTests := true, laidLooks := .later }
def BerAgainCardSaid : Prop := Claim7.holds Tryd.pinned (.plain (OpenSpec.ofChange berAgainSpec)) berAgainCard

/-- THE TIED CARD OF 'chirographlaw03.BerBack'. -/
def berBackCard : Claim7 := { stood := { row := berBackRow, standIns := [], harness := (true, "702d62d15e08081c24b72886033cbcb91db4de665197ee0653c42847ac8f7aee"), looks := true }, kinds := [], alts := [], laidByText := true, laidKinds := [.handle], laidTests := true, laidLooks := .later }
def BerBackCardSaid : Prop := Claim7.holds Tryd.pinned (.plain (OpenSpec.ofChange berBackSpec)) berBackCard

/-- THE TIED CARD OF 'chirographlaw03.BerTails'. -/
def berTailsCard : Claim7 := { stood := { row := berTailsRow, standIns := [], harness := (true, "702d62d15e08081c24b72886033cbcb91db4de665197ee0653c42847ac8f7aee"), looks := true }, kinds := [], alts := [], laidByText := true, laidKinds := [.handle], laidTests := true, laidLooks := .later }
def BerTailsCardSaid : Prop := Claim7.holds Tryd.pinned (.plain (OpenSpec.ofChange berTailsSpec)) berTailsCard

/-- THE TIED CARD OF 'chirographlaw03.BerOwn'. -/
def berOwnCard : Claim7 := { stood := { row := berOwnRow, standIns := [], harness := (true, "702d62d15e08081c24b72886033cbcb91db4de665197ee0653c42847ac8f7aee"), looks := true }, kinds := [], alts := [], laidByText := true, laidKinds := [.handle], laidTests := true, laidLooks := .later }
def BerOwnCardSaid : Prop := Claim7.holds Tryd.pinned (.plain (OpenSpec.ofChange berOwnSpec)) berOwnCard

/-- THE SECOND FORM's CARD OF 'chirographlaw03.BerAgain'. -/
def berAgainUptoCard : Claim7 := { stood := { row := berAgainUptoRow, standIns := [], harness := (true, "702d62d15e08081c24b72886033cbcb91db4de665197ee0653c42847ac8f7aee"), looks := true }, kinds := [], alts := [], laidByText := true, laidKinds := [.handle], laidTests := true, laidLooks := .later }
def BerAgainUptoCardSaid : Prop := Claim7.holds Tryd.pinned (.plain (OpenSpec.upto berAgainSpec)) berAgainUptoCard

/-- THE SECOND FORM's CARD OF 'chirographlaw03.BerBack'. -/
def berBackUptoCard : Claim7 := { stood := { row := berBackUptoRow, standIns := [], harness := (true, "702d62d15e08081c24b72886033cbcb91db4de665197ee0653c42847ac8f7aee"), looks := true }, kinds := [], alts := [], laidByText := true, laidKinds := [.handle], laidTests := true, laidLooks := .later }
def BerBackUptoCardSaid : Prop := Claim7.holds Tryd.pinned (.plain (OpenSpec.upto berBackSpec)) berBackUptoCard

/-- THE SECOND FORM's CARD OF 'chirographlaw03.BerTails'. -/
def berTailsUptoCard : Claim7 := { stood := { row := berTailsUptoRow, standIns := [], harness := (true, "702d62d15e08081c24b72886033cbcb91db4de665197ee0653c42847ac8f7aee"), looks := true }, kinds := [], alts := [], laidByText := true, laidKinds := [.handle], laidTests := true, laidLooks := .later }
def BerTailsUptoCardSaid : Prop := Claim7.holds Tryd.pinned (.plain (OpenSpec.upto berTailsSpec)) berTailsUptoCard

/-- THE SECOND FORM's CARD OF 'chirographlaw03.BerOwn'. -/
def berOwnUptoCard : Claim7 := { stood := { row := berOwnUptoRow, standIns := [], harness := (true, "702d62d15e08081c24b72886033cbcb91db4de665197ee0653c42847ac8f7aee"), looks := true }, kinds := [], alts := [], laidByText := true, laidKinds := [.handle], laidTests := true, laidLooks := .later }
def BerOwnUptoCardSaid : Prop := Claim7.holds Tryd.pinned (.plain (OpenSpec.upto berOwnSpec)) berOwnUptoCard
end Rows
end Go.Proofs.YtekacoeikjonmaaDoor
