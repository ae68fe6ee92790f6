/-
  DERIVED. GIVEN WITH THE SEED: THE CARDS: each row of YtonfllajceppgaaDoorRows.lean that lists a variable, with what it lists TIED to the program's text (the seventh form; the later family's looks); each row that meets fmt, with fmt's text TOLD by the authors' own Lean function (tested against real Go, not proved from fmt's source: count such statements apart). THE CARD IS WHAT COUNTS. Prove the row's statement (the work); the ties are given (YtonfllajceppgaaDoorTie.lean); close each card by the builder's one call (the guide's Derived/Test/ToyasCard.lean, 'card_holds'). Laid BY PROGRAM, IN A SANDBOX (cutbox-door.mjs). By AI agents, Wed Nov 11 2026. No macro, syntax, notation, axiom, sorry.
-/
import Derived.Test.YtonfllajceppgaaDoorRows
import GoSem.ClaimSeven
namespace Go.Proofs.YtonfllajceppgaaDoor
namespace Rows

/-- THE TIED CARD OF 'chirographlaw05.ClockPuts'. -/
def clockPutsCard : Claim7 := { stood := { row := clockPutsRow, standIns := [], harness := (true, "0d49104304ae2c0787406d0455ce713d8988f203f5d7de7ca7b46fb9e27e4efa"), looks := false }, kinds := [], alts := [], laidByText := true, laidKinds := [.data, .data, .data, .data, .pinned], laidTests := true, laidLooks := .later }
def ClockPutsCardSaid : Prop := Claim7.holds Tryd.pinned (.plain (OpenSpec.ofChange clockPutsSpec)) clockPutsCard

/-- THE TIED CARD OF 'chirographlaw05.ClockThere'. -/
def clockThereCard : Claim7 := { stood := { row := clockThereRow, standIns := [], harness := (true, "0d49104304ae2c0787406d0455ce713d8988f203f5d7de7ca7b46fb9e27e4efa"), looks := false }, kinds := [], alts := [], laidByText := true, laidKinds := [.data, .data, .data, .data, .pinned], laidTests := true, laidLooks := .later }
def ClockThereCardSaid : Prop := Claim7.holds Tryd.pinned (.plain (OpenSpec.ofChange clockThereSpec)) clockThereCard

/-- THE SECOND FORM's CARD OF 'chirographlaw05.ClockPuts'. -/
def clockPutsUptoCard : Claim7 := { stood := { row := clockPutsUptoRow, standIns := [], harness := (true, "0d49104304ae2c0787406d0455ce713d8988f203f5d7de7ca7b46fb9e27e4efa"), looks := false }, kinds := [], alts := [], laidByText := true, laidKinds := [.data, .data, .data, .data, .pinned], laidTests := true, laidLooks := .later }
def ClockPutsUptoCardSaid : Prop := Claim7.holds Tryd.pinned (.plain (OpenSpec.upto clockPutsSpec)) clockPutsUptoCard

/-- THE SECOND FORM's CARD OF 'chirographlaw05.ClockThere'. -/
def clockThereUptoCard : Claim7 := { stood := { row := clockThereUptoRow, standIns := [], harness := (true, "0d49104304ae2c0787406d0455ce713d8988f203f5d7de7ca7b46fb9e27e4efa"), looks := false }, kinds := [], alts := [], laidByText := true, laidKinds := [.data, .data, .data, .data, .pinned], laidTests := true, laidLooks := .later }
def ClockThereUptoCardSaid : Prop := Claim7.holds Tryd.pinned (.plain (OpenSpec.upto clockThereSpec)) clockThereUptoCard
end Rows
end Go.Proofs.YtonfllajceppgaaDoor
