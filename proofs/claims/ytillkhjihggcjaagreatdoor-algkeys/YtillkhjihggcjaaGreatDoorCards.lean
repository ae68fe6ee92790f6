/-
  DERIVED. GIVEN WITH THE SEED: THE CARDS: each row of YtillkhjihggcjaaGreatDoorRows.lean that lists a variable, with what it lists TIED to the program's text (the seventh form; the later family's looks); each row that meets fmt, with fmt's text TOLD by the authors' own Lean function (tested against real Go, not proved from fmt's source: count such statements apart). THE CARD IS WHAT COUNTS. Prove the row's statement (the work); the ties are given (YtillkhjihggcjaaGreatDoorTie.lean); close each card by the builder's one call (the guide's Derived/Test/ToyasCard.lean, 'card_holds'). Laid BY PROGRAM, IN A SANDBOX (cutbox-door.mjs). By AI agents, Wed Nov 11 2026. No macro, syntax, notation, axiom, sorry.
-/
import Derived.Test.YtillkhjihggcjaaGreatDoorRows
import GoSem.ClaimSeven
namespace Go.Proofs.YtillkhjihggcjaaGreatDoor
namespace Rows

/-- THE TIED CARD OF 'chirographlaw11.AlgReads'. -/
def algReadsCard : Claim7 := { stood := { row := algReadsRow, standIns := [], harness := (true, "0d9e6526a4727715ac61c9b595fc2fcc5445661621c0066f4ab8a566622ddffc"), looks := true }, kinds := [], alts := [], laidByText := true, laidKinds := [.data, .data, .data, .sentinel, .sentinel], laidTests := true, laidLooks := .later }
def AlgReadsCardSaid : Prop := Claim7.holds Tryz.pinned (.plain (OpenSpec.ofChange algReadsSpec)) algReadsCard

/-- THE TIED CARD OF 'chirographlaw11.AlgKeys'. -/
def algKeysCard : Claim7 := { stood := { row := algKeysRow, standIns := [], harness := (true, "0d9e6526a4727715ac61c9b595fc2fcc5445661621c0066f4ab8a566622ddffc"), looks := true }, kinds := [], alts := [], laidByText := true, laidKinds := [.data, .data, .data, .sentinel, .sentinel], laidTests := true, laidLooks := .later }
def AlgKeysCardSaid : Prop := Claim7.holds Tryz.pinned (.plain (OpenSpec.ofChange algKeysSpec)) algKeysCard

/-- THE TIED CARD OF 'chirographlaw11.AlgVoid'. -/
def algVoidCard : Claim7 := { stood := { row := algVoidRow, standIns := [], harness := (true, "0d9e6526a4727715ac61c9b595fc2fcc5445661621c0066f4ab8a566622ddffc"), looks := true }, kinds := [], alts := [], laidByText := true, laidKinds := [.data, .data, .data, .sentinel, .sentinel], laidTests := true, laidLooks := .later }
def AlgVoidCardSaid : Prop := Claim7.holds Tryz.pinned (.plain (OpenSpec.ofChange algVoidSpec)) algVoidCard

/-- THE SECOND FORM's CARD OF 'chirographlaw11.AlgReads'. -/
def algReadsUptoCard : Claim7 := { stood := { row := algReadsUptoRow, standIns := [], harness := (true, "0d9e6526a4727715ac61c9b595fc2fcc5445661621c0066f4ab8a566622ddffc"), looks := true }, kinds := [], alts := [], laidByText := true, laidKinds := [.data, .data, .data, .sentinel, .sentinel], laidTests := true, laidLooks := .later }
def AlgReadsUptoCardSaid : Prop := Claim7.holds Tryz.pinned (.plain (OpenSpec.upto algReadsSpec)) algReadsUptoCard

/-- THE SECOND FORM's CARD OF 'chirographlaw11.AlgKeys'. -/
def algKeysUptoCard : Claim7 := { stood := { row := algKeysUptoRow, standIns := [], harness := (true, "0d9e6526a4727715ac61c9b595fc2fcc5445661621c0066f4ab8a566622ddffc"), looks := true }, kinds := [], alts := [], laidByText := true, laidKinds := [.data, .data, .data, .sentinel, .sentinel], laidTests := true, laidLooks := .later }
def AlgKeysUptoCardSaid : Prop := Claim7.holds Tryz.pinned (.plain (OpenSpec.upto algKeysSpec)) algKeysUptoCard

/-- THE SECOND FORM's CARD OF 'chirographlaw11.AlgVoid'. -/
def algVoidUptoCard : Claim7 := { stood := { row := algVoidUptoRow, standIns := [], harness := (true, "0d9e6526a4727715ac61c9b595fc2fcc5445661621c0066f4ab8a566622ddffc"), looks := true }, kinds := [], alts := [], laidByText := true, laidKinds := [.data, .data, .data, .sentinel, .sentinel], laidTests := true, laidLooks := .later }
def AlgVoidUptoCardSaid : Prop := Claim7.holds Tryz.pinned (.plain (OpenSpec.upto algVoidSpec)) algVoidUptoCard
end Rows
end Go.Proofs.YtillkhjihggcjaaGreatDoor
