/-
  DERIVED. GIVEN WITH THE SEED: THE CARDS: each row of YtkjjfjekpdjboaaDoorRows.lean that lists a variable, with what it lists TIED to the program's text (the seventh form; the later family's looks); each row that meets fmt, with fmt's text TOLD by the authors' own Lean function (tested against real Go, not proved from fmt's source: count such statements apart). THE CARD IS WHAT COUNTS. Prove the row's statement (the work); the ties are given (YtkjjfjekpdjboaaDoorTie.lean); close each card by the builder's one call (the guide's Derived/Test/ToyasCard.lean, 'card_holds'). Laid BY PROGRAM, IN A SANDBOX (cutbox-door.mjs). By AI agents, Wed Nov 11 2026. No macro, syntax, notation, axiom, sorry.
-/
import Derived.Test.YtkjjfjekpdjboaaDoorRows
import GoSem.ClaimSeven
namespace Go.Proofs.YtkjjfjekpdjboaaDoor
namespace Rows

/-- THE TIED CARD OF 'chirographlaw08.RsaChecks'. -/
def rsaChecksCard : Claim7 := { stood := { row := rsaChecksRow, standIns := [], harness := (true, "7a5c06a743173b13e17576c6ea4e273f732e39a63c6db78930a0049ee2f02ce9"), looks := false }, kinds := [], alts := [], laidByText := true, laidKinds := [.data, .data, .data, .data, .data, .data, .data], laidTests := true, laidLooks := .later }
def RsaChecksCardSaid : Prop := Claim7.holds Tryd.pinned (.plain (OpenSpec.ofChange rsaChecksSpec)) rsaChecksCard

/-- THE TIED CARD OF 'chirographlaw08.RsaMasks'. -/
def rsaMasksCard : Claim7 := { stood := { row := rsaMasksRow, standIns := [], harness := (true, "7a5c06a743173b13e17576c6ea4e273f732e39a63c6db78930a0049ee2f02ce9"), looks := false }, kinds := [], alts := [], laidByText := true, laidKinds := [.data, .data, .data, .data, .data, .data, .data], laidTests := true, laidLooks := .later }
def RsaMasksCardSaid : Prop := Claim7.holds Tryd.pinned (.plain (OpenSpec.ofChange rsaMasksSpec)) rsaMasksCard

/-- THE TIED CARD OF 'chirographlaw08.RsaPads'. -/
def rsaPadsCard : Claim7 := { stood := { row := rsaPadsRow, standIns := [], harness := (true, "7a5c06a743173b13e17576c6ea4e273f732e39a63c6db78930a0049ee2f02ce9"), looks := false }, kinds := [], alts := [], laidByText := true, laidKinds := [.data, .data, .data, .data, .data, .data, .data], laidTests := true, laidLooks := .later }
def RsaPadsCardSaid : Prop := Claim7.holds Tryd.pinned (.plain (OpenSpec.ofChange rsaPadsSpec)) rsaPadsCard

/-- THE SECOND FORM's CARD OF 'chirographlaw08.RsaChecks'. -/
def rsaChecksUptoCard : Claim7 := { stood := { row := rsaChecksUptoRow, standIns := [], harness := (true, "7a5c06a743173b13e17576c6ea4e273f732e39a63c6db78930a0049ee2f02ce9"), looks := false }, kinds := [], alts := [], laidByText := true, laidKinds := [.data, .data, .data, .data, .data, .data, .data], laidTests := true, laidLooks := .later }
def RsaChecksUptoCardSaid : Prop := Claim7.holds Tryd.pinned (.plain (OpenSpec.upto rsaChecksSpec)) rsaChecksUptoCard

/-- THE SECOND FORM's CARD OF 'chirographlaw08.RsaMasks'. -/
def rsaMasksUptoCard : Claim7 := { stood := { row := rsaMasksUptoRow, standIns := [], harness := (true, "7a5c06a743173b13e17576c6ea4e273f732e39a63c6db78930a0049ee2f02ce9"), looks := false }, kinds := [], alts := [], laidByText := true, laidKinds := [.data, .data, .data, .data, .data, .data, .data], laidTests := true, laidLooks := .later }
def RsaMasksUptoCardSaid : Prop := Claim7.holds Tryd.pinned (.plain (OpenSpec.upto rsaMasksSpec)) rsaMasksUptoCard

/-- THE SECOND FORM's CARD OF 'chirographlaw08.RsaPads'. -/
def rsaPadsUptoCard : Claim7 := { stood := { row := rsaPadsUptoRow, standIns := [], harness := (true, "7a5c06a743173b13e17576c6ea4e273f732e39a63c6db78930a0049ee2f02ce9"), looks := false }, kinds := [], alts := [], laidByText := true, laidKinds := [.data, .data, .data, .data, .data, .data, .data], laidTests := true, laidLooks := .later }
def RsaPadsUptoCardSaid : Prop := Claim7.holds Tryd.pinned (.plain (OpenSpec.upto rsaPadsSpec)) rsaPadsUptoCard
end Rows
end Go.Proofs.YtkjjfjekpdjboaaDoor
