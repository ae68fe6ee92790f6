/-
  DERIVED. GIVEN WITH THE SEED: THE CARDS: each row of YtmfdhfdcokkclaaGreatDoorRows.lean that lists a variable, with what it lists TIED to the program's text (the seventh form; the later family's looks); each row that meets fmt, with fmt's text TOLD by the authors' own Lean function (tested against real Go, not proved from fmt's source: count such statements apart). THE CARD IS WHAT COUNTS. Prove the row's statement (the work); the ties are given (YtmfdhfdcokkclaaGreatDoorTie.lean); close each card by the builder's one call (the guide's Derived/Test/ToyasCard.lean, 'card_holds'). Laid BY PROGRAM, IN A SANDBOX (cutbox-door.mjs). By AI agents, Wed Nov 11 2026. No macro, syntax, notation, axiom, sorry.
-/
import Derived.Test.YtmfdhfdcokkclaaGreatDoorRows
import GoSem.ClaimSeven
namespace Go.Proofs.YtmfdhfdcokkclaaGreatDoor
namespace Rows

/-- THE TIED CARD OF 'chirographlaw08.RsaSigned'. -/
def rsaSignedCard : Claim7 := { stood := { row := rsaSignedRow, standIns := [], harness := (true, "21754c78b1ebf607c36ca2b47653072639ec57097aa58c53e34eb56edf1d9c39"), looks := false }, kinds := [], alts := [], laidByText := true, laidKinds := [.data, .data, .data, .data, .data, .data, .data], laidTests := true, laidLooks := .later }
def RsaSignedCardSaid : Prop := Claim7.holds Tryz.pinned (.plain (OpenSpec.ofChange rsaSignedSpec)) rsaSignedCard

/-- THE TIED CARD OF 'chirographlaw08.RsaTurned'. -/
def rsaTurnedCard : Claim7 := { stood := { row := rsaTurnedRow, standIns := [], harness := (true, "21754c78b1ebf607c36ca2b47653072639ec57097aa58c53e34eb56edf1d9c39"), looks := false }, kinds := [], alts := [], laidByText := true, laidKinds := [.data, .data, .data, .data, .data, .data, .data], laidTests := true, laidLooks := .later }
def RsaTurnedCardSaid : Prop := Claim7.holds Tryz.pinned (.plain (OpenSpec.ofChange rsaTurnedSpec)) rsaTurnedCard

/-- THE TIED CARD OF 'chirographlaw08.RsaSalted'. -/
def rsaSaltedCard : Claim7 := { stood := { row := rsaSaltedRow, standIns := [], harness := (true, "21754c78b1ebf607c36ca2b47653072639ec57097aa58c53e34eb56edf1d9c39"), looks := false }, kinds := [], alts := [], laidByText := true, laidKinds := [.data, .data, .data, .data, .data, .data, .data], laidTests := true, laidLooks := .later }
def RsaSaltedCardSaid : Prop := Claim7.holds Tryz.pinned (.plain (OpenSpec.ofChange rsaSaltedSpec)) rsaSaltedCard

/-- THE SECOND FORM's CARD OF 'chirographlaw08.RsaSigned'. -/
def rsaSignedUptoCard : Claim7 := { stood := { row := rsaSignedUptoRow, standIns := [], harness := (true, "21754c78b1ebf607c36ca2b47653072639ec57097aa58c53e34eb56edf1d9c39"), looks := false }, kinds := [], alts := [], laidByText := true, laidKinds := [.data, .data, .data, .data, .data, .data, .data], laidTests := true, laidLooks := .later }
def RsaSignedUptoCardSaid : Prop := Claim7.holds Tryz.pinned (.plain (OpenSpec.upto rsaSignedSpec)) rsaSignedUptoCard

/-- THE SECOND FORM's CARD OF 'chirographlaw08.RsaTurned'. -/
def rsaTurnedUptoCard : Claim7 := { stood := { row := rsaTurnedUptoRow, standIns := [], harness := (true, "21754c78b1ebf607c36ca2b47653072639ec57097aa58c53e34eb56edf1d9c39"), looks := false }, kinds := [], alts := [], laidByText := true, laidKinds := [.data, .data, .data, .data, .data, .data, .data], laidTests := true, laidLooks := .later }
def RsaTurnedUptoCardSaid : Prop := Claim7.holds Tryz.pinned (.plain (OpenSpec.upto rsaTurnedSpec)) rsaTurnedUptoCard

/-- THE SECOND FORM's CARD OF 'chirographlaw08.RsaSalted'. -/
def rsaSaltedUptoCard : Claim7 := { stood := { row := rsaSaltedUptoRow, standIns := [], harness := (true, "21754c78b1ebf607c36ca2b47653072639ec57097aa58c53e34eb56edf1d9c39"), looks := false }, kinds := [], alts := [], laidByText := true, laidKinds := [.data, .data, .data, .data, .data, .data, .data], laidTests := true, laidLooks := .later }
def RsaSaltedUptoCardSaid : Prop := Claim7.holds Tryz.pinned (.plain (OpenSpec.upto rsaSaltedSpec)) rsaSaltedUptoCard
end Rows
end Go.Proofs.YtmfdhfdcokkclaaGreatDoor
