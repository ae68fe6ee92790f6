/-
  DERIVED. GIVEN WITH THE SEED: THE CARDS: each row of YtjmiaakfdclfjaaGreatDoorRows.lean that lists a variable, with what it lists TIED to the program's text (the seventh form; the later family's looks); each row that meets fmt, with fmt's text TOLD by the authors' own Lean function (tested against real Go, not proved from fmt's source: count such statements apart). THE CARD IS WHAT COUNTS. Prove the row's statement (the work); the ties are given (YtjmiaakfdclfjaaGreatDoorTie.lean); close each card by the builder's one call (the guide's Derived/Test/ToyasCard.lean, 'card_holds'). Laid BY PROGRAM, IN A SANDBOX (cutbox-door.mjs). By AI agents, Wed Nov 11 2026. No macro, syntax, notation, axiom, sorry.
-/
import Derived.Test.YtjmiaakfdclfjaaGreatDoorRows
import GoSem.ClaimSeven
namespace Go.Proofs.YtjmiaakfdclfjaaGreatDoor
namespace Rows

/-- THE TIED CARD OF 'chirographlaw08.RsaSalted'. -/
def rsaSaltedCard : Claim7 := { stood := { row := rsaSaltedRow, standIns := [], harness := (true, "0e7aaec2db7f6e1292833baa4695b262d58445e4e063130f3810269ed58658de"), looks := false }, kinds := [], alts := [], laidByText := true, laidKinds := [.data, .data, .data, .data, .data, .data, .data], laidTests := true, laidLooks := .later }
def RsaSaltedCardSaid : Prop := Claim7.holds Tryz.pinned (.plain (OpenSpec.ofChange rsaSaltedSpec)) rsaSaltedCard

/-- THE SECOND FORM's CARD OF 'chirographlaw08.RsaSalted'. -/
def rsaSaltedUptoCard : Claim7 := { stood := { row := rsaSaltedUptoRow, standIns := [], harness := (true, "0e7aaec2db7f6e1292833baa4695b262d58445e4e063130f3810269ed58658de"), looks := false }, kinds := [], alts := [], laidByText := true, laidKinds := [.data, .data, .data, .data, .data, .data, .data], laidTests := true, laidLooks := .later }
def RsaSaltedUptoCardSaid : Prop := Claim7.holds Tryz.pinned (.plain (OpenSpec.upto rsaSaltedSpec)) rsaSaltedUptoCard
end Rows
end Go.Proofs.YtjmiaakfdclfjaaGreatDoor
