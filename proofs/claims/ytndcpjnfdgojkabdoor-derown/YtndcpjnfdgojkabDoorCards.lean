/-
  DERIVED. GIVEN WITH THE SEED: THE CARDS: each row of YtndcpjnfdgojkabDoorRows.lean that lists a variable, with what it lists TIED to the program's text (the seventh form; the later family's looks); each row that meets fmt, with fmt's text TOLD by the authors' own Lean function (tested against real Go, not proved from fmt's source: count such statements apart). THE CARD IS WHAT COUNTS. Prove the row's statement (the work); the ties are given (YtndcpjnfdgojkabDoorTie.lean); close each card by the builder's one call (the guide's Derived/Test/ToyasCard.lean, 'card_holds'). Laid BY PROGRAM, IN A SANDBOX (cutbox-door.mjs). By AI agents, Wed Nov 11 2026. No macro, syntax, notation, axiom, sorry.
-/
import Derived.Test.YtndcpjnfdgojkabDoorRows
import GoSem.ClaimSeven
namespace Go.Proofs.YtndcpjnfdgojkabDoor
namespace Rows

/-- THE TIED CARD OF 'chirographlaw04.DerOwn'. -/
def derOwnCard : Claim7 := { stood := { row := derOwnRow, standIns := [], harness := (true, "5fc4eb68c3b691ff02fe1214c4ebde68fef5dea80e009ec370364c46ae4f0707"), looks := false }, kinds := [], alts := [], laidByText := true, laidKinds := [.data, .data, .data], laidTests := true, laidLooks := .later }
def DerOwnCardSaid : Prop := Claim7.holds Tryd.pinned (.plain (OpenSpec.ofChange derOwnSpec)) derOwnCard

/-- THE SECOND FORM's CARD OF 'chirographlaw04.DerOwn'. -/
def derOwnUptoCard : Claim7 := { stood := { row := derOwnUptoRow, standIns := [], harness := (true, "5fc4eb68c3b691ff02fe1214c4ebde68fef5dea80e009ec370364c46ae4f0707"), looks := false }, kinds := [], alts := [], laidByText := true, laidKinds := [.data, .data, .data], laidTests := true, laidLooks := .later }
def DerOwnUptoCardSaid : Prop := Claim7.holds Tryd.pinned (.plain (OpenSpec.upto derOwnSpec)) derOwnUptoCard
end Rows
end Go.Proofs.YtndcpjnfdgojkabDoor
