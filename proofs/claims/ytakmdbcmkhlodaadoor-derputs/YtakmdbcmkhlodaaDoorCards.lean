/-
  DERIVED. GIVEN WITH THE SEED: THE CARDS: each row of YtakmdbcmkhlodaaDoorRows.lean that lists a variable, with what it lists TIED to the program's text (the seventh form; the later family's looks); each row that meets fmt, with fmt's text TOLD by the authors' own Lean function (tested against real Go, not proved from fmt's source: count such statements apart). THE CARD IS WHAT COUNTS. Prove the row's statement (the work); the ties are given (YtakmdbcmkhlodaaDoorTie.lean); close each card by the builder's one call (the guide's Derived/Test/ToyasCard.lean, 'card_holds'). Laid BY PROGRAM, IN A SANDBOX (cutbox-door.mjs). By AI agents, Wed Nov 11 2026. No macro, syntax, notation, axiom, sorry.
-/
import Derived.Test.YtakmdbcmkhlodaaDoorRows
import GoSem.ClaimSeven
namespace Go.Proofs.YtakmdbcmkhlodaaDoor
namespace Rows

/-- THE TIED CARD OF 'chirographlaw04.DerPuts'. -/
def derPutsCard : Claim7 := { stood := { row := derPutsRow, standIns := [], harness := (true, "687595b56aaee89a4597680e5f8077744409af3bf1161f9a28adde012f40ccd4"), looks := false }, kinds := [], alts := [], laidByText := true, laidKinds := [.data, .data, .data], laidTests := true, laidLooks := .later }
def DerPutsCardSaid : Prop := Claim7.holds Tryd.pinned (.plain (OpenSpec.ofChange derPutsSpec)) derPutsCard

/-- THE SECOND FORM's CARD OF 'chirographlaw04.DerPuts'. -/
def derPutsUptoCard : Claim7 := { stood := { row := derPutsUptoRow, standIns := [], harness := (true, "687595b56aaee89a4597680e5f8077744409af3bf1161f9a28adde012f40ccd4"), looks := false }, kinds := [], alts := [], laidByText := true, laidKinds := [.data, .data, .data], laidTests := true, laidLooks := .later }
def DerPutsUptoCardSaid : Prop := Claim7.holds Tryd.pinned (.plain (OpenSpec.upto derPutsSpec)) derPutsUptoCard
end Rows
end Go.Proofs.YtakmdbcmkhlodaaDoor
