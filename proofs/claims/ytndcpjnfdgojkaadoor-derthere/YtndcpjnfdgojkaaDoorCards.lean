/-
  DERIVED. GIVEN WITH THE SEED: THE CARDS: each row of YtndcpjnfdgojkaaDoorRows.lean that lists a variable, with what it lists TIED to the program's text (the seventh form; the later family's looks); each row that meets fmt, with fmt's text TOLD by the authors' own Lean function (tested against real Go, not proved from fmt's source: count such statements apart). THE CARD IS WHAT COUNTS. Prove the row's statement (the work); the ties are given (YtndcpjnfdgojkaaDoorTie.lean); close each card by the builder's one call (the guide's Derived/Test/ToyasCard.lean, 'card_holds'). Laid BY PROGRAM, IN A SANDBOX (cutbox-door.mjs). By AI agents, Wed Nov 11 2026. No macro, syntax, notation, axiom, sorry.
-/
import Derived.Test.YtndcpjnfdgojkaaDoorRows
import GoSem.ClaimSeven
namespace Go.Proofs.YtndcpjnfdgojkaaDoor
namespace Rows

/-- THE TIED CARD OF 'chirographlaw04.DerSplits'. -/
def derSplitsCard : Claim7 := { stood := { row := derSplitsRow, standIns := [], harness := (true, "ed5cad81e232a3c309d60d696093dda64ed1fb6a1f0546dbfde5267a4d9a190b"), looks := false }, kinds := [], alts := [], laidByText := true, laidKinds := [.data, .data, .data], laidTests := true, laidLooks := .later }
def DerSplitsCardSaid : Prop := Claim7.holds Tryd.pinned (.plain (OpenSpec.ofChange derSplitsSpec)) derSplitsCard

/-- THE TIED CARD OF 'chirographlaw04.DerNumbers'. -/
def derNumbersCard : Claim7 := { stood := { row := derNumbersRow, standIns := [], harness := (true, "ed5cad81e232a3c309d60d696093dda64ed1fb6a1f0546dbfde5267a4d9a190b"), looks := false }, kinds := [], alts := [], laidByText := true, laidKinds := [.data, .data, .data], laidTests := true, laidLooks := .later }
def DerNumbersCardSaid : Prop := Claim7.holds Tryd.pinned (.plain (OpenSpec.ofChange derNumbersSpec)) derNumbersCard

/-- THE TIED CARD OF 'chirographlaw04.DerOids'. -/
def derOidsCard : Claim7 := { stood := { row := derOidsRow, standIns := [], harness := (true, "ed5cad81e232a3c309d60d696093dda64ed1fb6a1f0546dbfde5267a4d9a190b"), looks := false }, kinds := [], alts := [], laidByText := true, laidKinds := [.data, .data, .data], laidTests := true, laidLooks := .later }
def DerOidsCardSaid : Prop := Claim7.holds Tryd.pinned (.plain (OpenSpec.ofChange derOidsSpec)) derOidsCard

/-- THE TIED CARD OF 'chirographlaw04.DerBack'. -/
def derBackCard : Claim7 := { stood := { row := derBackRow, standIns := [], harness := (true, "ed5cad81e232a3c309d60d696093dda64ed1fb6a1f0546dbfde5267a4d9a190b"), looks := false }, kinds := [], alts := [], laidByText := true, laidKinds := [.data, .data, .data], laidTests := true, laidLooks := .later }
def DerBackCardSaid : Prop := Claim7.holds Tryd.pinned (.plain (OpenSpec.ofChange derBackSpec)) derBackCard

/-- THE TIED CARD OF 'chirographlaw04.DerThere'. -/
def derThereCard : Claim7 := { stood := { row := derThereRow, standIns := [], harness := (true, "ed5cad81e232a3c309d60d696093dda64ed1fb6a1f0546dbfde5267a4d9a190b"), looks := false }, kinds := [], alts := [], laidByText := true, laidKinds := [.data, .data, .data], laidTests := true, laidLooks := .later }
def DerThereCardSaid : Prop := Claim7.holds Tryd.pinned (.plain (OpenSpec.ofChange derThereSpec)) derThereCard

/-- THE SECOND FORM's CARD OF 'chirographlaw04.DerSplits'. -/
def derSplitsUptoCard : Claim7 := { stood := { row := derSplitsUptoRow, standIns := [], harness := (true, "ed5cad81e232a3c309d60d696093dda64ed1fb6a1f0546dbfde5267a4d9a190b"), looks := false }, kinds := [], alts := [], laidByText := true, laidKinds := [.data, .data, .data], laidTests := true, laidLooks := .later }
def DerSplitsUptoCardSaid : Prop := Claim7.holds Tryd.pinned (.plain (OpenSpec.upto derSplitsSpec)) derSplitsUptoCard

/-- THE SECOND FORM's CARD OF 'chirographlaw04.DerNumbers'. -/
def derNumbersUptoCard : Claim7 := { stood := { row := derNumbersUptoRow, standIns := [], harness := (true, "ed5cad81e232a3c309d60d696093dda64ed1fb6a1f0546dbfde5267a4d9a190b"), looks := false }, kinds := [], alts := [], laidByText := true, laidKinds := [.data, .data, .data], laidTests := true, laidLooks := .later }
def DerNumbersUptoCardSaid : Prop := Claim7.holds Tryd.pinned (.plain (OpenSpec.upto derNumbersSpec)) derNumbersUptoCard

/-- THE SECOND FORM's CARD OF 'chirographlaw04.DerOids'. -/
def derOidsUptoCard : Claim7 := { stood := { row := derOidsUptoRow, standIns := [], harness := (true, "ed5cad81e232a3c309d60d696093dda64ed1fb6a1f0546dbfde5267a4d9a190b"), looks := false }, kinds := [], alts := [], laidByText := true, laidKinds := [.data, .data, .data], laidTests := true, laidLooks := .later }
def DerOidsUptoCardSaid : Prop := Claim7.holds Tryd.pinned (.plain (OpenSpec.upto derOidsSpec)) derOidsUptoCard

/-- THE SECOND FORM's CARD OF 'chirographlaw04.DerBack'. -/
def derBackUptoCard : Claim7 := { stood := { row := derBackUptoRow, standIns := [], harness := (true, "ed5cad81e232a3c309d60d696093dda64ed1fb6a1f0546dbfde5267a4d9a190b"), looks := false }, kinds := [], alts := [], laidByText := true, laidKinds := [.data, .data, .data], laidTests := true, laidLooks := .later }
def DerBackUptoCardSaid : Prop := Claim7.holds Tryd.pinned (.plain (OpenSpec.upto derBackSpec)) derBackUptoCard

/-- THE SECOND FORM's CARD OF 'chirographlaw04.DerThere'. -/
def derThereUptoCard : Claim7 := { stood := { row := derThereUptoRow, standIns := [], harness := (true, "ed5cad81e232a3c309d60d696093dda64ed1fb6a1f0546dbfde5267a4d9a190b"), looks := false }, kinds := [], alts := [], laidByText := true, laidKinds := [.data, .data, .data], laidTests := true, laidLooks := .later }
def DerThereUptoCardSaid : Prop := Claim7.holds Tryd.pinned (.plain (OpenSpec.upto derThereSpec)) derThereUptoCard
end Rows
end Go.Proofs.YtndcpjnfdgojkaaDoor
