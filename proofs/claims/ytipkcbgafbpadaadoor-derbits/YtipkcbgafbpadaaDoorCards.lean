/-
  DERIVED. GIVEN WITH THE SEED: THE CARDS: each row of YtipkcbgafbpadaaDoorRows.lean that lists a variable, with what it lists TIED to the program's text (the seventh form; the later family's looks); each row that meets fmt, with fmt's text TOLD by the authors' own Lean function (tested against real Go, not proved from fmt's source: count such statements apart). THE CARD IS WHAT COUNTS. Prove the row's statement (the work); the ties are given (YtipkcbgafbpadaaDoorTie.lean); close each card by the builder's one call (the guide's Derived/Test/ToyasCard.lean, 'card_holds'). Laid BY PROGRAM, IN A SANDBOX (cutbox-door.mjs). By AI agents, Wed Nov 11 2026. No macro, syntax, notation, axiom, sorry.
-/
import Derived.Test.YtipkcbgafbpadaaDoorRows
import GoSem.ClaimSeven
namespace Go.Proofs.YtipkcbgafbpadaaDoor
namespace Rows

/-- THE TIED CARD OF 'chirographlaw04.DerSplits'. -/
def derSplitsCard : Claim7 := { stood := { row := derSplitsRow, standIns := [], harness := (true, "7b55347a3b3b4d54e771787e9df0370ac2306bd72a1bd900ddd04a0c04fcfcdc"), looks := false }, kinds := [], alts := [], laidByText := true, laidKinds := [.data, .data, .data], laidTests := true, laidLooks := .later }
def DerSplitsCardSaid : Prop := Claim7.holds Tryd.pinned (.plain (OpenSpec.ofChange derSplitsSpec)) derSplitsCard

/-- THE TIED CARD OF 'chirographlaw04.DerPuts'. -/
def derPutsCard : Claim7 := { stood := { row := derPutsRow, standIns := [], harness := (true, "7b55347a3b3b4d54e771787e9df0370ac2306bd72a1bd900ddd04a0c04fcfcdc"), looks := false }, kinds := [], alts := [], laidByText := true, laidKinds := [.data, .data, .data], laidTests := true, laidLooks := .later }
def DerPutsCardSaid : Prop := Claim7.holds Tryd.pinned (.plain (OpenSpec.ofChange derPutsSpec)) derPutsCard

/-- THE TIED CARD OF 'chirographlaw04.DerNumbers'. -/
def derNumbersCard : Claim7 := { stood := { row := derNumbersRow, standIns := [], harness := (true, "7b55347a3b3b4d54e771787e9df0370ac2306bd72a1bd900ddd04a0c04fcfcdc"), looks := false }, kinds := [], alts := [], laidByText := true, laidKinds := [.data, .data, .data], laidTests := true, laidLooks := .later }
def DerNumbersCardSaid : Prop := Claim7.holds Tryd.pinned (.plain (OpenSpec.ofChange derNumbersSpec)) derNumbersCard

/-- THE TIED CARD OF 'chirographlaw04.DerBits'. -/
def derBitsCard : Claim7 := { stood := { row := derBitsRow, standIns := [], harness := (true, "7b55347a3b3b4d54e771787e9df0370ac2306bd72a1bd900ddd04a0c04fcfcdc"), looks := false }, kinds := [], alts := [], laidByText := true, laidKinds := [.data, .data, .data], laidTests := true, laidLooks := .later }
def DerBitsCardSaid : Prop := Claim7.holds Tryd.pinned (.plain (OpenSpec.ofChange derBitsSpec)) derBitsCard

/-- THE TIED CARD OF 'chirographlaw04.DerOids'. -/
def derOidsCard : Claim7 := { stood := { row := derOidsRow, standIns := [], harness := (true, "7b55347a3b3b4d54e771787e9df0370ac2306bd72a1bd900ddd04a0c04fcfcdc"), looks := false }, kinds := [], alts := [], laidByText := true, laidKinds := [.data, .data, .data], laidTests := true, laidLooks := .later }
def DerOidsCardSaid : Prop := Claim7.holds Tryd.pinned (.plain (OpenSpec.ofChange derOidsSpec)) derOidsCard

/-- THE TIED CARD OF 'chirographlaw04.DerBack'. -/
def derBackCard : Claim7 := { stood := { row := derBackRow, standIns := [], harness := (true, "7b55347a3b3b4d54e771787e9df0370ac2306bd72a1bd900ddd04a0c04fcfcdc"), looks := false }, kinds := [], alts := [], laidByText := true, laidKinds := [.data, .data, .data], laidTests := true, laidLooks := .later }
def DerBackCardSaid : Prop := Claim7.holds Tryd.pinned (.plain (OpenSpec.ofChange derBackSpec)) derBackCard

/-- THE SECOND FORM's CARD OF 'chirographlaw04.DerSplits'. -/
def derSplitsUptoCard : Claim7 := { stood := { row := derSplitsUptoRow, standIns := [], harness := (true, "7b55347a3b3b4d54e771787e9df0370ac2306bd72a1bd900ddd04a0c04fcfcdc"), looks := false }, kinds := [], alts := [], laidByText := true, laidKinds := [.data, .data, .data], laidTests := true, laidLooks := .later }
def DerSplitsUptoCardSaid : Prop := Claim7.holds Tryd.pinned (.plain (OpenSpec.upto derSplitsSpec)) derSplitsUptoCard

/-- THE SECOND FORM's CARD OF 'chirographlaw04.DerPuts'. -/
def derPutsUptoCard : Claim7 := { stood := { row := derPutsUptoRow, standIns := [], harness := (true, "7b55347a3b3b4d54e771787e9df0370ac2306bd72a1bd900ddd04a0c04fcfcdc"), looks := false }, kinds := [], alts := [], laidByText := true, laidKinds := [.data, .data, .data], laidTests := true, laidLooks := .later }
def DerPutsUptoCardSaid : Prop := Claim7.holds Tryd.pinned (.plain (OpenSpec.upto derPutsSpec)) derPutsUptoCard

/-- THE SECOND FORM's CARD OF 'chirographlaw04.DerNumbers'. -/
def derNumbersUptoCard : Claim7 := { stood := { row := derNumbersUptoRow, standIns := [], harness := (true, "7b55347a3b3b4d54e771787e9df0370ac2306bd72a1bd900ddd04a0c04fcfcdc"), looks := false }, kinds := [], alts := [], laidByText := true, laidKinds := [.data, .data, .data], laidTests := true, laidLooks := .later }
def DerNumbersUptoCardSaid : Prop := Claim7.holds Tryd.pinned (.plain (OpenSpec.upto derNumbersSpec)) derNumbersUptoCard

/-- THE SECOND FORM's CARD OF 'chirographlaw04.DerBits'. -/
def derBitsUptoCard : Claim7 := { stood := { row := derBitsUptoRow, standIns := [], harness := (true, "7b55347a3b3b4d54e771787e9df0370ac2306bd72a1bd900ddd04a0c04fcfcdc"), looks := false }, kinds := [], alts := [], laidByText := true, laidKinds := [.data, .data, .data], laidTests := true, laidLooks := .later }
def DerBitsUptoCardSaid : Prop := Claim7.holds Tryd.pinned (.plain (OpenSpec.upto derBitsSpec)) derBitsUptoCard

/-- THE SECOND FORM's CARD OF 'chirographlaw04.DerOids'. -/
def derOidsUptoCard : Claim7 := { stood := { row := derOidsUptoRow, standIns := [], harness := (true, "7b55347a3b3b4d54e771787e9df0370ac2306bd72a1bd900ddd04a0c04fcfcdc"), looks := false }, kinds := [], alts := [], laidByText := true, laidKinds := [.data, .data, .data], laidTests := true, laidLooks := .later }
def DerOidsUptoCardSaid : Prop := Claim7.holds Tryd.pinned (.plain (OpenSpec.upto derOidsSpec)) derOidsUptoCard

/-- THE SECOND FORM's CARD OF 'chirographlaw04.DerBack'. -/
def derBackUptoCard : Claim7 := { stood := { row := derBackUptoRow, standIns := [], harness := (true, "7b55347a3b3b4d54e771787e9df0370ac2306bd72a1bd900ddd04a0c04fcfcdc"), looks := false }, kinds := [], alts := [], laidByText := true, laidKinds := [.data, .data, .data], laidTests := true, laidLooks := .later }
def DerBackUptoCardSaid : Prop := Claim7.holds Tryd.pinned (.plain (OpenSpec.upto derBackSpec)) derBackUptoCard
end Rows
end Go.Proofs.YtipkcbgafbpadaaDoor
