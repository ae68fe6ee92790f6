/-
  DERIVED. GIVEN WITH THE SEED: THE CARDS: each row of YtljgbdmcdaoknaaDoorRows.lean that lists a variable, with what it lists TIED to the program's text (the seventh form; the later family's looks); each row that meets fmt, with fmt's text TOLD by the authors' own Lean function (tested against real Go, not proved from fmt's source: count such statements apart). THE CARD IS WHAT COUNTS. Prove the row's statement (the work); the ties are given (YtljgbdmcdaoknaaDoorTie.lean); close each card by the builder's one call (the guide's Derived/Test/ToyasCard.lean, 'card_holds'). Laid BY PROGRAM, IN A SANDBOX (cutbox-door.mjs). By AI agents, Wed Nov 11 2026. No macro, syntax, notation, axiom, sorry.
-/
import Derived.Test.YtljgbdmcdaoknaaDoorRows
import GoSem.ClaimSeven
namespace Go.Proofs.YtljgbdmcdaoknaaDoor
namespace Rows

/-- THE TIED CARD OF 'chirographlaw14.RealmNets'. -/
def realmNetsCard : Claim7 := { stood := { row := realmNetsRow, standIns := [], harness := (true, "32eca322bd1696d180387b045ccb917094788f14d528c6c18f475e75b9a12738"), looks := false }, kinds := [], alts := [], laidByText := true, laidKinds := [.data, .data, .data, .data, .pinned], laidTests := true, laidLooks := .later }
def RealmNetsCardSaid : Prop := Claim7.holds Tryd.pinned (.plain (OpenSpec.ofChange realmNetsSpec)) realmNetsCard

/-- THE TIED CARD OF 'chirographlaw14.RealmBounds'. -/
def realmBoundsCard : Claim7 := { stood := { row := realmBoundsRow, standIns := [], harness := (true, "32eca322bd1696d180387b045ccb917094788f14d528c6c18f475e75b9a12738"), looks := false }, kinds := [], alts := [], laidByText := true, laidKinds := [.data, .data, .data, .data, .pinned], laidTests := true, laidLooks := .later }
def RealmBoundsCardSaid : Prop := Claim7.holds Tryd.pinned (.plain (OpenSpec.ofChange realmBoundsSpec)) realmBoundsCard

/-- THE SECOND FORM's CARD OF 'chirographlaw14.RealmNets'. -/
def realmNetsUptoCard : Claim7 := { stood := { row := realmNetsUptoRow, standIns := [], harness := (true, "32eca322bd1696d180387b045ccb917094788f14d528c6c18f475e75b9a12738"), looks := false }, kinds := [], alts := [], laidByText := true, laidKinds := [.data, .data, .data, .data, .pinned], laidTests := true, laidLooks := .later }
def RealmNetsUptoCardSaid : Prop := Claim7.holds Tryd.pinned (.plain (OpenSpec.upto realmNetsSpec)) realmNetsUptoCard

/-- THE SECOND FORM's CARD OF 'chirographlaw14.RealmBounds'. -/
def realmBoundsUptoCard : Claim7 := { stood := { row := realmBoundsUptoRow, standIns := [], harness := (true, "32eca322bd1696d180387b045ccb917094788f14d528c6c18f475e75b9a12738"), looks := false }, kinds := [], alts := [], laidByText := true, laidKinds := [.data, .data, .data, .data, .pinned], laidTests := true, laidLooks := .later }
def RealmBoundsUptoCardSaid : Prop := Claim7.holds Tryd.pinned (.plain (OpenSpec.upto realmBoundsSpec)) realmBoundsUptoCard
end Rows
end Go.Proofs.YtljgbdmcdaoknaaDoor
