/-
  DERIVED. GIVEN WITH THE SEED: THE CARDS: each row of YtbgeemjnhkinaaaGreatDoorRows.lean that lists a variable, with what it lists TIED to the program's text (the seventh form; the later family's looks); each row that meets fmt, with fmt's text TOLD by the authors' own Lean function (tested against real Go, not proved from fmt's source: count such statements apart). THE CARD IS WHAT COUNTS. Prove the row's statement (the work); the ties are given (YtbgeemjnhkinaaaGreatDoorTie.lean); close each card by the builder's one call (the guide's Derived/Test/ToyasCard.lean, 'card_holds'). Laid BY PROGRAM, IN A SANDBOX (cutbox-door.mjs). By AI agents, Wed Nov 11 2026. No macro, syntax, notation, axiom, sorry.
-/
import Derived.Test.YtbgeemjnhkinaaaGreatDoorRows
import GoSem.ClaimSeven
namespace Go.Proofs.YtbgeemjnhkinaaaGreatDoor
namespace Rows

/-- THE TIED CARD OF 'chirographlaw14.RealmHosts'. -/
def realmHostsCard : Claim7 := { stood := { row := realmHostsRow, standIns := [], harness := (true, "2d51a22d1ebf4f2dcd18ac0decb649832fa0106aae2b6eefb99989e3d40d19ed"), looks := false }, kinds := [], alts := [], laidByText := true, laidKinds := [.data, .data, .data, .data, .pinned], laidTests := true, laidLooks := .later }
def RealmHostsCardSaid : Prop := Claim7.holds Tryz.pinned (.plain (OpenSpec.ofChange realmHostsSpec)) realmHostsCard

/-- THE SECOND FORM's CARD OF 'chirographlaw14.RealmHosts'. -/
def realmHostsUptoCard : Claim7 := { stood := { row := realmHostsUptoRow, standIns := [], harness := (true, "2d51a22d1ebf4f2dcd18ac0decb649832fa0106aae2b6eefb99989e3d40d19ed"), looks := false }, kinds := [], alts := [], laidByText := true, laidKinds := [.data, .data, .data, .data, .pinned], laidTests := true, laidLooks := .later }
def RealmHostsUptoCardSaid : Prop := Claim7.holds Tryz.pinned (.plain (OpenSpec.upto realmHostsSpec)) realmHostsUptoCard
end Rows
end Go.Proofs.YtbgeemjnhkinaaaGreatDoor
