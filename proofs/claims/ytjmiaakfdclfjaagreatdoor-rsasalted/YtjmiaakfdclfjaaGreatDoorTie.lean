/-
  DERIVED. GIVEN WITH THE SEED: THE PROGRAM's TIES (one call each: nine closed facts by the kernel) AND EACH ROW's TIE, after the 31st guide's Derived/Test/Toyas{Tie, Card}.lean. No idea stands in it: it is a product of the set-up. Laid BY PROGRAM, IN A SANDBOX (cutbox-door.mjs). By AI agents, Wed Nov 11 2026. No macro, syntax, notation, axiom, sorry.
-/
import Derived.Test.YtjmiaakfdclfjaaGreatDoorRows
import Derived.LaidByTextLater
import Derived.SevenTiedAt
import Derived.LaidSub
import Derived.LaidOnce
namespace Go.Proofs.YtjmiaakfdclfjaaGreatDoor
open Go
set_option maxRecDepth 100000
theorem seatTie1 : Tryz.prog.laidByTextLater [("chirograph/sha.first1", Rows.laid_chirograph_sha_first1), ("chirograph/sha.adds1", Rows.laid_chirograph_sha_adds1), ("chirograph/sha.first256", Rows.laid_chirograph_sha_first256), ("chirograph/sha.first384", Rows.laid_chirograph_sha_first384), ("chirograph/sha.first512", Rows.laid_chirograph_sha_first512), ("chirograph/sha.adds256", Rows.laid_chirograph_sha_adds256), ("chirograph/sha.adds512", Rows.laid_chirograph_sha_adds512)] [.data, .data, .data, .data, .data, .data, .data] true :=
  Program.laidByTextLater_by_one 44 8 81 (by kernel_rfl) (by kernel_rfl) (by kernel_rfl) (by kernel_rfl) (by kernel_rfl) (by kernel_rfl) (fun _ _ => by kernel_rfl)
theorem noOwnUnsafe : Tryz.pinned.checked.prog.headLifts.contains "ownunsafe" = false := by kernel_rfl
theorem tie : Tryz.prog.laidByTextLater [("chirograph/sha.first1", Rows.laid_chirograph_sha_first1), ("chirograph/sha.adds1", Rows.laid_chirograph_sha_adds1), ("chirograph/sha.first256", Rows.laid_chirograph_sha_first256), ("chirograph/sha.first384", Rows.laid_chirograph_sha_first384), ("chirograph/sha.first512", Rows.laid_chirograph_sha_first512), ("chirograph/sha.adds256", Rows.laid_chirograph_sha_adds256), ("chirograph/sha.adds512", Rows.laid_chirograph_sha_adds512)] [.data, .data, .data, .data, .data, .data, .data] true :=
  Program.laidByTextLater.sub seatTie1 ["chirograph/sha.first1", "chirograph/sha.adds1", "chirograph/sha.first256", "chirograph/sha.first384", "chirograph/sha.first512", "chirograph/sha.adds256", "chirograph/sha.adds512"] (by kernel_rfl) (by kernel_rfl)
theorem rsaSalted_row_tie : Rows.rsaSaltedRow.laidByTextAt .later Tryz.pinned [.data, .data, .data, .data, .data, .data, .data] true :=
  OpenClaim.laidByTextAt_later rfl rfl tie noOwnUnsafe
theorem rsaSaltedUpto_row_tie : Rows.rsaSaltedUptoRow.laidByTextAt .later Tryz.pinned [.data, .data, .data, .data, .data, .data, .data] true :=
  OpenClaim.laidByTextAt_later rfl rfl tie noOwnUnsafe
end Go.Proofs.YtjmiaakfdclfjaaGreatDoor
