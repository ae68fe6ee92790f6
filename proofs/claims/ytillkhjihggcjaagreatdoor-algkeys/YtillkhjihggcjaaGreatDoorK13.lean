/-
  Der: decimal digits appended; the page's example of an object identifier.
-/
import Derived.Laws.BytesArg
import Derived.Test.YtillkhjihggcjaaGreatDoorK12
namespace Go.Proofs.YtillkhjihggcjaaGreatDoor
open Go.RowKit
end Go.Proofs.YtillkhjihggcjaaGreatDoor
/-
  Der: the page's example of an object identifier.
-/
namespace Go.Proofs.YtillkhjihggcjaaGreatDoor
open Go.RowKit
end Go.Proofs.YtillkhjihggcjaaGreatDoor
