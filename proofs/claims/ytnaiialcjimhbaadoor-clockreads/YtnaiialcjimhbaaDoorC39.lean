/-
  Clock: ClockReads.
-/
import Derived.Test.YtnaiialcjimhbaaDoorC38
import Derived.Test.YtnaiialcjimhbaaDoorC33
namespace Go.Proofs.YtnaiialcjimhbaaDoor
open Go.RowKit
theorem ClockReads_law {w : World} (a : Option Addr) (L c : Nat) (X : List Int) (hX : Sl .u8 w (.slice a L c) X) (hL : X.length = L) (hU : U8s X) (hLI : L ≤ 9223372036854775807) (cl tag : Int) (cons : Bool) (hT : Tab w) :
    Calls Tryd.prog 5 #[.slice a L c, .int .i64 cl, .int .i64 tag, .bool cons] w fun e w' => e = .returned (.bool true) ∧ Below w.heap.size w w' :=
  ClockReads_any rest_all a L c X hX hL hU hLI cl tag cons hT
end Go.Proofs.YtnaiialcjimhbaaDoor
