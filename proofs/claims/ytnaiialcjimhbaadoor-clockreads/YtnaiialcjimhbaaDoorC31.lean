/-
  Clock: the reference's moments of two digits.
-/
import Derived.Test.YtnaiialcjimhbaaDoorC30
namespace Go.Proofs.YtnaiialcjimhbaaDoor
open Go.RowKit
theorem Rnumber_at {w : World} (a : Option Addr) (L c : Nat) (X : List Int) (hX : Sl .u8 w (.slice a L c) X) (hL : X.length = L) (hU : U8s X) (hl : L ≤ 1000000) (i : Nat) (z n r : Int) (k : Nat) (hz : z = (i : Int)) (hk : n = (k : Int)) (hi : i ≤ 1000000) (h1 : 1 ≤ k) (hn : k ≤ 6) (hr : numR X i k = r) :
    Calls Tryd.prog 35 #[.slice a L c, .int .i64 z, .int .i64 n] w fun e w' => e = .returned (.int .i64 r) ∧ w' = w := by
  subst hz; subst hk; subst hr
  exact Rnumber_any a L c X hX hL hU hl i k hi h1 hn
def restMo (X : List Int) (i : Nat) (y : Int) : Mo := ⟨y, numR X i 2, numR X (i + 2) 2, numR X (i + 4) 2, numR X (i + 6) 2, numR X (i + 8) 2⟩
def RestOk (t : Mo) : Prop := 0 ≤ t.Y ∧ 0 ≤ t.M ∧ 0 ≤ t.D ∧ 0 ≤ t.h ∧ 0 ≤ t.m ∧ 0 ≤ t.s
def RestIs (t : Mo) (e : Ending) : Prop :=
  (RestOk t ∧ e = .returned (.tuple #[.agg t.cells.toArray, .bool true])) ∨ (¬ RestOk t ∧ e = .returned (.tuple #[.agg t.cells.toArray, .bool false]))
/-- what the reference's rest answers -/
def RestC : Prop := ∀ (w : World) (a : Option Addr) (L c : Nat) (X : List Int), Sl .u8 w (.slice a L c) X → X.length = L → U8s X → L ≤ 1000000 → ∀ (i : Nat), i ≤ 1000 → ∀ (y : Int),
    Calls Tryd.prog 36 #[.slice a L c, .int .i64 i, .int .i64 y] w fun e w' => RestIs (restMo X i y) e ∧ Below w.heap.size w w'
end Go.Proofs.YtnaiialcjimhbaaDoor
