/-
  Digest: DigestSums of an open argument.
-/
import Derived.Test.YtgipmjpkaemdkaaDoorG45
namespace Go.Proofs.YtgipmjpkaemdkaaDoor
open Go.RowKit
theorem DigestSums_law {w : World} (alg : Int) (a : Option Addr) (len cap : Nat) (h : IsRows .u8 w a len cap) (hT : Tabs w) :
    Calls Tryd.prog 3 #[.int .i64 alg, .slice a len cap] w fun e w' => e = .returned (.bool true) ∧ Below w.heap.size w w' := by
  obtain ⟨vs, ms, h1, h2, h3⟩ := h.lists
  exact DigestSums_any alg a len cap vs ms h1 h2 h3 hT
end Go.Proofs.YtgipmjpkaemdkaaDoor
