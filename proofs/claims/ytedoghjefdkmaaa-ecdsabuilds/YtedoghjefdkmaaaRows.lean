/-
  No cell of these rows narrows 'for every input' (looked for: loops, veiled, ifaces, maps, wideKeys, modest, calm, conditions, laid).
  DERIVED. THE GIVEN ROWS OF THIS SEAT. 2 by the template 'for every input the law returns true; each argument reads behind the call as it read before'; 0 by the template 'total and deterministic' (their statements: YtedoghjefdkmaaaTotals.lean).
  GIVEN WITH THE SEED: the statements are not yours to turn. If you find one false, say at which input.
  Laid BY PROGRAM, IN A SANDBOX (cutbox-rows.mjs): the forced cells as the released guide's own fill.sh prints them over the translation c82303515f60371c… (all of the seat's roots in one cut). By AI agents, Wed Nov 11 2026. No macro, syntax, notation, axiom, sorry.
-/
import Derived.Test.YtedoghjefdkmaaaChecked
import GoSem.Claim
import GoSem.ClaimJoined
import GoSem.ClaimMapViews
import Derived.JoinedTies
import Derived.KernelRfl
namespace Go.Proofs.Ytedoghjefdkmaaa
/- THE CELL 'sum', in the pinned program and in every row, IS THE sha256 OF THE DUMP (.gsa) THAT YtedoghjefdkmaaaProg.lean LOADS. Nothing in Lean hashes anything: it is a label: what it is worth is what the hold of that sum in a sandbox is worth. -/
noncomputable def Try.pinned : Pinned := { name := "ytedoghjefdkmaaa", sum := "c82303515f60371cc45eabbc4185d71cddddba01a6bdd634cde31d9bc8cacc34", checked := Try.checked }
namespace Rows
def none {H : Type} : Left H := { results := [], args := [] }

/-- 'chirographlaw10.EcdsaParses': WHATEVER THE INPUT: true; the input reads as it did. -/
def ecdsaParsesSpec : ChangeSpec := { name := "ecdsaParses", fn := fun _ => fun
  | [d] => { results := [.lit (.bool true)], args := [d] }
  | _ => none }
def ecdsaParsesRow : OpenClaim := { program := "ytedoghjefdkmaaa", sum := "c82303515f60371cc45eabbc4185d71cddddba01a6bdd634cde31d9bc8cacc34", func := "chirograph/chirographlaw10.EcdsaParses", spec := "ecdsaParses", unfollowed := true, recurses := true, apart := false }
def EcdsaParsesSaid : Prop := ecdsaParsesRow.holds Try.pinned (OpenSpec.ofChange ecdsaParsesSpec)

/-- ITS FALSE NEIGHBOUR: 'it returns false'. Refute it at one input. -/
def ecdsaParsesWrong : ChangeSpec := { name := "ecdsaParses", fn := fun _ => fun
  | [d] => { results := [.lit (.bool false)], args := [d] }
  | _ => none }
def EcdsaParsesWrongFalsely : Prop := ecdsaParsesRow.holds Try.pinned (OpenSpec.ofChange ecdsaParsesWrong)

/-- 'chirographlaw10.EcdsaBuilds': WHATEVER THE INPUT: true; the input reads as it did. -/
def ecdsaBuildsSpec : ChangeSpec := { name := "ecdsaBuilds", fn := fun _ => fun
  | [d1, d2] => { results := [.lit (.bool true)], args := [d1, d2] }
  | _ => none }
def ecdsaBuildsRow : OpenClaim := { program := "ytedoghjefdkmaaa", sum := "c82303515f60371cc45eabbc4185d71cddddba01a6bdd634cde31d9bc8cacc34", func := "chirograph/chirographlaw10.EcdsaBuilds", spec := "ecdsaBuilds", unfollowed := true, recurses := true, apart := false }
def EcdsaBuildsSaid : Prop := ecdsaBuildsRow.holds Try.pinned (OpenSpec.ofChange ecdsaBuildsSpec)

/-- ITS FALSE NEIGHBOUR: 'it returns false'. Refute it at one input. -/
def ecdsaBuildsWrong : ChangeSpec := { name := "ecdsaBuilds", fn := fun _ => fun
  | [d1, d2] => { results := [.lit (.bool false)], args := [d1, d2] }
  | _ => none }
def EcdsaBuildsWrongFalsely : Prop := ecdsaBuildsRow.holds Try.pinned (OpenSpec.ofChange ecdsaBuildsWrong)

/- THE SECOND FORM. 'bulk': how many values and letters a reading holds, each counted each time it is reached (what is shared counts as often as it is met; a slice's spare places count too). A statement '..UptoSaid' is the law's where the arguments, and the package variables that the reading takes, are together of bulk at most 1048576: NARROWER than '..Said'. Prove '..Said' where nothing that the law and all that it calls make is longer than what came in: it says more and counts as full. Else prove '..UptoSaid'. A law counts once. -/
mutual
def uptoBulk {H : Type} : DataW H → Nat
  | .lit (.string bytes) => bytes.length + 1
  | .lit _ => 1
  | .nil => 1
  | .ptr d => uptoBulk d + 1
  | .slice elems spare => uptoBulkAll elems + uptoBulkAll spare + 1
  | .agg parts => uptoBulkAll parts + 1
  | .iface _ d => uptoBulk d + 1
  | .map entries => uptoBulkEntries entries + 1
  | .held _ => 1
def uptoBulkAll {H : Type} : List (DataW H) → Nat
  | [] => 0
  | d :: r => uptoBulk d + uptoBulkAll r
def uptoBulkEntries {H : Type} : List (Lit × DataW H) → Nat
  | [] => 0
  | x :: r => uptoBulkEntry x + uptoBulkEntries r
def uptoBulkEntry {H : Type} : Lit × DataW H → Nat
  | (.string bytes, d) => bytes.length + uptoBulk d + 1
  | (_, d) => uptoBulk d + 1
 end
def uptoSmall : (H : Type) → List (DataW H) → Bool := fun _ ds => decide (uptoBulkAll ds ≤ 1048576)
def OpenSpec.upto (s : _root_.Go.ChangeSpec) : _root_.Go.OpenSpec := { _root_.Go.OpenSpec.ofChange s with cond := some uptoSmall }

/-- 'chirographlaw10.EcdsaParses', WHERE WHAT IT READS IS OF BULK AT MOST 1048576: true; the input reads as it did. -/
def ecdsaParsesUptoRow : OpenClaim := { program := "ytedoghjefdkmaaa", sum := "c82303515f60371cc45eabbc4185d71cddddba01a6bdd634cde31d9bc8cacc34", func := "chirograph/chirographlaw10.EcdsaParses", spec := "ecdsaParses", unfollowed := true, recurses := true, apart := false, narrowed := true }
def EcdsaParsesUptoSaid : Prop := ecdsaParsesUptoRow.holds Try.pinned (OpenSpec.upto ecdsaParsesSpec)

/-- 'chirographlaw10.EcdsaBuilds', WHERE WHAT IT READS IS OF BULK AT MOST 1048576: true; the input reads as it did. -/
def ecdsaBuildsUptoRow : OpenClaim := { program := "ytedoghjefdkmaaa", sum := "c82303515f60371cc45eabbc4185d71cddddba01a6bdd634cde31d9bc8cacc34", func := "chirograph/chirographlaw10.EcdsaBuilds", spec := "ecdsaBuilds", unfollowed := true, recurses := true, apart := false, narrowed := true }
def EcdsaBuildsUptoSaid : Prop := ecdsaBuildsUptoRow.holds Try.pinned (OpenSpec.upto ecdsaBuildsSpec)

end Rows
end Go.Proofs.Ytedoghjefdkmaaa
