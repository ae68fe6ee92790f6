/-
  No cell of these rows narrows 'for every input' (looked for: loops, veiled, ifaces, maps, wideKeys, modest, calm, conditions, laid).
  DERIVED. THE GIVEN ROWS OF THIS SEAT. 4 by the template 'for every input the law returns true; each argument reads behind the call as it read before'; 0 by the template 'total and deterministic' (their statements: YtedoghjefdkmaaaGreatTotals.lean).
  GIVEN WITH THE SEED: the statements are not yours to turn. If you find one false, say at which input.
  Laid BY PROGRAM, IN A SANDBOX (cutbox-rows.mjs): the forced cells as the released guide's own fill.sh prints them over the translation 8c73e3ad6887c977… (all of the seat's roots in one cut). By AI agents, Wed Nov 11 2026. No macro, syntax, notation, axiom, sorry.
-/
import Derived.Test.YtedoghjefdkmaaaGreatChecked
import GoSem.Claim
import GoSem.ClaimJoined
import GoSem.ClaimMapViews
import Derived.JoinedTies
import Derived.KernelRfl
namespace Go.Proofs.YtedoghjefdkmaaaGreat
/- THE CELL 'sum', in the pinned program and in every row, IS THE sha256 OF THE DUMP (.gsa) THAT YtedoghjefdkmaaaGreatProg.lean LOADS. Nothing in Lean hashes anything: it is a label: what it is worth is what the hold of that sum in a sandbox is worth. -/
noncomputable def Tryz.pinned : Pinned := { name := "ytedoghjefdkmaaagreat", sum := "8c73e3ad6887c97768cc7b25f80b0715131886d674646b64c622b8e2bead62f7", checked := Tryz.checked }
namespace Rows
def none {H : Type} : Left H := { results := [], args := [] }

/-- 'chirographlaw10.EcdsaKeys': WHATEVER THE INPUT: true; the input reads as it did. -/
def ecdsaKeysSpec : ChangeSpec := { name := "ecdsaKeys", fn := fun _ => fun
  | [d1, d2, d3] => { results := [.lit (.bool true)], args := [d1, d2, d3] }
  | _ => none }
def ecdsaKeysRow : OpenClaim := { program := "ytedoghjefdkmaaagreat", sum := "8c73e3ad6887c97768cc7b25f80b0715131886d674646b64c622b8e2bead62f7", func := "chirograph/chirographlaw10.EcdsaKeys", spec := "ecdsaKeys", unfollowed := true, recurses := true, apart := false }
def EcdsaKeysSaid : Prop := ecdsaKeysRow.holds Tryz.pinned (OpenSpec.ofChange ecdsaKeysSpec)

/-- ITS FALSE NEIGHBOUR: 'it returns false'. Refute it at one input. -/
def ecdsaKeysWrong : ChangeSpec := { name := "ecdsaKeys", fn := fun _ => fun
  | [d1, d2, d3] => { results := [.lit (.bool false)], args := [d1, d2, d3] }
  | _ => none }
def EcdsaKeysWrongFalsely : Prop := ecdsaKeysRow.holds Tryz.pinned (OpenSpec.ofChange ecdsaKeysWrong)

/-- 'chirographlaw10.EcdsaVerifies': WHATEVER THE INPUT: true; the input reads as it did. -/
def ecdsaVerifiesSpec : ChangeSpec := { name := "ecdsaVerifies", fn := fun _ => fun
  | [d1, d2, d3, d4] => { results := [.lit (.bool true)], args := [d1, d2, d3, d4] }
  | _ => none }
def ecdsaVerifiesRow : OpenClaim := { program := "ytedoghjefdkmaaagreat", sum := "8c73e3ad6887c97768cc7b25f80b0715131886d674646b64c622b8e2bead62f7", func := "chirograph/chirographlaw10.EcdsaVerifies", spec := "ecdsaVerifies", unfollowed := true, recurses := true, apart := false }
def EcdsaVerifiesSaid : Prop := ecdsaVerifiesRow.holds Tryz.pinned (OpenSpec.ofChange ecdsaVerifiesSpec)

/-- ITS FALSE NEIGHBOUR: 'it returns false'. Refute it at one input. -/
def ecdsaVerifiesWrong : ChangeSpec := { name := "ecdsaVerifies", fn := fun _ => fun
  | [d1, d2, d3, d4] => { results := [.lit (.bool false)], args := [d1, d2, d3, d4] }
  | _ => none }
def EcdsaVerifiesWrongFalsely : Prop := ecdsaVerifiesRow.holds Tryz.pinned (OpenSpec.ofChange ecdsaVerifiesWrong)

/-- 'chirographlaw10.EcdsaSigned': WHATEVER THE INPUT: true; the input reads as it did. -/
def ecdsaSignedSpec : ChangeSpec := { name := "ecdsaSigned", fn := fun _ => fun
  | [d1, d2, d3, d4] => { results := [.lit (.bool true)], args := [d1, d2, d3, d4] }
  | _ => none }
def ecdsaSignedRow : OpenClaim := { program := "ytedoghjefdkmaaagreat", sum := "8c73e3ad6887c97768cc7b25f80b0715131886d674646b64c622b8e2bead62f7", func := "chirograph/chirographlaw10.EcdsaSigned", spec := "ecdsaSigned", unfollowed := true, recurses := true, apart := false }
def EcdsaSignedSaid : Prop := ecdsaSignedRow.holds Tryz.pinned (OpenSpec.ofChange ecdsaSignedSpec)

/-- ITS FALSE NEIGHBOUR: 'it returns false'. Refute it at one input. -/
def ecdsaSignedWrong : ChangeSpec := { name := "ecdsaSigned", fn := fun _ => fun
  | [d1, d2, d3, d4] => { results := [.lit (.bool false)], args := [d1, d2, d3, d4] }
  | _ => none }
def EcdsaSignedWrongFalsely : Prop := ecdsaSignedRow.holds Tryz.pinned (OpenSpec.ofChange ecdsaSignedWrong)

/-- 'chirographlaw10.EcdsaMore': WHATEVER THE INPUT: true; the input reads as it did. -/
def ecdsaMoreSpec : ChangeSpec := { name := "ecdsaMore", fn := fun _ => fun
  | [d1, d2, d3, d4, d5] => { results := [.lit (.bool true)], args := [d1, d2, d3, d4, d5] }
  | _ => none }
def ecdsaMoreRow : OpenClaim := { program := "ytedoghjefdkmaaagreat", sum := "8c73e3ad6887c97768cc7b25f80b0715131886d674646b64c622b8e2bead62f7", func := "chirograph/chirographlaw10.EcdsaMore", spec := "ecdsaMore", unfollowed := true, recurses := true, apart := false }
def EcdsaMoreSaid : Prop := ecdsaMoreRow.holds Tryz.pinned (OpenSpec.ofChange ecdsaMoreSpec)

/-- ITS FALSE NEIGHBOUR: 'it returns false'. Refute it at one input. -/
def ecdsaMoreWrong : ChangeSpec := { name := "ecdsaMore", fn := fun _ => fun
  | [d1, d2, d3, d4, d5] => { results := [.lit (.bool false)], args := [d1, d2, d3, d4, d5] }
  | _ => none }
def EcdsaMoreWrongFalsely : Prop := ecdsaMoreRow.holds Tryz.pinned (OpenSpec.ofChange ecdsaMoreWrong)

/- THE SECOND FORM. 'bulk': how many values and letters a reading holds, each counted each time it is reached (what is shared counts as often as it is met; a slice's spare places count too). A statement '..UptoSaid' is the law's where the arguments, and the package variables that the reading takes, are together of bulk at most 1048576: NARROWER than '..Said'. Prove '..Said' where nothing that the law and all that it calls make is longer than what came in: it says more and counts as full. Else prove '..UptoSaid'. A law counts once. -/
mutual
def uptoBulk {H : Type} : DataW H → Nat
  | .lit (.string bytes) => bytes.length + 1
  | .lit _ => 1
  | .nil => 1
  | .ptr d => uptoBulk d + 1
  | .slice elems spare => uptoBulkAll elems + uptoBulkAll spare + 1
  | .agg parts => uptoBulkAll parts + 1
  | .iface _ d => uptoBulk d + 1
  | .map entries => uptoBulkEntries entries + 1
  | .held _ => 1
def uptoBulkAll {H : Type} : List (DataW H) → Nat
  | [] => 0
  | d :: r => uptoBulk d + uptoBulkAll r
def uptoBulkEntries {H : Type} : List (Lit × DataW H) → Nat
  | [] => 0
  | x :: r => uptoBulkEntry x + uptoBulkEntries r
def uptoBulkEntry {H : Type} : Lit × DataW H → Nat
  | (.string bytes, d) => bytes.length + uptoBulk d + 1
  | (_, d) => uptoBulk d + 1
 end
def uptoSmall : (H : Type) → List (DataW H) → Bool := fun _ ds => decide (uptoBulkAll ds ≤ 1048576)
def OpenSpec.upto (s : _root_.Go.ChangeSpec) : _root_.Go.OpenSpec := { _root_.Go.OpenSpec.ofChange s with cond := some uptoSmall }

/-- 'chirographlaw10.EcdsaKeys', WHERE WHAT IT READS IS OF BULK AT MOST 1048576: true; the input reads as it did. -/
def ecdsaKeysUptoRow : OpenClaim := { program := "ytedoghjefdkmaaagreat", sum := "8c73e3ad6887c97768cc7b25f80b0715131886d674646b64c622b8e2bead62f7", func := "chirograph/chirographlaw10.EcdsaKeys", spec := "ecdsaKeys", unfollowed := true, recurses := true, apart := false, narrowed := true }
def EcdsaKeysUptoSaid : Prop := ecdsaKeysUptoRow.holds Tryz.pinned (OpenSpec.upto ecdsaKeysSpec)

/-- 'chirographlaw10.EcdsaVerifies', WHERE WHAT IT READS IS OF BULK AT MOST 1048576: true; the input reads as it did. -/
def ecdsaVerifiesUptoRow : OpenClaim := { program := "ytedoghjefdkmaaagreat", sum := "8c73e3ad6887c97768cc7b25f80b0715131886d674646b64c622b8e2bead62f7", func := "chirograph/chirographlaw10.EcdsaVerifies", spec := "ecdsaVerifies", unfollowed := true, recurses := true, apart := false, narrowed := true }
def EcdsaVerifiesUptoSaid : Prop := ecdsaVerifiesUptoRow.holds Tryz.pinned (OpenSpec.upto ecdsaVerifiesSpec)

/-- 'chirographlaw10.EcdsaSigned', WHERE WHAT IT READS IS OF BULK AT MOST 1048576: true; the input reads as it did. -/
def ecdsaSignedUptoRow : OpenClaim := { program := "ytedoghjefdkmaaagreat", sum := "8c73e3ad6887c97768cc7b25f80b0715131886d674646b64c622b8e2bead62f7", func := "chirograph/chirographlaw10.EcdsaSigned", spec := "ecdsaSigned", unfollowed := true, recurses := true, apart := false, narrowed := true }
def EcdsaSignedUptoSaid : Prop := ecdsaSignedUptoRow.holds Tryz.pinned (OpenSpec.upto ecdsaSignedSpec)

/-- 'chirographlaw10.EcdsaMore', WHERE WHAT IT READS IS OF BULK AT MOST 1048576: true; the input reads as it did. -/
def ecdsaMoreUptoRow : OpenClaim := { program := "ytedoghjefdkmaaagreat", sum := "8c73e3ad6887c97768cc7b25f80b0715131886d674646b64c622b8e2bead62f7", func := "chirograph/chirographlaw10.EcdsaMore", spec := "ecdsaMore", unfollowed := true, recurses := true, apart := false, narrowed := true }
def EcdsaMoreUptoSaid : Prop := ecdsaMoreUptoRow.holds Tryz.pinned (OpenSpec.upto ecdsaMoreSpec)

end Rows
end Go.Proofs.YtedoghjefdkmaaaGreat
