/-
  NARROWER THAN 'FOR EVERY INPUT', by the rows' own cells (each row's printed sentence says how): BerAgain: laid · BerBack: laid · BerTails: laid · BerOwn: laid.
  DERIVED. THE GIVEN ROWS OF THIS SEAT. 4 by the template 'for every input the law returns true; each argument reads behind the call as it read before'; 0 by the template 'total and deterministic' (their statements: YtekacoeikjonmaaDoorTotals.lean).
  GIVEN WITH THE SEED: the statements are not yours to turn. If you find one false, say at which input.
  Laid BY PROGRAM, IN A SANDBOX (cutbox-rows.mjs): the forced cells as the released guide's own fill.sh prints them over the translation 75d1faade8480c14… (all of the seat's roots in one cut). By AI agents, Wed Nov 11 2026. No macro, syntax, notation, axiom, sorry.
-/
import Derived.Test.YtekacoeikjonmaaDoorChecked
import GoSem.Claim
import GoSem.ClaimJoined
import GoSem.ClaimMapViews
import Derived.JoinedTies
import Derived.KernelRfl
namespace Go.Proofs.YtekacoeikjonmaaDoor
/- THE CELL 'sum', in the pinned program and in every row, IS THE sha256 OF THE DUMP (.gsa) THAT YtekacoeikjonmaaDoorProg.lean LOADS. Nothing in Lean hashes anything: it is a label: what it is worth is what the hold of that sum in a sandbox is worth. -/
noncomputable def Tryd.pinned : Pinned := { name := "ytekacoeikjonmaadoor", sum := "75d1faade8480c14511a42923d426550b6f85185ccef99ff45d306a3470812b4", checked := Tryd.checked }
namespace Rows
def none {H : Type} : Left H := { results := [], args := [] }

/- WHAT THE LISTED PACKAGE-LEVEL VARIABLES READ AS WHEN THE CALL BEGINS. Each datum BY PROGRAM (the guide's laid-datum.mjs) off the statement by which the dump's own 'gosem.cut.vars' lays the variable. In a bare row this is a premise. The card (YtekacoeikjonmaaDoorCards.lean) ties it to the program's text. -/
def laid_errors_errorType {H : Type} : DataW H := .iface "internal/reflectlite.rtype" (.agg [.ptr (.lit (.string [101, 114, 114, 111, 114]))])

/-- 'chirographlaw03.BerAgain': WHATEVER THE INPUT: true; the input reads as it did. -/
def berAgainSpec : ChangeSpec := { name := "berAgain", fn := fun _ => fun
  | [d] => { results := [.lit (.bool true)], args := [d] }
  | _ => none }
def berAgainRow : OpenClaim := { program := "ytekacoeikjonmaadoor", sum := "75d1faade8480c14511a42923d426550b6f85185ccef99ff45d306a3470812b4", func := "chirograph/chirographlaw03.BerAgain", spec := "berAgain", inPlace := ["internal/reflectlite.ValueOf", "(internal/reflectlite.Value).Type", "(internal/reflectlite.Value).IsNil", "internal/reflectlite.TypeOf", "(internal/reflectlite.Value).Elem", "(internal/reflectlite.Value).Set", "internal/bytealg.Compare"], unfollowed := true, recurses := true, named := ["errors.errorType"], apart := false, laid := [("errors.errorType", laid_errors_errorType)] }
def BerAgainSaid : Prop := berAgainRow.holds Tryd.pinned (OpenSpec.ofChange berAgainSpec)

/-- ITS FALSE NEIGHBOUR: 'it returns false'. Refute it at one input. -/
def berAgainWrong : ChangeSpec := { name := "berAgain", fn := fun _ => fun
  | [d] => { results := [.lit (.bool false)], args := [d] }
  | _ => none }
def BerAgainWrongFalsely : Prop := berAgainRow.holds Tryd.pinned (OpenSpec.ofChange berAgainWrong)

/-- 'chirographlaw03.BerBack': WHATEVER THE INPUT: true; the input reads as it did. -/
def berBackSpec : ChangeSpec := { name := "berBack", fn := fun _ => fun
  | [d] => { results := [.lit (.bool true)], args := [d] }
  | _ => none }
def berBackRow : OpenClaim := { program := "ytekacoeikjonmaadoor", sum := "75d1faade8480c14511a42923d426550b6f85185ccef99ff45d306a3470812b4", func := "chirograph/chirographlaw03.BerBack", spec := "berBack", inPlace := ["internal/reflectlite.ValueOf", "(internal/reflectlite.Value).Type", "(internal/reflectlite.Value).IsNil", "internal/reflectlite.TypeOf", "(internal/reflectlite.Value).Elem", "(internal/reflectlite.Value).Set", "internal/bytealg.Compare"], unfollowed := true, recurses := true, named := ["errors.errorType"], apart := false, laid := [("errors.errorType", laid_errors_errorType)] }
def BerBackSaid : Prop := berBackRow.holds Tryd.pinned (OpenSpec.ofChange berBackSpec)

/-- ITS FALSE NEIGHBOUR: 'it returns false'. Refute it at one input. -/
def berBackWrong : ChangeSpec := { name := "berBack", fn := fun _ => fun
  | [d] => { results := [.lit (.bool false)], args := [d] }
  | _ => none }
def BerBackWrongFalsely : Prop := berBackRow.holds Tryd.pinned (OpenSpec.ofChange berBackWrong)

/-- 'chirographlaw03.BerTails': WHATEVER THE INPUT: true; the input reads as it did. -/
def berTailsSpec : ChangeSpec := { name := "berTails", fn := fun _ => fun
  | [d1, d2, d3] => { results := [.lit (.bool true)], args := [d1, d2, d3] }
  | _ => none }
def berTailsRow : OpenClaim := { program := "ytekacoeikjonmaadoor", sum := "75d1faade8480c14511a42923d426550b6f85185ccef99ff45d306a3470812b4", func := "chirograph/chirographlaw03.BerTails", spec := "berTails", inPlace := ["internal/reflectlite.ValueOf", "(internal/reflectlite.Value).Type", "(internal/reflectlite.Value).IsNil", "internal/reflectlite.TypeOf", "(internal/reflectlite.Value).Elem", "(internal/reflectlite.Value).Set", "internal/bytealg.Compare"], unfollowed := true, recurses := true, named := ["errors.errorType"], apart := false, laid := [("errors.errorType", laid_errors_errorType)] }
def BerTailsSaid : Prop := berTailsRow.holds Tryd.pinned (OpenSpec.ofChange berTailsSpec)

/-- ITS FALSE NEIGHBOUR: 'it returns false'. Refute it at one input. -/
def berTailsWrong : ChangeSpec := { name := "berTails", fn := fun _ => fun
  | [d1, d2, d3] => { results := [.lit (.bool false)], args := [d1, d2, d3] }
  | _ => none }
def BerTailsWrongFalsely : Prop := berTailsRow.holds Tryd.pinned (OpenSpec.ofChange berTailsWrong)

/-- 'chirographlaw03.BerOwn': WHATEVER THE INPUT: true; the input reads as it did. -/
def berOwnSpec : ChangeSpec := { name := "berOwn", fn := fun _ => fun
  | [d] => { results := [.lit (.bool true)], args := [d] }
  | _ => none }
def berOwnRow : OpenClaim := { program := "ytekacoeikjonmaadoor", sum := "75d1faade8480c14511a42923d426550b6f85185ccef99ff45d306a3470812b4", func := "chirograph/chirographlaw03.BerOwn", spec := "berOwn", inPlace := ["internal/reflectlite.ValueOf", "(internal/reflectlite.Value).Type", "(internal/reflectlite.Value).IsNil", "internal/reflectlite.TypeOf", "(internal/reflectlite.Value).Elem", "(internal/reflectlite.Value).Set", "internal/bytealg.Compare"], unfollowed := true, recurses := true, named := ["errors.errorType"], apart := false, laid := [("errors.errorType", laid_errors_errorType)] }
def BerOwnSaid : Prop := berOwnRow.holds Tryd.pinned (OpenSpec.ofChange berOwnSpec)

/-- ITS FALSE NEIGHBOUR: 'it returns false'. Refute it at one input. -/
def berOwnWrong : ChangeSpec := { name := "berOwn", fn := fun _ => fun
  | [d] => { results := [.lit (.bool false)], args := [d] }
  | _ => none }
def BerOwnWrongFalsely : Prop := berOwnRow.holds Tryd.pinned (OpenSpec.ofChange berOwnWrong)

/- THE SECOND FORM. 'bulk': how many values and letters a reading holds, each counted each time it is reached (what is shared counts as often as it is met; a slice's spare places count too). A statement '..UptoSaid' is the law's where the arguments, and the package variables that the reading takes, are together of bulk at most 1048576: NARROWER than '..Said'. Prove '..Said' where nothing that the law and all that it calls make is longer than what came in: it says more and counts as full. Else prove '..UptoSaid'. A law counts once. -/
mutual
def uptoBulk {H : Type} : DataW H → Nat
  | .lit (.string bytes) => bytes.length + 1
  | .lit _ => 1
  | .nil => 1
  | .ptr d => uptoBulk d + 1
  | .slice elems spare => uptoBulkAll elems + uptoBulkAll spare + 1
  | .agg parts => uptoBulkAll parts + 1
  | .iface _ d => uptoBulk d + 1
  | .map entries => uptoBulkEntries entries + 1
  | .held _ => 1
def uptoBulkAll {H : Type} : List (DataW H) → Nat
  | [] => 0
  | d :: r => uptoBulk d + uptoBulkAll r
def uptoBulkEntries {H : Type} : List (Lit × DataW H) → Nat
  | [] => 0
  | x :: r => uptoBulkEntry x + uptoBulkEntries r
def uptoBulkEntry {H : Type} : Lit × DataW H → Nat
  | (.string bytes, d) => bytes.length + uptoBulk d + 1
  | (_, d) => uptoBulk d + 1
 end
def uptoSmall : (H : Type) → List (DataW H) → Bool := fun _ ds => decide (uptoBulkAll ds ≤ 1048576)
def OpenSpec.upto (s : _root_.Go.ChangeSpec) : _root_.Go.OpenSpec := { _root_.Go.OpenSpec.ofChange s with cond := some uptoSmall }

/-- 'chirographlaw03.BerAgain', WHERE WHAT IT READS IS OF BULK AT MOST 1048576: true; the input reads as it did. -/
def berAgainUptoRow : OpenClaim := { program := "ytekacoeikjonmaadoor", sum := "75d1faade8480c14511a42923d426550b6f85185ccef99ff45d306a3470812b4", func := "chirograph/chirographlaw03.BerAgain", spec := "berAgain", inPlace := ["internal/reflectlite.ValueOf", "(internal/reflectlite.Value).Type", "(internal/reflectlite.Value).IsNil", "internal/reflectlite.TypeOf", "(internal/reflectlite.Value).Elem", "(internal/reflectlite.Value).Set", "internal/bytealg.Compare"], unfollowed := true, recurses := true, named := ["errors.errorType"], apart := false, laid := [("errors.errorType", laid_errors_errorType)], narrowed := true }
def BerAgainUptoSaid : Prop := berAgainUptoRow.holds Tryd.pinned (OpenSpec.upto berAgainSpec)

/-- 'chirographlaw03.BerBack', WHERE WHAT IT READS IS OF BULK AT MOST 1048576: true; the input reads as it did. -/
def berBackUptoRow : OpenClaim := { program := "ytekacoeikjonmaadoor", sum := "75d1faade8480c14511a42923d426550b6f85185ccef99ff45d306a3470812b4", func := "chirograph/chirographlaw03.BerBack", spec := "berBack", inPlace := ["internal/reflectlite.ValueOf", "(internal/reflectlite.Value).Type", "(internal/reflectlite.Value).IsNil", "internal/reflectlite.TypeOf", "(internal/reflectlite.Value).Elem", "(internal/reflectlite.Value).Set", "internal/bytealg.Compare"], unfollowed := true, recurses := true, named := ["errors.errorType"], apart := false, laid := [("errors.errorType", laid_errors_errorType)], narrowed := true }
def BerBackUptoSaid : Prop := berBackUptoRow.holds Tryd.pinned (OpenSpec.upto berBackSpec)

/-- 'chirographlaw03.BerTails', WHERE WHAT IT READS IS OF BULK AT MOST 1048576: true; the input reads as it did. -/
def berTailsUptoRow : OpenClaim := { program := "ytekacoeikjonmaadoor", sum := "75d1faade8480c14511a42923d426550b6f85185ccef99ff45d306a3470812b4", func := "chirograph/chirographlaw03.BerTails", spec := "berTails", inPlace := ["internal/reflectlite.ValueOf", "(internal/reflectlite.Value).Type", "(internal/reflectlite.Value).IsNil", "internal/reflectlite.TypeOf", "(internal/reflectlite.Value).Elem", "(internal/reflectlite.Value).Set", "internal/bytealg.Compare"], unfollowed := true, recurses := true, named := ["errors.errorType"], apart := false, laid := [("errors.errorType", laid_errors_errorType)], narrowed := true }
def BerTailsUptoSaid : Prop := berTailsUptoRow.holds Tryd.pinned (OpenSpec.upto berTailsSpec)

/-- 'chirographlaw03.BerOwn', WHERE WHAT IT READS IS OF BULK AT MOST 1048576: true; the input reads as it did. -/
def berOwnUptoRow : OpenClaim := { program := "ytekacoeikjonmaadoor", sum := "75d1faade8480c14511a42923d426550b6f85185ccef99ff45d306a3470812b4", func := "chirograph/chirographlaw03.BerOwn", spec := "berOwn", inPlace := ["internal/reflectlite.ValueOf", "(internal/reflectlite.Value).Type", "(internal/reflectlite.Value).IsNil", "internal/reflectlite.TypeOf", "(internal/reflectlite.Value).Elem", "(internal/reflectlite.Value).Set", "internal/bytealg.Compare"], unfollowed := true, recurses := true, named := ["errors.errorType"], apart := false, laid := [("errors.errorType", laid_errors_errorType)], narrowed := true }
def BerOwnUptoSaid : Prop := berOwnUptoRow.holds Tryd.pinned (OpenSpec.upto berOwnSpec)

end Rows
end Go.Proofs.YtekacoeikjonmaaDoor
