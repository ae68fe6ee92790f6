/-
  Regions that draw: a call whose answer is told when it comes.
-/
import Derived.Test.YtkjdihikcgpababDoorK5
namespace Go.Proofs.YtkjdihikcgpababDoor
open Go.RowKit
section
variable {P : Program} {ops : Array Oper} {Q : Exit → Act → World → Prop} {β : Type} {V : β → Nat → Value} {S : β → Array Bool → World → Prop} {i : Nat} {b : β} {L : Array Bool} {a : Act} {W : World}
theorem rg_callx {o : Oper} (ho : ops[i]? = some o) (hw : Region.wanted o (yielded ops a.tmps) = true) {f : FuncId} {vs : Array Value} (hr : (execOp a.eval o).run P W = .ok (.enter f vs) W) {R : Value → World → Prop} (hc : Calls P f vs W fun e w' => ∃ v, e = .returned v ∧ R v w') (bb : Value → β) (hV : ∀ v, V (bb v) i = v) (hk : ∀ v k, k ≠ i → V (bb v) k = V b k) (hS : ∀ v w', R v w' → S (bb v) (L.setIfInBounds i true) w') : DetOp P ops Q V S i b L a W :=
  rg_op ho hw (by
    unfold Oper.wp
    rw [hr]
    refine hc.mono ?_
    rintro e w' ⟨v, rfl, h⟩
    exact ⟨bb v, fun k h1 _ => hk v k h1, by rw [hV]; exact put_dst ho, hS v w' h⟩)
theorem rg_callu {o : Oper} (ho : ops[i]? = some o) (hw : Region.wanted o (yielded ops a.tmps) = true) {f : FuncId} {vs : Array Value} (hr : (execOp a.eval o).run P W = .ok (.enter f vs) W) {R : Value → World → Prop} (hc : Calls P f vs W fun e w' => ∃ v, e = .returned v ∧ R v w') (bb : Value → β) (hV : ∀ v, V (bb v) i = v) (hk : ∀ v k, k ≠ i → Up L k → V (bb v) k = V b k) (hS : ∀ v w', R v w' → S (bb v) (L.setIfInBounds i true) w') : DetOp P ops Q V S i b L a W :=
  rg_op ho hw (by
    unfold Oper.wp
    rw [hr]
    refine hc.mono ?_
    rintro e w' ⟨v, rfl, h⟩
    exact ⟨bb v, fun k h1 h2 => hk v k h1 h2, by rw [hV]; exact put_dst ho, hS v w' h⟩)
end
end Go.Proofs.YtkjdihikcgpababDoor
