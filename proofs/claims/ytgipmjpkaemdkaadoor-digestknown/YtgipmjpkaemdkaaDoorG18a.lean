/-
  Digest: New.
-/
import Derived.Test.YtgipmjpkaemdkaaDoorG18
namespace Go.Proofs.YtgipmjpkaemdkaaDoor
open Go.RowKit
theorem wpList_buildW {P : Program} {ops : Array Oper} {rest : List Oper} {o : Oper} {a : Act} {w : World} {Q : Exit → Act → World → Prop} (hg : o.guard = none) (t : TypeId) (x : Operand) (ho : o.op = .build t #[(0, x)]) (cells : Array Value) (hx : a.eval x = .agg cells)
    (hr : ∀ w : World, (Instr.build t #[(0, .agg cells)]).run P w = .ok (.agg cells) w)
    (h : wpList P ops Q rest (a.put o.dst (.agg cells)) w) : wpList P ops Q (o :: rest) a w := by
  refine wpList_plain hg fun K hK => ?_
  unfold Oper.wp execOp
  have e : (#[(0, x)] : Array (Nat × Operand)).map (fun p => (p.1, a.eval p.2)) = #[(0, Value.agg cells)] := by simp [hx]
  simp only [ho, e, Sem.run_bind, hr, Sem.run_pure, Result.andThen_ok]
  exact hK _ _ h
theorem Tryd.zeroH : ((Tryd.prog.info? 57).bind (·.zero)).map (fun v => v.cells.size) = some 146 := by kernel_rfl
theorem build_hash (w : World) (cs : Array Value) (h : cs.size = 146) : (Instr.build 57 #[(0, .agg cs)]).run Tryd.prog w = .ok (.agg cs) w := by
  cases hq : Tryd.prog.info? 57 with
  | none => have := Tryd.zeroH; simp [hq] at this
  | some i =>
    cases hz : i.zero with
    | none => have := Tryd.zeroH; simp [hq, hz] at this
    | some v =>
      have hv : v.cells.size = 146 := by have := Tryd.zeroH; simpa [hq, hz] using this
      cases hs : Tryd.prog.info? 54 with
      | none => have := Tryd.sizeH; simp [hs] at this
      | some j =>
        have hj : j.size = 146 := by have := Tryd.sizeH; simpa [hs] using this
        have hfl := fill_one (fun k => ([(0, 146)] : List (Nat × Nat))[k]?) v.cells cs (by simp [h]) (by rw [hv, h])
        simp [Instr.build, Sem.run_bind, zeroValue, typeInfo, hq, hz, sizeOf, hs, hj, hfl]
set_option maxHeartbeats 1000000 in
theorem New_any {w : World} (alg : Int) (ha : Alg alg) (hT : Tabs w) : Calls Tryd.prog 21 #[.int .i64 alg] w fun e w' => ∃ g, e = .returned (.tuple #[.pointer (some ⟨g, 0, none⟩), .int .i64 0]) ∧ w.heap.size ≤ g ∧ HashIs w' g alg [] ∧ Below w.heap.size w w' := by
  have HBl : Hid (∀ w' : World, Calls Tryd.prog 19 #[.int .i64 alg] w' fun e w'' => e = .returned (.int .i64 (blk alg)) ∧ w' = w'') := fun w' => (Block_any alg).mono fun _ _ h => ⟨h.1, h.2.symm⟩
  have hb0 := blk_alg ha
  have HS : Hid (∀ w', w' = w → Calls Tryd.prog _ _ w' _) := fun w' hw => by rw [hw]; exact Start_any alg ha hT
  have hcs : (Hs.start alg).cells.length = 146 := Hs.cells_len (by simp [Hs.start, Hs.empty])
  have HBu : Hid (∀ w : World, (Instr.build 57 #[(0, .agg (Hs.start alg).cells.toArray)]).run Tryd.prog w = .ok (.agg (Hs.start alg).cells.toArray) w) := fun w => build_hash w _ (by simp [hcs])
  have HA : Hid (Alg alg) := ha
  clear hT hcs
  go_enter Tryd.func21, Tryd.ntmps21
  go_wp2_with (first
    | (go_at_call 19; refine (HBl.out _).mono ?_; rintro e w' ⟨rfl, rfl⟩)
    | (go_at_call 30; refine (HS.out _ rfl).mono ?_; rintro e w2 ⟨rfl, hB2⟩; have HB2 : Hid (Below w.heap.size w w2) := hB2; clear hB2)
    | (refine wpList_buildW rfl 57 (.tmp 8) rfl (Hs.start alg).cells.toArray rfl HBu.out ?_)
    | (refine wpList_boxR rfl 57 (.tmp 9) rfl (Hs.start alg).cells.toArray rfl ?_))
  go_ret2
  exact ⟨_, rfl, HB2.out.size, ⟨_, _, Blk.new _ w2 _, Hs.start_ok HA.out, Hs.start_inv alg⟩, HB2.out.alloc HB2.out.size _⟩
end Go.Proofs.YtgipmjpkaemdkaaDoor
