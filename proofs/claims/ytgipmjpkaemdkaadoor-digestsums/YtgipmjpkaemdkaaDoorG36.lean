/-
  Digest: the reference's table of roots of 64 bits.
-/
import Derived.Test.YtgipmjpkaemdkaaDoorG22
namespace Go.Proofs.YtgipmjpkaemdkaaDoor
open Go.RowKit
theorem wpList_build_c {P : Program} {ops : Array Oper} {rest : List Oper} {o : Oper} {a : Act} {w : World} {Q : Exit → Act → World → Prop} (hg : o.guard = none) (t : TypeId) (parts : Array (Nat × Operand)) (ho : o.op = .build t parts) (cells : Array Value)
    (hf : P.built t (parts.map fun (i, x) => (i, a.eval x)).toList = some cells)
    (h : wpList P ops Q rest (a.put o.dst (.agg cells)) w) : wpList P ops Q (o :: rest) a w :=
  wpList_build hg t parts ho (by rw [hf]; rfl) (by rw [hf]; exact h)
set_option maxRecDepth 20000 in
set_option maxHeartbeats 1000000 in
theorem roots64_any {w : World} : Calls Tryd.prog 45 #[] w fun e w' => e = .returned (.agg (adds512L.map (Value.int .u64)).toArray) ∧ Below w.heap.size w w' := by
  have HS : Hid ((Tryd.prog.info? 68).map (·.size) = some (adds512L.map (Value.int .u64)).length) := Tryd.size80q
  have hB0 := Blk.new 68 w (List.replicate 80 (Value.int .u64 0))
  have HTh : Hid ((w.alloc (.cells (List.replicate 80 (Value.int .u64 0)).toArray 68)).there w.heap.size 0 (adds512L.map (Value.int .u64)).toArray.size) := hB0.there _ _ (by decide)
  have HF : Hid (Blk 68 ((w.alloc (.cells (List.replicate 80 (Value.int .u64 0)).toArray 68)).setCells w.heap.size 0 (adds512L.map (Value.int .u64))) w.heap.size (adds512L.map (Value.int .u64)) ∧ Below w.heap.size w ((w.alloc (.cells (List.replicate 80 (Value.int .u64 0)).toArray 68)).setCells w.heap.size 0 (adds512L.map (Value.int .u64)))) :=
    ⟨hB0.fill _ (by decide), (Upd.setCells _ _ _).below (al1 _) (al1 _).size (Nat.le_refl _)⟩
  clear hB0
  go_enter Tryd.func45, Tryd.ntmps45
  go_upto_region 1 with (fail)
  go_wp2_with (first
    | (refine wpList_build_c rfl 68 _ rfl (adds512L.map (Value.int .u64)).toArray (by kernel_rfl) ?_)
    | (refine wpList_store_mid rfl 68 (.tmp 0) (.tmp 1) rfl w.heap.size 0 (adds512L.map (Value.int .u64)).toArray rfl rfl HTh.out (by simpa using HS.out) (ints_one _ _) ?_))
  exact bodyPost_ret (v := .agg (adds512L.map (Value.int .u64)).toArray) (results_blk (b := w.heap.size) (cs := adds512L.map (Value.int .u64)) rfl rfl HF.out.1 Tryd.underlying68 rfl HS.out) rfl ⟨rfl, HF.out.2⟩
end Go.Proofs.YtgipmjpkaemdkaaDoor
