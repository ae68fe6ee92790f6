/-
  Digest: the reference's tables of roots.
-/
import Derived.Test.YtgipmjpkaemdkaaDoorG31
namespace Go.Proofs.YtgipmjpkaemdkaaDoor
open Go.RowKit
set_option maxRecDepth 20000 in
set_option maxHeartbeats 1000000 in
theorem roots32_any {w : World} : Calls Tryd.prog 43 #[] w fun e w' => e = .returned (.agg (adds256L.map (Value.int .u32)).toArray) ∧ Below w.heap.size w w' := by
  have HS : Hid ((Tryd.prog.info? 66).map (·.size) = some (adds256L.map (Value.int .u32)).length) := Tryd.size64w
  have hB0 := Blk.new 66 w (List.replicate 64 (Value.int .u32 0))
  have HTh : Hid ((w.alloc (.cells (List.replicate 64 (Value.int .u32 0)).toArray 66)).there w.heap.size 0 (adds256L.map (Value.int .u32)).toArray.size) := hB0.there _ _ (by decide)
  have HF : Hid (Blk 66 ((w.alloc (.cells (List.replicate 64 (Value.int .u32 0)).toArray 66)).setCells w.heap.size 0 (adds256L.map (Value.int .u32))) w.heap.size (adds256L.map (Value.int .u32)) ∧ Below w.heap.size w ((w.alloc (.cells (List.replicate 64 (Value.int .u32 0)).toArray 66)).setCells w.heap.size 0 (adds256L.map (Value.int .u32)))) :=
    ⟨hB0.fill _ (by decide), (Upd.setCells _ _ _).below (al1 _) (al1 _).size (Nat.le_refl _)⟩
  clear hB0
  go_enter Tryd.func43, Tryd.ntmps43
  go_wp2_with (refine wpList_store_mid rfl 66 (.tmp 0) (.tmp 1) rfl w.heap.size 0 (adds256L.map (Value.int .u32)).toArray rfl rfl HTh.out (by simpa using HS.out) (ints_one _ _) ?_)
  exact bodyPost_ret (v := .agg (adds256L.map (Value.int .u32)).toArray) (results_blk (b := w.heap.size) (cs := adds256L.map (Value.int .u32)) rfl rfl HF.out.1 Tryd.underlying66 rfl HS.out) rfl ⟨rfl, HF.out.2⟩
end Go.Proofs.YtgipmjpkaemdkaaDoor
