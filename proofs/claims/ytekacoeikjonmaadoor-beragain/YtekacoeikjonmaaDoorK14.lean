/-
  Ber: errors.As at the package's two kinds of faults.
-/
import Derived.LaidEql
import Derived.Stop.Asserts
import Derived.RowKitTokens
import Derived.Test.YtekacoeikjonmaaDoorK13
namespace Go.Proofs.YtekacoeikjonmaaDoor
open Go.RowKit Go.Extern.Stop Go.Stop Go.Extern
theorem Tryd.asKind (h : Value) (w : World) : (Go.method 287 107 (.agg #[h]) "Kind").run Tryd.prog w = .ok (102, h) w := by kernel_rfl
theorem Tryd.asElem (h : Value) (w : World) : (Go.method 287 107 (.agg #[h]) "Elem").run Tryd.prog w = .ok (114, .agg #[h]) w := by kernel_rfl
theorem Tryd.asImplements (h : Value) (w : World) : (Go.method 287 107 (.agg #[h]) "Implements").run Tryd.prog w = .ok (115, .agg #[h]) w := by kernel_rfl
theorem Tryd.asAssignable (h : Value) (w : World) : (Go.method 287 107 (.agg #[h]) "AssignableTo").run Tryd.prog w = .ok (112, .agg #[h]) w := by kernel_rfl
theorem Tryd.noAsF (v : Value) (xT : TypeId) (w : World) : (Instr.typeAssert (.iface 53 v) xT 112 true).run Tryd.prog w = .ok (.tuple #[.nilIface, .bool false]) w := run_typeAssert_lacksB Tryd.underlying112 (by kernel_rfl) (by kernel_rfl) v xT w
theorem Tryd.noAsS (v : Value) (xT : TypeId) (w : World) : (Instr.typeAssert (.iface 61 v) xT 112 true).run Tryd.prog w = .ok (.tuple #[.nilIface, .bool false]) w := run_typeAssert_lacksB Tryd.underlying112 (by kernel_rfl) (by kernel_rfl) v xT w
theorem Tryd.noUnwrapF (v : Value) (xT : TypeId) (w : World) : (Instr.typeAssert (.iface 53 v) xT 115 true).run Tryd.prog w = .ok (.tuple #[.nilIface, .bool false]) w := run_typeAssert_lacksB Tryd.underlying115 (by kernel_rfl) (by kernel_rfl) v xT w
theorem Tryd.noUnwrapsF (v : Value) (xT : TypeId) (w : World) : (Instr.typeAssert (.iface 53 v) xT 117 true).run Tryd.prog w = .ok (.tuple #[.nilIface, .bool false]) w := run_typeAssert_lacksB Tryd.underlying117 (by kernel_rfl) (by kernel_rfl) v xT w
theorem Tryd.hasUnwrapS (v : Value) (xT : TypeId) (w : World) : (Instr.typeAssert (.iface 61 v) xT 115 true).run Tryd.prog w = .ok (.tuple #[.iface 61 v, .bool true]) w := run_typeAssert_hasB Tryd.underlying115 (by kernel_rfl) v xT w
theorem Tryd.methodUnwrap (v : Value) (w : World) : (Go.method 287 61 v "Unwrap").run Tryd.prog w = .ok (107, v) w := by kernel_rfl
theorem rlm (z : Sem Value) (f : TypeId → Addr → Nat → Nat → Sem Value) (v : Value) : ReflectliteValue.method z f #[v] = (do match ← ReflectliteValue.parts v with | none => z | some (t, a, fl) => f t a fl (fl % 32)) := rfl
theorem Tryd.valueOfPF (t : Addr) (w : World) : (ReflectliteValue.unpack (.iface 59 (.pointer (some t)))).run Tryd.prog w = .ok (.agg #[.pointer (some ⟨2, 59, none⟩), .pointer (some ⟨w.heap.size, 0, none⟩), .int .u64 150]) (w.alloc (.cells #[.pointer (some t)] 59)) := by kernel_rfl
theorem Tryd.typePF (a : Addr) (w : World) : (ReflectliteValue.methodAny (ReflectliteValue.valueError "reflectlite.Value.Type" 0) (fun t _ _ _ => ReflectliteType.toType t) #[.agg #[.pointer (some ⟨2, 59, none⟩), .pointer (some a), .int .u64 150]]).run Tryd.prog w = .ok (.iface 107 (.agg #[.pointer (some ⟨2, 59, none⟩)])) w := by kernel_rfl
theorem Tryd.kindPF (w : World) : ((ReflectliteType.abiMethod fun t => (fun a : Nat => Value.int IntKind.u8 (a : Int)) <$> Rtype.kind t) #[.pointer (some ⟨2, 59, none⟩)]).run Tryd.prog w = .ok (.int .u8 22) w := by kernel_rfl
theorem Tryd.kindEF (w : World) : ((ReflectliteType.abiMethod fun t => (fun a : Nat => Value.int IntKind.u8 (a : Int)) <$> Rtype.kind t) #[.pointer (some ⟨2, 53, none⟩)]).run Tryd.prog w = .ok (.int .u8 25) w := by kernel_rfl
theorem Tryd.partsPF (a : Addr) (w : World) : (ReflectliteValue.parts (.agg #[.pointer (some ⟨2, 59, none⟩), .pointer (some a), .int .u64 150])).run Tryd.prog w = .ok (some (59, a, 150)) w := by kernel_rfl
theorem Tryd.isNilPF (a p : Addr) (W : World) (ha : W.cell? a = some (.pointer (some p))) : (ReflectliteValue.method (ReflectliteValue.valueError "reflectlite.Value.IsNil" 0) ReflectliteValue.isNil #[.agg #[.pointer (some ⟨2, 59, none⟩), .pointer (some a), .int .u64 150]]).run Tryd.prog W = .ok (.bool false) W := by
  rw [rlm]
  simp only [Sem.run_bind, Tryd.partsPF, Result.andThen]
  simp [ReflectliteValue.isNil, loadVar, isAgg, underlying, Tryd.underlying59, ha, Result.andThen]
theorem Tryd.elemPF (w : World) : (ReflectliteType.method ReflectliteType.elem #[.agg #[.pointer (some ⟨2, 59, none⟩)]]).run Tryd.prog w = .ok (.iface 107 (.agg #[.pointer (some ⟨2, 53, none⟩)])) w := by kernel_rfl
theorem Tryd.implementsF (w : World) : (ReflectliteType.relation "Implements" ReflectliteType.implements_ #[.agg #[.pointer (some ⟨2, 53, none⟩)], .iface 107 (.agg #[.pointer (some ⟨2, 44, none⟩)])]).run Tryd.prog w = .ok (.bool true) w := by kernel_rfl
theorem Tryd.typeOfF (v : Value) (w : World) : (ReflectliteType.typeOf #[.iface 53 v]).run Tryd.prog w = .ok (.iface 107 (.agg #[.pointer (some ⟨2, 53, none⟩)])) w := by kernel_rfl
theorem Tryd.assignableF (w : World) : (ReflectliteType.relation "AssignableTo" ReflectliteType.assignableTo #[.agg #[.pointer (some ⟨2, 53, none⟩)], .iface 107 (.agg #[.pointer (some ⟨2, 53, none⟩)])]).run Tryd.prog w = .ok (.bool true) w := by kernel_rfl
theorem Tryd.valueOfF (e : Int) (w : World) : (ReflectliteValue.unpack (.iface 53 (.agg #[.int .i64 e]))).run Tryd.prog w = .ok (.agg #[.pointer (some ⟨2, 53, none⟩), .pointer (some ⟨w.heap.size, 0, none⟩), .int .u64 153]) (w.alloc (.cells #[.int .i64 e] 53)) := by kernel_rfl
theorem Tryd.elemOfPF (w : World) : (Rtype.elem? 59).run Tryd.prog w = .ok (some 53) w := by kernel_rfl
theorem Tryd.mkF (p : Addr) (w : World) : (ReflectliteValue.mk 53 p ReflectliteValue.flagAddr).run Tryd.prog w = .ok (.agg #[.pointer (some ⟨2, 53, none⟩), .pointer (some p), .int .u64 409]) w := by kernel_rfl
theorem Tryd.elemVF (a p : Addr) (W : World) (ha : W.cell? a = some (.pointer (some p))) : (ReflectliteValue.method (ReflectliteValue.valueError "reflectlite.Value.Elem" 0) ReflectliteValue.elem #[.agg #[.pointer (some ⟨2, 59, none⟩), .pointer (some a), .int .u64 150]]).run Tryd.prog W = .ok (.agg #[.pointer (some ⟨2, 53, none⟩), .pointer (some p), .int .u64 409]) W := by
  rw [rlm]
  simp only [Sem.run_bind, Tryd.partsPF, Result.andThen]
  simp [ReflectliteValue.elem, loadVar, isAgg, underlying, Tryd.underlying59, ha, Result.andThen, Tryd.elemOfPF, Tryd.mkF]
theorem Tryd.partsAF (a : Addr) (w : World) : (ReflectliteValue.parts (.agg #[.pointer (some ⟨2, 53, none⟩), .pointer (some a), .int .u64 409])).run Tryd.prog w = .ok (some (53, a, 409)) w := by kernel_rfl
theorem Tryd.partsEF (a : Addr) (w : World) : (ReflectliteValue.parts (.agg #[.pointer (some ⟨2, 53, none⟩), .pointer (some a), .int .u64 153])).run Tryd.prog w = .ok (some (53, a, 153)) w := by kernel_rfl
theorem Tryd.directF (w : World) : (Rtype.directlyAssignable 53 53).run Tryd.prog w = .ok true w := by kernel_rfl
theorem Tryd.valueOfPS (t : Addr) (w : World) : (ReflectliteValue.unpack (.iface 62 (.pointer (some t)))).run Tryd.prog w = .ok (.agg #[.pointer (some ⟨2, 62, none⟩), .pointer (some ⟨w.heap.size, 0, none⟩), .int .u64 150]) (w.alloc (.cells #[.pointer (some t)] 62)) := by kernel_rfl
theorem Tryd.typePS (a : Addr) (w : World) : (ReflectliteValue.methodAny (ReflectliteValue.valueError "reflectlite.Value.Type" 0) (fun t _ _ _ => ReflectliteType.toType t) #[.agg #[.pointer (some ⟨2, 62, none⟩), .pointer (some a), .int .u64 150]]).run Tryd.prog w = .ok (.iface 107 (.agg #[.pointer (some ⟨2, 62, none⟩)])) w := by kernel_rfl
theorem Tryd.kindPS (w : World) : ((ReflectliteType.abiMethod fun t => (fun a : Nat => Value.int IntKind.u8 (a : Int)) <$> Rtype.kind t) #[.pointer (some ⟨2, 62, none⟩)]).run Tryd.prog w = .ok (.int .u8 22) w := by kernel_rfl
theorem Tryd.kindES (w : World) : ((ReflectliteType.abiMethod fun t => (fun a : Nat => Value.int IntKind.u8 (a : Int)) <$> Rtype.kind t) #[.pointer (some ⟨2, 61, none⟩)]).run Tryd.prog w = .ok (.int .u8 25) w := by kernel_rfl
theorem Tryd.partsPS (a : Addr) (w : World) : (ReflectliteValue.parts (.agg #[.pointer (some ⟨2, 62, none⟩), .pointer (some a), .int .u64 150])).run Tryd.prog w = .ok (some (62, a, 150)) w := by kernel_rfl
theorem Tryd.isNilPS (a p : Addr) (W : World) (ha : W.cell? a = some (.pointer (some p))) : (ReflectliteValue.method (ReflectliteValue.valueError "reflectlite.Value.IsNil" 0) ReflectliteValue.isNil #[.agg #[.pointer (some ⟨2, 62, none⟩), .pointer (some a), .int .u64 150]]).run Tryd.prog W = .ok (.bool false) W := by
  rw [rlm]
  simp only [Sem.run_bind, Tryd.partsPS, Result.andThen]
  simp [ReflectliteValue.isNil, loadVar, isAgg, underlying, Tryd.underlying62, ha, Result.andThen]
theorem Tryd.elemPS (w : World) : (ReflectliteType.method ReflectliteType.elem #[.agg #[.pointer (some ⟨2, 62, none⟩)]]).run Tryd.prog w = .ok (.iface 107 (.agg #[.pointer (some ⟨2, 61, none⟩)])) w := by kernel_rfl
theorem Tryd.implementsS (w : World) : (ReflectliteType.relation "Implements" ReflectliteType.implements_ #[.agg #[.pointer (some ⟨2, 61, none⟩)], .iface 107 (.agg #[.pointer (some ⟨2, 44, none⟩)])]).run Tryd.prog w = .ok (.bool true) w := by kernel_rfl
theorem Tryd.typeOfS (v : Value) (w : World) : (ReflectliteType.typeOf #[.iface 61 v]).run Tryd.prog w = .ok (.iface 107 (.agg #[.pointer (some ⟨2, 61, none⟩)])) w := by kernel_rfl
theorem Tryd.assignableS (w : World) : (ReflectliteType.relation "AssignableTo" ReflectliteType.assignableTo #[.agg #[.pointer (some ⟨2, 61, none⟩)], .iface 107 (.agg #[.pointer (some ⟨2, 61, none⟩)])]).run Tryd.prog w = .ok (.bool true) w := by kernel_rfl
theorem Tryd.valueOfS (a e : Int) (w : World) : (ReflectliteValue.unpack (.iface 61 (.agg #[.int .i64 a, .iface 53 (.agg #[.int .i64 e])]))).run Tryd.prog w = .ok (.agg #[.pointer (some ⟨2, 61, none⟩), .pointer (some ⟨w.heap.size, 0, none⟩), .int .u64 153]) (w.alloc (.cells #[.int .i64 a, .iface 53 (.agg #[.int .i64 e])] 61)) := by kernel_rfl
theorem Tryd.elemOfPS (w : World) : (Rtype.elem? 62).run Tryd.prog w = .ok (some 61) w := by kernel_rfl
theorem Tryd.mkS (p : Addr) (w : World) : (ReflectliteValue.mk 61 p ReflectliteValue.flagAddr).run Tryd.prog w = .ok (.agg #[.pointer (some ⟨2, 61, none⟩), .pointer (some p), .int .u64 409]) w := by kernel_rfl
theorem Tryd.elemVS (a p : Addr) (W : World) (ha : W.cell? a = some (.pointer (some p))) : (ReflectliteValue.method (ReflectliteValue.valueError "reflectlite.Value.Elem" 0) ReflectliteValue.elem #[.agg #[.pointer (some ⟨2, 62, none⟩), .pointer (some a), .int .u64 150]]).run Tryd.prog W = .ok (.agg #[.pointer (some ⟨2, 61, none⟩), .pointer (some p), .int .u64 409]) W := by
  rw [rlm]
  simp only [Sem.run_bind, Tryd.partsPS, Result.andThen]
  simp [ReflectliteValue.elem, loadVar, isAgg, underlying, Tryd.underlying62, ha, Result.andThen, Tryd.elemOfPS, Tryd.mkS]
theorem Tryd.partsAS (a : Addr) (w : World) : (ReflectliteValue.parts (.agg #[.pointer (some ⟨2, 61, none⟩), .pointer (some a), .int .u64 409])).run Tryd.prog w = .ok (some (61, a, 409)) w := by kernel_rfl
theorem Tryd.partsES (a : Addr) (w : World) : (ReflectliteValue.parts (.agg #[.pointer (some ⟨2, 61, none⟩), .pointer (some a), .int .u64 153])).run Tryd.prog w = .ok (some (61, a, 153)) w := by kernel_rfl
theorem Tryd.directS (w : World) : (Rtype.directlyAssignable 61 61).run Tryd.prog w = .ok true w := by kernel_rfl
theorem Tryd.assignableFS (w : World) : (ReflectliteType.relation "AssignableTo" ReflectliteType.assignableTo #[.agg #[.pointer (some ⟨2, 53, none⟩)], .iface 107 (.agg #[.pointer (some ⟨2, 61, none⟩)])]).run Tryd.prog w = .ok (.bool false) w := by kernel_rfl
theorem Tryd.assignableSF (w : World) : (ReflectliteType.relation "AssignableTo" ReflectliteType.assignableTo #[.agg #[.pointer (some ⟨2, 61, none⟩)], .iface 107 (.agg #[.pointer (some ⟨2, 53, none⟩)])]).run Tryd.prog w = .ok (.bool false) w := by kernel_rfl
end Go.Proofs.YtekacoeikjonmaaDoor
/-
  Ber: errors.As, told.
-/
namespace Go.Proofs.YtekacoeikjonmaaDoor
open Go.RowKit Go.Extern.Stop Go.Stop Go.Extern
set_option maxRecDepth 20000
theorem Tryd.setF (t b : Nat) (e : Int) (o : Value) (W : World) (hb : W.cell? ⟨b, 0, none⟩ = some (.int .i64 e)) (ht : W.cell? ⟨t, 0, none⟩ = some o) (hf : W.frozen? ⟨t, 0, none⟩ = false) :
    (ReflectliteValue.set #[.agg #[.pointer (some ⟨2, 53, none⟩), .pointer (some ⟨t, 0, none⟩), .int .u64 409], .agg #[.pointer (some ⟨2, 53, none⟩), .pointer (some ⟨b, 0, none⟩), .int .u64 153]]).run Tryd.prog W = .ok (.tuple #[]) (W.setCell ⟨t, 0, none⟩ (.int .i64 e)) := by
  delta ReflectliteValue.set
  show (bind (ReflectliteValue.parts (.agg #[.pointer (some ⟨2, 53, none⟩), .pointer (some ⟨t, 0, none⟩), .int .u64 409])) (fun p => bind (ReflectliteValue.parts (.agg #[.pointer (some ⟨2, 53, none⟩), .pointer (some ⟨b, 0, none⟩), .int .u64 153])) _) : Sem Value).run Tryd.prog W = _
  simp only [Sem.run_bind, Tryd.partsAF, Tryd.partsEF, Result.andThen]
  simp [ReflectliteValue.flagAddr, loadVar, isAgg, underlying, Tryd.underlying53, loadCells, loadCellsFrom, hb, Result.andThen, Tryd.directF, storeVar, Value.cells, storeCells, Addr.add]
  rw [run_store Tryd.prog W ⟨t, 0, none⟩ _ _ (by rfl)]
  simp [ht, hf]
theorem Tryd.setS (t b : Nat) (a e : Int) (o1 o2 : Value) (W : World) (hb : W.cell? ⟨b, 0, none⟩ = some (.int .i64 a)) (hb2 : W.cell? ⟨b, 1, none⟩ = some (.iface 53 (.agg #[.int .i64 e]))) (ht : W.cell? ⟨t, 0, none⟩ = some o1) (ht2 : W.cell? ⟨t, 1, none⟩ = some o2) (hf : W.frozen? ⟨t, 0, none⟩ = false) (hf2 : W.frozen? ⟨t, 1, none⟩ = false) :
    (ReflectliteValue.set #[.agg #[.pointer (some ⟨2, 61, none⟩), .pointer (some ⟨t, 0, none⟩), .int .u64 409], .agg #[.pointer (some ⟨2, 61, none⟩), .pointer (some ⟨b, 0, none⟩), .int .u64 153]]).run Tryd.prog W = .ok (.tuple #[]) ((W.setCell ⟨t, 0, none⟩ (.int .i64 a)).setCell ⟨t, 1, none⟩ (.iface 53 (.agg #[.int .i64 e]))) := by
  delta ReflectliteValue.set
  show (bind (ReflectliteValue.parts (.agg #[.pointer (some ⟨2, 61, none⟩), .pointer (some ⟨t, 0, none⟩), .int .u64 409])) (fun p => bind (ReflectliteValue.parts (.agg #[.pointer (some ⟨2, 61, none⟩), .pointer (some ⟨b, 0, none⟩), .int .u64 153])) _) : Sem Value).run Tryd.prog W = _
  simp only [Sem.run_bind, Tryd.partsAS, Tryd.partsES, Result.andThen]
  simp [ReflectliteValue.flagAddr, loadVar, isAgg, underlying, Tryd.underlying61, loadCells, loadCellsFrom, hb, hb2, Result.andThen, Tryd.directS, storeVar, Value.cells, storeCells, Addr.add]
  rw [run_store Tryd.prog W ⟨t, 0, none⟩ _ _ (by rfl)]
  simp [ht, hf]
  have hc : (W.setCell ⟨t, 0, none⟩ (.int .i64 a)).cell? ⟨t, 1, none⟩ = some o2 := (World.cell?_setCell_other W _ _ _ (by simp)).trans ht2
  rw [run_store Tryd.prog _ ⟨t, 1, none⟩ _ _ (by rfl)]
  simp [hc, hf2]
/-- The type that errors.As asks after lies where it was laid. -/
def GlbE (w : World) : Prop := w.cell? ⟨0, 0, none⟩ = some (.iface 107 (.agg #[.pointer (some ⟨2, 44, none⟩)]))
theorem GlbE.lt {w : World} (h : GlbE w) : 0 < w.heap.size := by
  rcases Nat.lt_or_ge 0 w.heap.size with h1 | h1
  · exact h1
  · unfold GlbE at h
    simp [World.cell?, Array.getElem?_eq_none h1] at h
theorem GlbE.below {w w' : World} (h : GlbE w) (hb : Below w.heap.size w w') : GlbE w' := (hb.cell (p := ⟨0, 0, none⟩) h.lt).trans h
theorem GlbE.alloc {w : World} (h : GlbE w) (o : Obj) : GlbE (w.alloc o) := h.below (al1 _)
theorem GlbE.upd {w w' : World} {g : Nat} (h : GlbE w) (hu : Upd w w' g) (hg : g ≠ 0) : GlbE w' := by
  have h1 := hu.block 0 h.lt (fun e => hg (by simpa using e.symm))
  unfold GlbE at *
  simp only [World.cell?] at *
  rw [h1]; exact h
theorem unwrap_any {w : World} (a e : Int) : Calls Tryd.prog 107 #[.agg #[.int .i64 a, .iface 53 (.agg #[.int .i64 e])]] w fun ev w' => ev = .returned (.iface 53 (.agg #[.int .i64 e])) ∧ w.alloc (.cells #[.int .i64 a, .iface 53 (.agg #[.int .i64 e])] 61) = w' := by
  go_enter Tryd.func107, Tryd.ntmps107
  go_wp2
  go_ret
  exact ⟨rfl, rfl⟩
theorem As_nil {w : World} (t : Value) : Calls Tryd.prog 26 #[.nilIface, t] w fun e w' => e = .returned (.bool false) ∧ w = w' := by
  go_enter Tryd.func26, Tryd.ntmps26
  go_wp2
  go_ret
  exact ⟨rfl, rfl⟩
set_option maxHeartbeats 4000000 in
theorem As_F {w : World} (hG : GlbE w) (t : Nat) (u : TypeId) (v : Value) (r : Bool) (Q : World → Prop) (ha : Calls Tryd.prog 40 #[.iface u v, .iface 59 (.pointer (some ⟨t, 0, none⟩)), .agg #[.pointer (some ⟨2, 59, none⟩), .pointer (some ⟨w.heap.size, 0, none⟩), .int .u64 150], .iface 107 (.agg #[.pointer (some ⟨2, 53, none⟩)])] ((w.alloc (.cells #[.pointer (some ⟨t, 0, none⟩)] 59)).alloc (.cells #[.pointer (some ⟨2, 59, none⟩), .pointer (some ⟨w.heap.size, 0, none⟩), .int .u64 150] 83)) fun ev w' => ev = .returned (.bool r) ∧ Q w') :
    Calls Tryd.prog 26 #[.iface u v, .iface 59 (.pointer (some ⟨t, 0, none⟩))] w fun ev w' => ev = .returned (.bool r) ∧ Q w' := by
  have HA : Hid (Calls Tryd.prog 40 #[.iface u v, .iface 59 (.pointer (some ⟨t, 0, none⟩)), .agg #[.pointer (some ⟨2, 59, none⟩), .pointer (some ⟨w.heap.size, 0, none⟩), .int .u64 150], .iface 107 (.agg #[.pointer (some ⟨2, 53, none⟩)])] ((w.alloc (.cells #[.pointer (some ⟨t, 0, none⟩)] 59)).alloc (.cells #[.pointer (some ⟨2, 59, none⟩), .pointer (some ⟨w.heap.size, 0, none⟩), .int .u64 150] 83)) fun ev w' => ev = .returned (.bool r) ∧ Q w') := ha
  clear ha
  have xValueOf := @run_callFunc_extern Tryd.prog 37 _ (fun args => ReflectliteValue.unpack (args.getD 0 (.tuple #[]))) Tryd.func37 (by kernel_rfl) (by kernel_rfl) (by kernel_rfl) (by kernel_rfl)
  have xType := @run_callFunc_extern Tryd.prog 38 _ (ReflectliteValue.methodAny (ReflectliteValue.valueError "reflectlite.Value.Type" 0) (fun t _ _ _ => ReflectliteType.toType t)) Tryd.func38 (by kernel_rfl) (by kernel_rfl) (by kernel_rfl) (by kernel_rfl)
  have xIsNil := @run_callFunc_extern Tryd.prog 39 _ (ReflectliteValue.method (ReflectliteValue.valueError "reflectlite.Value.IsNil" 0) ReflectliteValue.isNil) Tryd.func39 (by kernel_rfl) (by kernel_rfl) (by kernel_rfl) (by kernel_rfl)
  have xKind := @run_callFunc_extern Tryd.prog 102 _ (ReflectliteType.abiMethod fun t => do pure (.int .u8 (← Rtype.kind t))) Tryd.func102 (by kernel_rfl) (by kernel_rfl) (by kernel_rfl) (by kernel_rfl)
  have xTElem := @run_callFunc_extern Tryd.prog 114 _ (ReflectliteType.method ReflectliteType.elem) Tryd.func114 (by kernel_rfl) (by kernel_rfl) (by kernel_rfl) (by kernel_rfl)
  have xImpl := @run_callFunc_extern Tryd.prog 115 _ (ReflectliteType.relation "Implements" ReflectliteType.implements_) Tryd.func115 (by kernel_rfl) (by kernel_rfl) (by kernel_rfl) (by kernel_rfl)
  have f1 := Tryd.valueOfPF
  have f2 := Tryd.typePF
  have f3 := Tryd.asKind
  have f4 := Tryd.asElem
  have f5 := Tryd.asImplements
  have f6 := Tryd.kindPF
  have f7 := Tryd.kindEF
  have f8 := Tryd.elemPF
  have f9 := Tryd.implementsF
  have n8 := Tryd.isNilPF ⟨w.heap.size, 0, none⟩ ⟨t, 0, none⟩ ((w.alloc (.cells #[.pointer (some ⟨t, 0, none⟩)] 59)).alloc (.cells #[.pointer (some ⟨2, 59, none⟩), .pointer (some ⟨w.heap.size, 0, none⟩), .int .u64 150] 83)) (by simp)
  have hg2 : ((w.alloc (.cells #[.pointer (some ⟨t, 0, none⟩)] 59)).alloc (.cells #[.pointer (some ⟨2, 59, none⟩), .pointer (some ⟨w.heap.size, 0, none⟩), .int .u64 150] 83)).cell? ⟨0, 0, none⟩ = some (.iface 107 (.agg #[.pointer (some ⟨2, 44, none⟩)])) := (hG.alloc _).alloc _
  have hq : ∀ (w : World) (u : TypeId) (v : Value), (binOp .eql 44 (.iface u v) .nilIface).run Tryd.prog w = .ok (.bool false) w := fun _ _ _ => by rfl
  clear hG
  go_enter Tryd.func26, Tryd.ntmps26
  go_wp2_with (go_at_call 40; refine HA.out.mono ?_; rintro ev w1 ⟨rfl, hQ⟩; have HQ : Hid (Q w1) := hQ; clear hQ)
  go_ret
  exact ⟨rfl, HQ.out⟩
set_option maxHeartbeats 4000000 in
theorem As_S {w : World} (hG : GlbE w) (t : Nat) (u : TypeId) (v : Value) (r : Bool) (Q : World → Prop) (ha : Calls Tryd.prog 40 #[.iface u v, .iface 62 (.pointer (some ⟨t, 0, none⟩)), .agg #[.pointer (some ⟨2, 62, none⟩), .pointer (some ⟨w.heap.size, 0, none⟩), .int .u64 150], .iface 107 (.agg #[.pointer (some ⟨2, 61, none⟩)])] ((w.alloc (.cells #[.pointer (some ⟨t, 0, none⟩)] 62)).alloc (.cells #[.pointer (some ⟨2, 62, none⟩), .pointer (some ⟨w.heap.size, 0, none⟩), .int .u64 150] 83)) fun ev w' => ev = .returned (.bool r) ∧ Q w') :
    Calls Tryd.prog 26 #[.iface u v, .iface 62 (.pointer (some ⟨t, 0, none⟩))] w fun ev w' => ev = .returned (.bool r) ∧ Q w' := by
  have HA : Hid (Calls Tryd.prog 40 #[.iface u v, .iface 62 (.pointer (some ⟨t, 0, none⟩)), .agg #[.pointer (some ⟨2, 62, none⟩), .pointer (some ⟨w.heap.size, 0, none⟩), .int .u64 150], .iface 107 (.agg #[.pointer (some ⟨2, 61, none⟩)])] ((w.alloc (.cells #[.pointer (some ⟨t, 0, none⟩)] 62)).alloc (.cells #[.pointer (some ⟨2, 62, none⟩), .pointer (some ⟨w.heap.size, 0, none⟩), .int .u64 150] 83)) fun ev w' => ev = .returned (.bool r) ∧ Q w') := ha
  clear ha
  have xValueOf := @run_callFunc_extern Tryd.prog 37 _ (fun args => ReflectliteValue.unpack (args.getD 0 (.tuple #[]))) Tryd.func37 (by kernel_rfl) (by kernel_rfl) (by kernel_rfl) (by kernel_rfl)
  have xType := @run_callFunc_extern Tryd.prog 38 _ (ReflectliteValue.methodAny (ReflectliteValue.valueError "reflectlite.Value.Type" 0) (fun t _ _ _ => ReflectliteType.toType t)) Tryd.func38 (by kernel_rfl) (by kernel_rfl) (by kernel_rfl) (by kernel_rfl)
  have xIsNil := @run_callFunc_extern Tryd.prog 39 _ (ReflectliteValue.method (ReflectliteValue.valueError "reflectlite.Value.IsNil" 0) ReflectliteValue.isNil) Tryd.func39 (by kernel_rfl) (by kernel_rfl) (by kernel_rfl) (by kernel_rfl)
  have xKind := @run_callFunc_extern Tryd.prog 102 _ (ReflectliteType.abiMethod fun t => do pure (.int .u8 (← Rtype.kind t))) Tryd.func102 (by kernel_rfl) (by kernel_rfl) (by kernel_rfl) (by kernel_rfl)
  have xTElem := @run_callFunc_extern Tryd.prog 114 _ (ReflectliteType.method ReflectliteType.elem) Tryd.func114 (by kernel_rfl) (by kernel_rfl) (by kernel_rfl) (by kernel_rfl)
  have xImpl := @run_callFunc_extern Tryd.prog 115 _ (ReflectliteType.relation "Implements" ReflectliteType.implements_) Tryd.func115 (by kernel_rfl) (by kernel_rfl) (by kernel_rfl) (by kernel_rfl)
  have f1 := Tryd.valueOfPS
  have f2 := Tryd.typePS
  have f3 := Tryd.asKind
  have f4 := Tryd.asElem
  have f5 := Tryd.asImplements
  have f6 := Tryd.kindPS
  have f7 := Tryd.kindES
  have f8 := Tryd.elemPS
  have f9 := Tryd.implementsS
  have n8 := Tryd.isNilPS ⟨w.heap.size, 0, none⟩ ⟨t, 0, none⟩ ((w.alloc (.cells #[.pointer (some ⟨t, 0, none⟩)] 62)).alloc (.cells #[.pointer (some ⟨2, 62, none⟩), .pointer (some ⟨w.heap.size, 0, none⟩), .int .u64 150] 83)) (by simp)
  have hg2 : ((w.alloc (.cells #[.pointer (some ⟨t, 0, none⟩)] 62)).alloc (.cells #[.pointer (some ⟨2, 62, none⟩), .pointer (some ⟨w.heap.size, 0, none⟩), .int .u64 150] 83)).cell? ⟨0, 0, none⟩ = some (.iface 107 (.agg #[.pointer (some ⟨2, 44, none⟩)])) := (hG.alloc _).alloc _
  have hq : ∀ (w : World) (u : TypeId) (v : Value), (binOp .eql 44 (.iface u v) .nilIface).run Tryd.prog w = .ok (.bool false) w := fun _ _ _ => by rfl
  clear hG
  go_enter Tryd.func26, Tryd.ntmps26
  go_wp2_with (go_at_call 40; refine HA.out.mono ?_; rintro ev w1 ⟨rfl, hQ⟩; have HQ : Hid (Q w1) := hQ; clear hQ)
  go_ret
  exact ⟨rfl, HQ.out⟩
set_option maxHeartbeats 4000000 in
theorem as_FF {w : World} (t p : Nat) (e : Int) (o : Value) (hp : w.cell? ⟨p, 0, none⟩ = some (.pointer (some ⟨t, 0, none⟩))) (hB : Blk 53 w t [o]) :
    Calls Tryd.prog 40 #[.iface 53 (.agg #[.int .i64 e]), .iface 59 (.pointer (some ⟨t, 0, none⟩)), .agg #[.pointer (some ⟨2, 59, none⟩), .pointer (some ⟨p, 0, none⟩), .int .u64 150], .iface 107 (.agg #[.pointer (some ⟨2, 53, none⟩)])] w fun ev w' => ev = .returned (.bool true) ∧ Upd w w' t ∧ Blk 53 w' t [.int .i64 e] := by
  have hpl : p < w.heap.size := by
    rcases Nat.lt_or_ge p w.heap.size with h | h
    · exact h
    · simp [World.cell?, Array.getElem?_eq_none h] at hp
  have xTypeOf := @run_callFunc_extern Tryd.prog 50 _ ReflectliteType.typeOf Tryd.func50 (by kernel_rfl) (by kernel_rfl) (by kernel_rfl) (by kernel_rfl)
  have xAssign := @run_callFunc_extern Tryd.prog 112 _ (ReflectliteType.relation "AssignableTo" ReflectliteType.assignableTo) Tryd.func112 (by kernel_rfl) (by kernel_rfl) (by kernel_rfl) (by kernel_rfl)
  have xElem := @run_callFunc_extern Tryd.prog 51 _ (ReflectliteValue.method (ReflectliteValue.valueError "reflectlite.Value.Elem" 0) ReflectliteValue.elem) Tryd.func51 (by kernel_rfl) (by kernel_rfl) (by kernel_rfl) (by kernel_rfl)
  have xSet := @run_callFunc_extern Tryd.prog 52 _ ReflectliteValue.set Tryd.func52 (by kernel_rfl) (by kernel_rfl) (by kernel_rfl) (by kernel_rfl)
  have xValueOf := @run_callFunc_extern Tryd.prog 37 _ (fun args => ReflectliteValue.unpack (args.getD 0 (.tuple #[]))) Tryd.func37 (by kernel_rfl) (by kernel_rfl) (by kernel_rfl) (by kernel_rfl)
  have f1 := Tryd.typeOfF
  have f2 := Tryd.asAssignable
  have f3 := Tryd.assignableF
  have f4 := Tryd.valueOfF e
  have el := Tryd.elemVF ⟨p, 0, none⟩ ⟨t, 0, none⟩ (w.alloc (.cells #[.pointer (some ⟨2, 59, none⟩), .pointer (some ⟨p, 0, none⟩), .int .u64 150] 83)) (by rw [World.cell?_alloc_lt _ _ ⟨p, 0, none⟩ hpl]; exact hp)
  have st := Tryd.setF t (w.heap.size + 1) e o ((w.alloc (.cells #[.pointer (some ⟨2, 59, none⟩), .pointer (some ⟨p, 0, none⟩), .int .u64 150] 83)).alloc (.cells #[.int .i64 e] 53)) (by rw [World.cell?_alloc_at _ _ _ _ (by simp)]; rfl) ((((hB.alloc _).alloc _).cell 0)) ((((hB.alloc _).alloc _).frozen 0))
  have HB : Hid (Blk 53 w t [o]) := hB
  clear hB hp
  go_enter Tryd.func40, Tryd.ntmps40
  go_wp2
  refine wp_loop_rounds 1 ?_
  rw [rounds_succ]
  go_wp2
  go_ret
  exact ⟨rfl, (Below.upd (g := t) ((al1 _).trans ((al1 _).mono (by simp)))).trans (Upd.set _ _ _ _), ((HB.out.alloc _).alloc _).set 0 (.int .i64 e)⟩
set_option maxHeartbeats 4000000 in
theorem as_SS {w : World} (t p : Nat) (a e : Int) (o1 o2 : Value) (hp : w.cell? ⟨p, 0, none⟩ = some (.pointer (some ⟨t, 0, none⟩))) (hB : Blk 61 w t [o1, o2]) :
    Calls Tryd.prog 40 #[.iface 61 (.agg #[.int .i64 a, .iface 53 (.agg #[.int .i64 e])]), .iface 62 (.pointer (some ⟨t, 0, none⟩)), .agg #[.pointer (some ⟨2, 62, none⟩), .pointer (some ⟨p, 0, none⟩), .int .u64 150], .iface 107 (.agg #[.pointer (some ⟨2, 61, none⟩)])] w fun ev w' => ev = .returned (.bool true) ∧ Upd w w' t ∧ Blk 61 w' t [.int .i64 a, .iface 53 (.agg #[.int .i64 e])] := by
  have hpl : p < w.heap.size := by
    rcases Nat.lt_or_ge p w.heap.size with h | h
    · exact h
    · simp [World.cell?, Array.getElem?_eq_none h] at hp
  have xTypeOf := @run_callFunc_extern Tryd.prog 50 _ ReflectliteType.typeOf Tryd.func50 (by kernel_rfl) (by kernel_rfl) (by kernel_rfl) (by kernel_rfl)
  have xAssign := @run_callFunc_extern Tryd.prog 112 _ (ReflectliteType.relation "AssignableTo" ReflectliteType.assignableTo) Tryd.func112 (by kernel_rfl) (by kernel_rfl) (by kernel_rfl) (by kernel_rfl)
  have xElem := @run_callFunc_extern Tryd.prog 51 _ (ReflectliteValue.method (ReflectliteValue.valueError "reflectlite.Value.Elem" 0) ReflectliteValue.elem) Tryd.func51 (by kernel_rfl) (by kernel_rfl) (by kernel_rfl) (by kernel_rfl)
  have xSet := @run_callFunc_extern Tryd.prog 52 _ ReflectliteValue.set Tryd.func52 (by kernel_rfl) (by kernel_rfl) (by kernel_rfl) (by kernel_rfl)
  have xValueOf := @run_callFunc_extern Tryd.prog 37 _ (fun args => ReflectliteValue.unpack (args.getD 0 (.tuple #[]))) Tryd.func37 (by kernel_rfl) (by kernel_rfl) (by kernel_rfl) (by kernel_rfl)
  have f1 := Tryd.typeOfS
  have f2 := Tryd.asAssignable
  have f3 := Tryd.assignableS
  have f4 := Tryd.valueOfS a e
  have el := Tryd.elemVS ⟨p, 0, none⟩ ⟨t, 0, none⟩ (w.alloc (.cells #[.pointer (some ⟨2, 62, none⟩), .pointer (some ⟨p, 0, none⟩), .int .u64 150] 83)) (by rw [World.cell?_alloc_lt _ _ ⟨p, 0, none⟩ hpl]; exact hp)
  have st := Tryd.setS t (w.heap.size + 1) a e o1 o2 ((w.alloc (.cells #[.pointer (some ⟨2, 62, none⟩), .pointer (some ⟨p, 0, none⟩), .int .u64 150] 83)).alloc (.cells #[.int .i64 a, .iface 53 (.agg #[.int .i64 e])] 61)) (by rw [World.cell?_alloc_at _ _ _ _ (by simp)]; rfl) (by rw [World.cell?_alloc_at _ _ _ _ (by simp)]; rfl) ((((hB.alloc _).alloc _).cell 0)) ((((hB.alloc _).alloc _).cell 1)) ((((hB.alloc _).alloc _).frozen 0)) ((((hB.alloc _).alloc _).frozen 1))
  have HB : Hid (Blk 61 w t [o1, o2]) := hB
  clear hB hp
  go_enter Tryd.func40, Tryd.ntmps40
  go_wp2
  refine wp_loop_rounds 1 ?_
  rw [rounds_succ]
  go_wp2
  go_ret
  exact ⟨rfl, ((Below.upd (g := t) ((al1 _).trans ((al1 _).mono (by simp)))).trans (Upd.set _ _ _ _)).trans (Upd.set _ _ _ _), (((HB.out.alloc _).alloc _).set 0 (.int .i64 a)).set 1 (.iface 53 (.agg #[.int .i64 e]))⟩
end Go.Proofs.YtekacoeikjonmaaDoor
/-
  Ber: errors.As where the error is of the other kind; told.
-/
namespace Go.Proofs.YtekacoeikjonmaaDoor
open Go.RowKit Go.Extern.Stop Go.Stop Go.Extern
set_option maxRecDepth 20000
set_option maxHeartbeats 4000000 in
theorem as_SF {w : World} (t p : Nat) (a e : Int) (o : Value) (hp : w.cell? ⟨p, 0, none⟩ = some (.pointer (some ⟨t, 0, none⟩))) (hB : Blk 53 w t [o]) :
    Calls Tryd.prog 40 #[.iface 61 (.agg #[.int .i64 a, .iface 53 (.agg #[.int .i64 e])]), .iface 59 (.pointer (some ⟨t, 0, none⟩)), .agg #[.pointer (some ⟨2, 59, none⟩), .pointer (some ⟨p, 0, none⟩), .int .u64 150], .iface 107 (.agg #[.pointer (some ⟨2, 53, none⟩)])] w fun ev w' => ev = .returned (.bool true) ∧ Upd w w' t ∧ Blk 53 w' t [.int .i64 e] := by
  have hpl : p < w.heap.size := by
    rcases Nat.lt_or_ge p w.heap.size with h | h
    · exact h
    · simp [World.cell?, Array.getElem?_eq_none h] at hp
  have xTypeOf := @run_callFunc_extern Tryd.prog 50 _ ReflectliteType.typeOf Tryd.func50 (by kernel_rfl) (by kernel_rfl) (by kernel_rfl) (by kernel_rfl)
  have xAssign := @run_callFunc_extern Tryd.prog 112 _ (ReflectliteType.relation "AssignableTo" ReflectliteType.assignableTo) Tryd.func112 (by kernel_rfl) (by kernel_rfl) (by kernel_rfl) (by kernel_rfl)
  have xElem := @run_callFunc_extern Tryd.prog 51 _ (ReflectliteValue.method (ReflectliteValue.valueError "reflectlite.Value.Elem" 0) ReflectliteValue.elem) Tryd.func51 (by kernel_rfl) (by kernel_rfl) (by kernel_rfl) (by kernel_rfl)
  have xSet := @run_callFunc_extern Tryd.prog 52 _ ReflectliteValue.set Tryd.func52 (by kernel_rfl) (by kernel_rfl) (by kernel_rfl) (by kernel_rfl)
  have xValueOf := @run_callFunc_extern Tryd.prog 37 _ (fun args => ReflectliteValue.unpack (args.getD 0 (.tuple #[]))) Tryd.func37 (by kernel_rfl) (by kernel_rfl) (by kernel_rfl) (by kernel_rfl)
  have f1 := Tryd.typeOfF
  have g1 := Tryd.typeOfS
  have f2 := Tryd.asAssignable
  have f3 := Tryd.assignableF
  have g3 := Tryd.assignableSF
  have f4 := Tryd.valueOfF e
  have f5 := Tryd.noAsS
  have f6 := Tryd.hasUnwrapS
  have f7 := Tryd.methodUnwrap
  have hq : ∀ (w : World) (u : TypeId) (v : Value), (binOp .eql 44 (.iface u v) .nilIface).run Tryd.prog w = .ok (.bool false) w := fun _ _ _ => by rfl
  have HU : Hid (∀ W : World, Calls Tryd.prog 107 #[.agg #[.int .i64 a, .iface 53 (.agg #[.int .i64 e])]] W fun ev w' => ev = .returned (.iface 53 (.agg #[.int .i64 e])) ∧ W.alloc (.cells #[.int .i64 a, .iface 53 (.agg #[.int .i64 e])] 61) = w') := fun W => unwrap_any a e
  have el := Tryd.elemVF ⟨p, 0, none⟩ ⟨t, 0, none⟩ ((w.alloc (.cells #[.pointer (some ⟨2, 59, none⟩), .pointer (some ⟨p, 0, none⟩), .int .u64 150] 83)).alloc (.cells #[.int .i64 a, .iface 53 (.agg #[.int .i64 e])] 61)) (by rw [World.cell?_alloc_lt _ _ ⟨p, 0, none⟩ (by simp; omega), World.cell?_alloc_lt _ _ ⟨p, 0, none⟩ hpl]; exact hp)
  have st := Tryd.setF t (w.heap.size + 1 + 1) e o (((w.alloc (.cells #[.pointer (some ⟨2, 59, none⟩), .pointer (some ⟨p, 0, none⟩), .int .u64 150] 83)).alloc (.cells #[.int .i64 a, .iface 53 (.agg #[.int .i64 e])] 61)).alloc (.cells #[.int .i64 e] 53)) (by rw [World.cell?_alloc_at _ _ _ _ (by simp)]; rfl) ((((hB.alloc _).alloc _).alloc _).cell 0) ((((hB.alloc _).alloc _).alloc _).frozen 0)
  have HB : Hid (Blk 53 w t [o]) := hB
  clear hB hp
  go_enter Tryd.func40, Tryd.ntmps40
  go_wp2
  refine wp_loop_rounds 2 ?_
  rw [rounds_succ]
  go_wp2_with (go_at_call 107; refine (HU.out _).mono ?_; rintro ev w1 ⟨rfl, rfl⟩)
  rw [rounds_succ]
  go_wp2
  go_ret
  exact ⟨rfl, (Below.upd (g := t) (((al1 _).trans ((al1 _).mono (by simp))).trans ((al1 _).mono (by simp; omega)))).trans (Upd.set _ _ _ _), (((HB.out.alloc _).alloc _).alloc _).set 0 (.int .i64 e)⟩
set_option maxHeartbeats 4000000 in
theorem as_FS {w : World} (t p : Nat) (e : Int) :
    Calls Tryd.prog 40 #[.iface 53 (.agg #[.int .i64 e]), .iface 62 (.pointer (some ⟨t, 0, none⟩)), .agg #[.pointer (some ⟨2, 62, none⟩), .pointer (some ⟨p, 0, none⟩), .int .u64 150], .iface 107 (.agg #[.pointer (some ⟨2, 61, none⟩)])] w fun ev w' => ev = .returned (.bool false) ∧ Below w.heap.size w w' := by
  have xTypeOf := @run_callFunc_extern Tryd.prog 50 _ ReflectliteType.typeOf Tryd.func50 (by kernel_rfl) (by kernel_rfl) (by kernel_rfl) (by kernel_rfl)
  have xAssign := @run_callFunc_extern Tryd.prog 112 _ (ReflectliteType.relation "AssignableTo" ReflectliteType.assignableTo) Tryd.func112 (by kernel_rfl) (by kernel_rfl) (by kernel_rfl) (by kernel_rfl)
  have f1 := Tryd.typeOfF
  have f2 := Tryd.asAssignable
  have g3 := Tryd.assignableFS
  have f5 := Tryd.noAsF
  have f6 := Tryd.noUnwrapF
  have f7 := Tryd.noUnwrapsF
  go_enter Tryd.func40, Tryd.ntmps40
  go_wp2
  refine wp_loop_rounds 1 ?_
  rw [rounds_succ]
  go_wp2
  go_ret
  exact ⟨rfl, al1 _⟩
/-- Two allocs and what is behind them, from the world ahead of them. -/
theorem upd_al2 {w w' : World} {o1 o2 : Obj} {t : Nat} (h : Upd ((w.alloc o1).alloc o2) w' t) : Upd w w' t := (Below.upd (g := t) ((al1 _).trans ((al1 _).mono (by simp)))).trans h
theorem AsF_F {w : World} (hG : GlbE w) (t : Nat) (e : Int) (o : Value) (hB : Blk 53 w t [o]) : Calls Tryd.prog 26 #[.iface 53 (.agg #[.int .i64 e]), .iface 59 (.pointer (some ⟨t, 0, none⟩))] w fun ev w' => ev = .returned (.bool true) ∧ Upd w w' t ∧ Blk 53 w' t [.int .i64 e] :=
  As_F hG t _ _ true _ ((as_FF t w.heap.size e o (by simp) ((hB.alloc _).alloc _)).mono fun ev w' h => ⟨h.1, upd_al2 h.2.1, h.2.2⟩)
theorem AsS_F {w : World} (hG : GlbE w) (t : Nat) (a e : Int) (o : Value) (hB : Blk 53 w t [o]) : Calls Tryd.prog 26 #[.iface 61 (.agg #[.int .i64 a, .iface 53 (.agg #[.int .i64 e])]), .iface 59 (.pointer (some ⟨t, 0, none⟩))] w fun ev w' => ev = .returned (.bool true) ∧ Upd w w' t ∧ Blk 53 w' t [.int .i64 e] :=
  As_F hG t _ _ true _ ((as_SF t w.heap.size a e o (by simp) ((hB.alloc _).alloc _)).mono fun ev w' h => ⟨h.1, upd_al2 h.2.1, h.2.2⟩)
theorem AsS_S {w : World} (hG : GlbE w) (t : Nat) (a e : Int) (o1 o2 : Value) (hB : Blk 61 w t [o1, o2]) : Calls Tryd.prog 26 #[.iface 61 (.agg #[.int .i64 a, .iface 53 (.agg #[.int .i64 e])]), .iface 62 (.pointer (some ⟨t, 0, none⟩))] w fun ev w' => ev = .returned (.bool true) ∧ Upd w w' t ∧ Blk 61 w' t [.int .i64 a, .iface 53 (.agg #[.int .i64 e])] :=
  As_S hG t _ _ true _ ((as_SS t w.heap.size a e o1 o2 (by simp) ((hB.alloc _).alloc _)).mono fun ev w' h => ⟨h.1, upd_al2 h.2.1, h.2.2⟩)
theorem AsF_S {w : World} (hG : GlbE w) (t : Nat) (e : Int) : Calls Tryd.prog 26 #[.iface 53 (.agg #[.int .i64 e]), .iface 62 (.pointer (some ⟨t, 0, none⟩))] w fun ev w' => ev = .returned (.bool false) ∧ Below w.heap.size w w' :=
  As_S hG t _ _ false _ ((as_FS t w.heap.size e).mono fun ev w' h => ⟨h.1, ((al1 _).trans ((al1 _).mono (by simp))).trans (h.2.mono (by simp; omega))⟩)
/-- What told makes of nothing, of a flaw, of a spot. -/
theorem told_nil {w : World} : Calls Tryd.prog 21 #[.nilIface] w fun e w' => e = .returned (.tuple #[.int .i64 0, .int .i64 0]) ∧ Below w.heap.size w w' := by
  go_enter Tryd.func21, Tryd.ntmps21
  go_wp2_with (go_at_call 26; refine (As_nil _).mono ?_; rintro ev w1 ⟨rfl, rfl⟩)
  go_ret2
  exact ⟨rfl, al1 _⟩
abbrev flV (e : Int) : Value := .iface 53 (.agg #[.int .i64 e])
set_option maxHeartbeats 1000000 in
theorem told_flaw {w : World} (hG : GlbE w) (e : Int) : Calls Tryd.prog 21 #[flV e] w fun ev w' => ev = .returned (.tuple #[.int .i64 e, .int .i64 0]) ∧ Below w.heap.size w w' := by
  have HG : Hid (GlbE w) := hG
  clear hG
  go_enter Tryd.func21, Tryd.ntmps21
  go_wp2_with fail
  refine (AsF_F (HG.out.alloc _) w.heap.size e (.int .i64 0) (Blk.new _ w _)).mono ?_
  rintro ev w1 ⟨rfl, hu, hb⟩
  have hb1 : Below w.heap.size w w1 := ⟨hu.os, hu.tape, hu.output, by have := hu.size; simp at this; omega, fun j hj => (hu.block j (by simp; omega) (fun h => by simp at h; omega)).trans ((al1 _).block j hj)⟩
  have H1 : Hid (Below w.heap.size w w1 ∧ Blk 53 w1 w.heap.size [.int .i64 e]) := ⟨hb1, hb⟩
  have hl : w.heap.size < w1.heap.size := hb.lt
  clear hu hb hb1
  go_wp2_with fail
  refine (AsF_S ((HG.out.below H1.out.1).alloc _) w1.heap.size e).mono ?_
  rintro ev w2 ⟨rfl, hb⟩
  have c0 : w2.cell? ⟨w.heap.size, 0, none⟩ = some (.int .i64 e) := (hb.cell (p := ⟨w.heap.size, 0, none⟩) (by simp; omega)).trans ((H1.out.2.alloc _).cell 0)
  have H2 : Hid (Below w1.heap.size w1 w2) := (al1 _).trans (hb.mono (by simp))
  clear hb
  go_wp2
  go_ret2
  exact ⟨rfl, H1.out.1.trans (H2.out.mono (by omega))⟩
set_option maxHeartbeats 1000000 in
theorem told_spot {w : World} (hG : GlbE w) (e : Int) (a : Nat) : Calls Tryd.prog 21 #[erV e a] w fun ev w' => ev = .returned (.tuple #[.int .i64 e, .int .i64 (a : Int)]) ∧ Below w.heap.size w w' := by
  have HG : Hid (GlbE w) := hG
  clear hG
  go_enter Tryd.func21, Tryd.ntmps21
  go_wp2_with fail
  refine (AsS_F (HG.out.alloc _) w.heap.size a e (.int .i64 0) (Blk.new _ w _)).mono ?_
  rintro ev w1 ⟨rfl, hu, hb⟩
  have hb1 : Below w.heap.size w w1 := ⟨hu.os, hu.tape, hu.output, by have := hu.size; simp at this; omega, fun j hj => (hu.block j (by simp; omega) (fun h => by simp at h; omega)).trans ((al1 _).block j hj)⟩
  have H1 : Hid (Below w.heap.size w w1 ∧ Blk 53 w1 w.heap.size [.int .i64 e]) := ⟨hb1, hb⟩
  have hl : w.heap.size < w1.heap.size := hb.lt
  clear hu hb hb1
  go_wp2_with fail
  refine (AsS_S ((HG.out.below H1.out.1).alloc _) w1.heap.size a e (.int .i64 0) .nilIface (Blk.new _ w1 _)).mono ?_
  rintro ev w2 ⟨rfl, hu, hb⟩
  have c0 : w2.cell? ⟨w.heap.size, 0, none⟩ = some (.int .i64 e) := (hu.blk (H1.out.2.alloc _) (by omega)).cell 0
  have c1 : w2.cell? ⟨w1.heap.size, 0, none⟩ = some (.int .i64 (a : Int)) := hb.cell 0
  have H2 : Hid (Below w1.heap.size w1 w2) := ⟨hu.os, hu.tape, hu.output, by have := hu.size; simp at this; omega, fun j hj => (hu.block j (by simp; omega) (fun h => by simp at h; omega)).trans ((al1 _).block j hj)⟩
  clear hu hb
  go_upto_region 7 with (fail)
  go_quiet (fail)
  go_wp2
  go_ret2
  exact ⟨rfl, (H1.out.1.trans (H2.out.mono (by omega))).trans ⟨rfl, rfl, rfl, Nat.le_refl _, fun _ _ => rfl⟩⟩
end Go.Proofs.YtekacoeikjonmaaDoor
