/-
  Ber: errors.As at the package's two kinds of faults.
-/
import Derived.LaidEql
import Derived.Stop.Asserts
import Derived.RowKitTokens
import Derived.Test.YtefebamomdcaaaaGreatDoorK15
namespace Go.Proofs.YtefebamomdcaaaaGreatDoor
open Go.RowKit Go.Extern.Stop Go.Stop Go.Extern
theorem Tryz.asKind (h : Value) (w : World) : (Go.method 365 183 (.agg #[h]) "Kind").run Tryz.prog w = .ok (172, h) w := by kernel_rfl
theorem Tryz.asElem (h : Value) (w : World) : (Go.method 365 183 (.agg #[h]) "Elem").run Tryz.prog w = .ok (184, .agg #[h]) w := by kernel_rfl
theorem Tryz.asImplements (h : Value) (w : World) : (Go.method 365 183 (.agg #[h]) "Implements").run Tryz.prog w = .ok (185, .agg #[h]) w := by kernel_rfl
theorem Tryz.asAssignable (h : Value) (w : World) : (Go.method 365 183 (.agg #[h]) "AssignableTo").run Tryz.prog w = .ok (182, .agg #[h]) w := by kernel_rfl
theorem Tryz.noAsF (v : Value) (xT : TypeId) (w : World) : (Instr.typeAssert (.iface 109 v) xT 188 true).run Tryz.prog w = .ok (.tuple #[.nilIface, .bool false]) w := run_typeAssert_lacksB Tryz.underlying188 (by kernel_rfl) (by kernel_rfl) v xT w
theorem Tryz.noAsS (v : Value) (xT : TypeId) (w : World) : (Instr.typeAssert (.iface 113 v) xT 188 true).run Tryz.prog w = .ok (.tuple #[.nilIface, .bool false]) w := run_typeAssert_lacksB Tryz.underlying188 (by kernel_rfl) (by kernel_rfl) v xT w
theorem Tryz.noUnwrapF (v : Value) (xT : TypeId) (w : World) : (Instr.typeAssert (.iface 109 v) xT 191 true).run Tryz.prog w = .ok (.tuple #[.nilIface, .bool false]) w := run_typeAssert_lacksB Tryz.underlying191 (by kernel_rfl) (by kernel_rfl) v xT w
theorem Tryz.noUnwrapsF (v : Value) (xT : TypeId) (w : World) : (Instr.typeAssert (.iface 109 v) xT 193 true).run Tryz.prog w = .ok (.tuple #[.nilIface, .bool false]) w := run_typeAssert_lacksB Tryz.underlying193 (by kernel_rfl) (by kernel_rfl) v xT w
theorem Tryz.hasUnwrapS (v : Value) (xT : TypeId) (w : World) : (Instr.typeAssert (.iface 113 v) xT 191 true).run Tryz.prog w = .ok (.tuple #[.iface 113 v, .bool true]) w := run_typeAssert_hasB Tryz.underlying191 (by kernel_rfl) v xT w
theorem Tryz.methodUnwrap (v : Value) (w : World) : (Go.method 365 113 v "Unwrap").run Tryz.prog w = .ok (177, v) w := by kernel_rfl
theorem rlm (z : Sem Value) (f : TypeId → Addr → Nat → Nat → Sem Value) (v : Value) : ReflectliteValue.method z f #[v] = (do match ← ReflectliteValue.parts v with | none => z | some (t, a, fl) => f t a fl (fl % 32)) := rfl
theorem Tryz.valueOfPF (t : Addr) (w : World) : (ReflectliteValue.unpack (.iface 111 (.pointer (some t)))).run Tryz.prog w = .ok (.agg #[.pointer (some ⟨5, 111, none⟩), .pointer (some ⟨w.heap.size, 0, none⟩), .int .u64 150]) (w.alloc (.cells #[.pointer (some t)] 111)) := by kernel_rfl
theorem Tryz.typePF (a : Addr) (w : World) : (ReflectliteValue.methodAny (ReflectliteValue.valueError "reflectlite.Value.Type" 0) (fun t _ _ _ => ReflectliteType.toType t) #[.agg #[.pointer (some ⟨5, 111, none⟩), .pointer (some a), .int .u64 150]]).run Tryz.prog w = .ok (.iface 183 (.agg #[.pointer (some ⟨5, 111, none⟩)])) w := by kernel_rfl
theorem Tryz.kindPF (w : World) : ((ReflectliteType.abiMethod fun t => (fun a : Nat => Value.int IntKind.u8 (a : Int)) <$> Rtype.kind t) #[.pointer (some ⟨5, 111, none⟩)]).run Tryz.prog w = .ok (.int .u8 22) w := by kernel_rfl
theorem Tryz.kindEF (w : World) : ((ReflectliteType.abiMethod fun t => (fun a : Nat => Value.int IntKind.u8 (a : Int)) <$> Rtype.kind t) #[.pointer (some ⟨5, 109, none⟩)]).run Tryz.prog w = .ok (.int .u8 25) w := by kernel_rfl
theorem Tryz.partsPF (a : Addr) (w : World) : (ReflectliteValue.parts (.agg #[.pointer (some ⟨5, 111, none⟩), .pointer (some a), .int .u64 150])).run Tryz.prog w = .ok (some (111, a, 150)) w := by kernel_rfl
theorem Tryz.isNilPF (a p : Addr) (W : World) (ha : W.cell? a = some (.pointer (some p))) : (ReflectliteValue.method (ReflectliteValue.valueError "reflectlite.Value.IsNil" 0) ReflectliteValue.isNil #[.agg #[.pointer (some ⟨5, 111, none⟩), .pointer (some a), .int .u64 150]]).run Tryz.prog W = .ok (.bool false) W := by
  rw [rlm]
  simp only [Sem.run_bind, Tryz.partsPF, Result.andThen]
  simp [ReflectliteValue.isNil, loadVar, isAgg, underlying, Tryz.underlying111, ha, Result.andThen]
theorem Tryz.elemPF (w : World) : (ReflectliteType.method ReflectliteType.elem #[.agg #[.pointer (some ⟨5, 111, none⟩)]]).run Tryz.prog w = .ok (.iface 183 (.agg #[.pointer (some ⟨5, 109, none⟩)])) w := by kernel_rfl
theorem Tryz.implementsF (w : World) : (ReflectliteType.relation "Implements" ReflectliteType.implements_ #[.agg #[.pointer (some ⟨5, 109, none⟩)], .iface 183 (.agg #[.pointer (some ⟨5, 61, none⟩)])]).run Tryz.prog w = .ok (.bool true) w := by kernel_rfl
theorem Tryz.typeOfF (v : Value) (w : World) : (ReflectliteType.typeOf #[.iface 109 v]).run Tryz.prog w = .ok (.iface 183 (.agg #[.pointer (some ⟨5, 109, none⟩)])) w := by kernel_rfl
theorem Tryz.assignableF (w : World) : (ReflectliteType.relation "AssignableTo" ReflectliteType.assignableTo #[.agg #[.pointer (some ⟨5, 109, none⟩)], .iface 183 (.agg #[.pointer (some ⟨5, 109, none⟩)])]).run Tryz.prog w = .ok (.bool true) w := by kernel_rfl
theorem Tryz.valueOfF (e : Int) (w : World) : (ReflectliteValue.unpack (.iface 109 (.agg #[.int .i64 e]))).run Tryz.prog w = .ok (.agg #[.pointer (some ⟨5, 109, none⟩), .pointer (some ⟨w.heap.size, 0, none⟩), .int .u64 153]) (w.alloc (.cells #[.int .i64 e] 109)) := by kernel_rfl
theorem Tryz.elemOfPF (w : World) : (Rtype.elem? 111).run Tryz.prog w = .ok (some 109) w := by kernel_rfl
theorem Tryz.mkF (p : Addr) (w : World) : (ReflectliteValue.mk 109 p ReflectliteValue.flagAddr).run Tryz.prog w = .ok (.agg #[.pointer (some ⟨5, 109, none⟩), .pointer (some p), .int .u64 409]) w := by kernel_rfl
theorem Tryz.elemVF (a p : Addr) (W : World) (ha : W.cell? a = some (.pointer (some p))) : (ReflectliteValue.method (ReflectliteValue.valueError "reflectlite.Value.Elem" 0) ReflectliteValue.elem #[.agg #[.pointer (some ⟨5, 111, none⟩), .pointer (some a), .int .u64 150]]).run Tryz.prog W = .ok (.agg #[.pointer (some ⟨5, 109, none⟩), .pointer (some p), .int .u64 409]) W := by
  rw [rlm]
  simp only [Sem.run_bind, Tryz.partsPF, Result.andThen]
  simp [ReflectliteValue.elem, loadVar, isAgg, underlying, Tryz.underlying111, ha, Result.andThen, Tryz.elemOfPF, Tryz.mkF]
theorem Tryz.partsAF (a : Addr) (w : World) : (ReflectliteValue.parts (.agg #[.pointer (some ⟨5, 109, none⟩), .pointer (some a), .int .u64 409])).run Tryz.prog w = .ok (some (109, a, 409)) w := by kernel_rfl
theorem Tryz.partsEF (a : Addr) (w : World) : (ReflectliteValue.parts (.agg #[.pointer (some ⟨5, 109, none⟩), .pointer (some a), .int .u64 153])).run Tryz.prog w = .ok (some (109, a, 153)) w := by kernel_rfl
theorem Tryz.directF (w : World) : (Rtype.directlyAssignable 109 109).run Tryz.prog w = .ok true w := by kernel_rfl
theorem Tryz.valueOfPS (t : Addr) (w : World) : (ReflectliteValue.unpack (.iface 114 (.pointer (some t)))).run Tryz.prog w = .ok (.agg #[.pointer (some ⟨5, 114, none⟩), .pointer (some ⟨w.heap.size, 0, none⟩), .int .u64 150]) (w.alloc (.cells #[.pointer (some t)] 114)) := by kernel_rfl
theorem Tryz.typePS (a : Addr) (w : World) : (ReflectliteValue.methodAny (ReflectliteValue.valueError "reflectlite.Value.Type" 0) (fun t _ _ _ => ReflectliteType.toType t) #[.agg #[.pointer (some ⟨5, 114, none⟩), .pointer (some a), .int .u64 150]]).run Tryz.prog w = .ok (.iface 183 (.agg #[.pointer (some ⟨5, 114, none⟩)])) w := by kernel_rfl
theorem Tryz.kindPS (w : World) : ((ReflectliteType.abiMethod fun t => (fun a : Nat => Value.int IntKind.u8 (a : Int)) <$> Rtype.kind t) #[.pointer (some ⟨5, 114, none⟩)]).run Tryz.prog w = .ok (.int .u8 22) w := by kernel_rfl
theorem Tryz.kindES (w : World) : ((ReflectliteType.abiMethod fun t => (fun a : Nat => Value.int IntKind.u8 (a : Int)) <$> Rtype.kind t) #[.pointer (some ⟨5, 113, none⟩)]).run Tryz.prog w = .ok (.int .u8 25) w := by kernel_rfl
theorem Tryz.partsPS (a : Addr) (w : World) : (ReflectliteValue.parts (.agg #[.pointer (some ⟨5, 114, none⟩), .pointer (some a), .int .u64 150])).run Tryz.prog w = .ok (some (114, a, 150)) w := by kernel_rfl
theorem Tryz.isNilPS (a p : Addr) (W : World) (ha : W.cell? a = some (.pointer (some p))) : (ReflectliteValue.method (ReflectliteValue.valueError "reflectlite.Value.IsNil" 0) ReflectliteValue.isNil #[.agg #[.pointer (some ⟨5, 114, none⟩), .pointer (some a), .int .u64 150]]).run Tryz.prog W = .ok (.bool false) W := by
  rw [rlm]
  simp only [Sem.run_bind, Tryz.partsPS, Result.andThen]
  simp [ReflectliteValue.isNil, loadVar, isAgg, underlying, Tryz.underlying114, ha, Result.andThen]
theorem Tryz.elemPS (w : World) : (ReflectliteType.method ReflectliteType.elem #[.agg #[.pointer (some ⟨5, 114, none⟩)]]).run Tryz.prog w = .ok (.iface 183 (.agg #[.pointer (some ⟨5, 113, none⟩)])) w := by kernel_rfl
theorem Tryz.implementsS (w : World) : (ReflectliteType.relation "Implements" ReflectliteType.implements_ #[.agg #[.pointer (some ⟨5, 113, none⟩)], .iface 183 (.agg #[.pointer (some ⟨5, 61, none⟩)])]).run Tryz.prog w = .ok (.bool true) w := by kernel_rfl
theorem Tryz.typeOfS (v : Value) (w : World) : (ReflectliteType.typeOf #[.iface 113 v]).run Tryz.prog w = .ok (.iface 183 (.agg #[.pointer (some ⟨5, 113, none⟩)])) w := by kernel_rfl
theorem Tryz.assignableS (w : World) : (ReflectliteType.relation "AssignableTo" ReflectliteType.assignableTo #[.agg #[.pointer (some ⟨5, 113, none⟩)], .iface 183 (.agg #[.pointer (some ⟨5, 113, none⟩)])]).run Tryz.prog w = .ok (.bool true) w := by kernel_rfl
theorem Tryz.valueOfS (a e : Int) (w : World) : (ReflectliteValue.unpack (.iface 113 (.agg #[.int .i64 a, .iface 109 (.agg #[.int .i64 e])]))).run Tryz.prog w = .ok (.agg #[.pointer (some ⟨5, 113, none⟩), .pointer (some ⟨w.heap.size, 0, none⟩), .int .u64 153]) (w.alloc (.cells #[.int .i64 a, .iface 109 (.agg #[.int .i64 e])] 113)) := by kernel_rfl
theorem Tryz.elemOfPS (w : World) : (Rtype.elem? 114).run Tryz.prog w = .ok (some 113) w := by kernel_rfl
theorem Tryz.mkS (p : Addr) (w : World) : (ReflectliteValue.mk 113 p ReflectliteValue.flagAddr).run Tryz.prog w = .ok (.agg #[.pointer (some ⟨5, 113, none⟩), .pointer (some p), .int .u64 409]) w := by kernel_rfl
theorem Tryz.elemVS (a p : Addr) (W : World) (ha : W.cell? a = some (.pointer (some p))) : (ReflectliteValue.method (ReflectliteValue.valueError "reflectlite.Value.Elem" 0) ReflectliteValue.elem #[.agg #[.pointer (some ⟨5, 114, none⟩), .pointer (some a), .int .u64 150]]).run Tryz.prog W = .ok (.agg #[.pointer (some ⟨5, 113, none⟩), .pointer (some p), .int .u64 409]) W := by
  rw [rlm]
  simp only [Sem.run_bind, Tryz.partsPS, Result.andThen]
  simp [ReflectliteValue.elem, loadVar, isAgg, underlying, Tryz.underlying114, ha, Result.andThen, Tryz.elemOfPS, Tryz.mkS]
theorem Tryz.partsAS (a : Addr) (w : World) : (ReflectliteValue.parts (.agg #[.pointer (some ⟨5, 113, none⟩), .pointer (some a), .int .u64 409])).run Tryz.prog w = .ok (some (113, a, 409)) w := by kernel_rfl
theorem Tryz.partsES (a : Addr) (w : World) : (ReflectliteValue.parts (.agg #[.pointer (some ⟨5, 113, none⟩), .pointer (some a), .int .u64 153])).run Tryz.prog w = .ok (some (113, a, 153)) w := by kernel_rfl
theorem Tryz.directS (w : World) : (Rtype.directlyAssignable 113 113).run Tryz.prog w = .ok true w := by kernel_rfl
theorem Tryz.assignableFS (w : World) : (ReflectliteType.relation "AssignableTo" ReflectliteType.assignableTo #[.agg #[.pointer (some ⟨5, 109, none⟩)], .iface 183 (.agg #[.pointer (some ⟨5, 113, none⟩)])]).run Tryz.prog w = .ok (.bool false) w := by kernel_rfl
theorem Tryz.assignableSF (w : World) : (ReflectliteType.relation "AssignableTo" ReflectliteType.assignableTo #[.agg #[.pointer (some ⟨5, 113, none⟩)], .iface 183 (.agg #[.pointer (some ⟨5, 109, none⟩)])]).run Tryz.prog w = .ok (.bool false) w := by kernel_rfl
end Go.Proofs.YtefebamomdcaaaaGreatDoor
/-
  Ber: errors.As, told.
-/
namespace Go.Proofs.YtefebamomdcaaaaGreatDoor
open Go.RowKit Go.Extern.Stop Go.Stop Go.Extern
set_option maxRecDepth 20000
theorem Tryz.setF (t b : Nat) (e : Int) (o : Value) (W : World) (hb : W.cell? ⟨b, 0, none⟩ = some (.int .i64 e)) (ht : W.cell? ⟨t, 0, none⟩ = some o) (hf : W.frozen? ⟨t, 0, none⟩ = false) :
    (ReflectliteValue.set #[.agg #[.pointer (some ⟨5, 109, none⟩), .pointer (some ⟨t, 0, none⟩), .int .u64 409], .agg #[.pointer (some ⟨5, 109, none⟩), .pointer (some ⟨b, 0, none⟩), .int .u64 153]]).run Tryz.prog W = .ok (.tuple #[]) (W.setCell ⟨t, 0, none⟩ (.int .i64 e)) := by
  delta ReflectliteValue.set
  show (bind (ReflectliteValue.parts (.agg #[.pointer (some ⟨5, 109, none⟩), .pointer (some ⟨t, 0, none⟩), .int .u64 409])) (fun p => bind (ReflectliteValue.parts (.agg #[.pointer (some ⟨5, 109, none⟩), .pointer (some ⟨b, 0, none⟩), .int .u64 153])) _) : Sem Value).run Tryz.prog W = _
  simp only [Sem.run_bind, Tryz.partsAF, Tryz.partsEF, Result.andThen]
  simp [ReflectliteValue.flagAddr, loadVar, isAgg, underlying, Tryz.underlying109, loadCells, loadCellsFrom, hb, Result.andThen, Tryz.directF, storeVar, Value.cells, storeCells, Addr.add]
  rw [run_store Tryz.prog W ⟨t, 0, none⟩ _ _ (by rfl)]
  simp [ht, hf]
theorem Tryz.setS (t b : Nat) (a e : Int) (o1 o2 : Value) (W : World) (hb : W.cell? ⟨b, 0, none⟩ = some (.int .i64 a)) (hb2 : W.cell? ⟨b, 1, none⟩ = some (.iface 109 (.agg #[.int .i64 e]))) (ht : W.cell? ⟨t, 0, none⟩ = some o1) (ht2 : W.cell? ⟨t, 1, none⟩ = some o2) (hf : W.frozen? ⟨t, 0, none⟩ = false) (hf2 : W.frozen? ⟨t, 1, none⟩ = false) :
    (ReflectliteValue.set #[.agg #[.pointer (some ⟨5, 113, none⟩), .pointer (some ⟨t, 0, none⟩), .int .u64 409], .agg #[.pointer (some ⟨5, 113, none⟩), .pointer (some ⟨b, 0, none⟩), .int .u64 153]]).run Tryz.prog W = .ok (.tuple #[]) ((W.setCell ⟨t, 0, none⟩ (.int .i64 a)).setCell ⟨t, 1, none⟩ (.iface 109 (.agg #[.int .i64 e]))) := by
  delta ReflectliteValue.set
  show (bind (ReflectliteValue.parts (.agg #[.pointer (some ⟨5, 113, none⟩), .pointer (some ⟨t, 0, none⟩), .int .u64 409])) (fun p => bind (ReflectliteValue.parts (.agg #[.pointer (some ⟨5, 113, none⟩), .pointer (some ⟨b, 0, none⟩), .int .u64 153])) _) : Sem Value).run Tryz.prog W = _
  simp only [Sem.run_bind, Tryz.partsAS, Tryz.partsES, Result.andThen]
  simp [ReflectliteValue.flagAddr, loadVar, isAgg, underlying, Tryz.underlying113, loadCells, loadCellsFrom, hb, hb2, Result.andThen, Tryz.directS, storeVar, Value.cells, storeCells, Addr.add]
  rw [run_store Tryz.prog W ⟨t, 0, none⟩ _ _ (by rfl)]
  simp [ht, hf]
  have hc : (W.setCell ⟨t, 0, none⟩ (.int .i64 a)).cell? ⟨t, 1, none⟩ = some o2 := (World.cell?_setCell_other W _ _ _ (by simp)).trans ht2
  rw [run_store Tryz.prog _ ⟨t, 1, none⟩ _ _ (by rfl)]
  simp [hc, hf2]
/-- The type that errors.As asks after lies where it was laid. -/
def GlbE (w : World) : Prop := w.cell? ⟨0, 0, none⟩ = some (.iface 183 (.agg #[.pointer (some ⟨5, 61, none⟩)]))
theorem GlbE.lt {w : World} (h : GlbE w) : 0 < w.heap.size := by
  rcases Nat.lt_or_ge 0 w.heap.size with h1 | h1
  · exact h1
  · unfold GlbE at h
    simp [World.cell?, Array.getElem?_eq_none h1] at h
theorem GlbE.below {w w' : World} (h : GlbE w) (hb : Below w.heap.size w w') : GlbE w' := (hb.cell (p := ⟨0, 0, none⟩) h.lt).trans h
theorem GlbE.alloc {w : World} (h : GlbE w) (o : Obj) : GlbE (w.alloc o) := h.below (al1 _)
theorem GlbE.upd {w w' : World} {g : Nat} (h : GlbE w) (hu : Upd w w' g) (hg : g ≠ 0) : GlbE w' := by
  have h1 := hu.block 0 h.lt (fun e => hg (by simpa using e.symm))
  unfold GlbE at *
  simp only [World.cell?] at *
  rw [h1]; exact h
theorem unwrap_any {w : World} (a e : Int) : Calls Tryz.prog 177 #[.agg #[.int .i64 a, .iface 109 (.agg #[.int .i64 e])]] w fun ev w' => ev = .returned (.iface 109 (.agg #[.int .i64 e])) ∧ w.alloc (.cells #[.int .i64 a, .iface 109 (.agg #[.int .i64 e])] 113) = w' := by
  go_enter Tryz.func177, Tryz.ntmps177
  go_wp2
  go_ret
  exact ⟨rfl, rfl⟩
theorem As_nil {w : World} (t : Value) : Calls Tryz.prog 62 #[.nilIface, t] w fun e w' => e = .returned (.bool false) ∧ w = w' := by
  go_enter Tryz.func62, Tryz.ntmps62
  go_wp2
  go_ret
  exact ⟨rfl, rfl⟩
set_option maxHeartbeats 4000000 in
theorem As_F {w : World} (hG : GlbE w) (t : Nat) (u : TypeId) (v : Value) (r : Bool) (Q : World → Prop) (ha : Calls Tryz.prog 90 #[.iface u v, .iface 111 (.pointer (some ⟨t, 0, none⟩)), .agg #[.pointer (some ⟨5, 111, none⟩), .pointer (some ⟨w.heap.size, 0, none⟩), .int .u64 150], .iface 183 (.agg #[.pointer (some ⟨5, 109, none⟩)])] ((w.alloc (.cells #[.pointer (some ⟨t, 0, none⟩)] 111)).alloc (.cells #[.pointer (some ⟨5, 111, none⟩), .pointer (some ⟨w.heap.size, 0, none⟩), .int .u64 150] 150)) fun ev w' => ev = .returned (.bool r) ∧ Q w') :
    Calls Tryz.prog 62 #[.iface u v, .iface 111 (.pointer (some ⟨t, 0, none⟩))] w fun ev w' => ev = .returned (.bool r) ∧ Q w' := by
  have HA : Hid (Calls Tryz.prog 90 #[.iface u v, .iface 111 (.pointer (some ⟨t, 0, none⟩)), .agg #[.pointer (some ⟨5, 111, none⟩), .pointer (some ⟨w.heap.size, 0, none⟩), .int .u64 150], .iface 183 (.agg #[.pointer (some ⟨5, 109, none⟩)])] ((w.alloc (.cells #[.pointer (some ⟨t, 0, none⟩)] 111)).alloc (.cells #[.pointer (some ⟨5, 111, none⟩), .pointer (some ⟨w.heap.size, 0, none⟩), .int .u64 150] 150)) fun ev w' => ev = .returned (.bool r) ∧ Q w') := ha
  clear ha
  have xValueOf := @run_callFunc_extern Tryz.prog 87 _ (fun args => ReflectliteValue.unpack (args.getD 0 (.tuple #[]))) Tryz.func87 (by kernel_rfl) (by kernel_rfl) (by kernel_rfl) (by kernel_rfl)
  have xType := @run_callFunc_extern Tryz.prog 88 _ (ReflectliteValue.methodAny (ReflectliteValue.valueError "reflectlite.Value.Type" 0) (fun t _ _ _ => ReflectliteType.toType t)) Tryz.func88 (by kernel_rfl) (by kernel_rfl) (by kernel_rfl) (by kernel_rfl)
  have xIsNil := @run_callFunc_extern Tryz.prog 89 _ (ReflectliteValue.method (ReflectliteValue.valueError "reflectlite.Value.IsNil" 0) ReflectliteValue.isNil) Tryz.func89 (by kernel_rfl) (by kernel_rfl) (by kernel_rfl) (by kernel_rfl)
  have xKind := @run_callFunc_extern Tryz.prog 172 _ (ReflectliteType.abiMethod fun t => do pure (.int .u8 (← Rtype.kind t))) Tryz.func172 (by kernel_rfl) (by kernel_rfl) (by kernel_rfl) (by kernel_rfl)
  have xTElem := @run_callFunc_extern Tryz.prog 184 _ (ReflectliteType.method ReflectliteType.elem) Tryz.func184 (by kernel_rfl) (by kernel_rfl) (by kernel_rfl) (by kernel_rfl)
  have xImpl := @run_callFunc_extern Tryz.prog 185 _ (ReflectliteType.relation "Implements" ReflectliteType.implements_) Tryz.func185 (by kernel_rfl) (by kernel_rfl) (by kernel_rfl) (by kernel_rfl)
  have f1 := Tryz.valueOfPF
  have f2 := Tryz.typePF
  have f3 := Tryz.asKind
  have f4 := Tryz.asElem
  have f5 := Tryz.asImplements
  have f6 := Tryz.kindPF
  have f7 := Tryz.kindEF
  have f8 := Tryz.elemPF
  have f9 := Tryz.implementsF
  have n8 := Tryz.isNilPF ⟨w.heap.size, 0, none⟩ ⟨t, 0, none⟩ ((w.alloc (.cells #[.pointer (some ⟨t, 0, none⟩)] 111)).alloc (.cells #[.pointer (some ⟨5, 111, none⟩), .pointer (some ⟨w.heap.size, 0, none⟩), .int .u64 150] 150)) (by simp)
  have hg2 : ((w.alloc (.cells #[.pointer (some ⟨t, 0, none⟩)] 111)).alloc (.cells #[.pointer (some ⟨5, 111, none⟩), .pointer (some ⟨w.heap.size, 0, none⟩), .int .u64 150] 150)).cell? ⟨0, 0, none⟩ = some (.iface 183 (.agg #[.pointer (some ⟨5, 61, none⟩)])) := (hG.alloc _).alloc _
  have hq : ∀ (w : World) (u : TypeId) (v : Value), (binOp .eql 61 (.iface u v) .nilIface).run Tryz.prog w = .ok (.bool false) w := fun _ _ _ => by rfl
  clear hG
  go_enter Tryz.func62, Tryz.ntmps62
  go_wp2_with (go_at_call 90; refine HA.out.mono ?_; rintro ev w1 ⟨rfl, hQ⟩; have HQ : Hid (Q w1) := hQ; clear hQ)
  go_ret
  exact ⟨rfl, HQ.out⟩
set_option maxHeartbeats 4000000 in
theorem As_S {w : World} (hG : GlbE w) (t : Nat) (u : TypeId) (v : Value) (r : Bool) (Q : World → Prop) (ha : Calls Tryz.prog 90 #[.iface u v, .iface 114 (.pointer (some ⟨t, 0, none⟩)), .agg #[.pointer (some ⟨5, 114, none⟩), .pointer (some ⟨w.heap.size, 0, none⟩), .int .u64 150], .iface 183 (.agg #[.pointer (some ⟨5, 113, none⟩)])] ((w.alloc (.cells #[.pointer (some ⟨t, 0, none⟩)] 114)).alloc (.cells #[.pointer (some ⟨5, 114, none⟩), .pointer (some ⟨w.heap.size, 0, none⟩), .int .u64 150] 150)) fun ev w' => ev = .returned (.bool r) ∧ Q w') :
    Calls Tryz.prog 62 #[.iface u v, .iface 114 (.pointer (some ⟨t, 0, none⟩))] w fun ev w' => ev = .returned (.bool r) ∧ Q w' := by
  have HA : Hid (Calls Tryz.prog 90 #[.iface u v, .iface 114 (.pointer (some ⟨t, 0, none⟩)), .agg #[.pointer (some ⟨5, 114, none⟩), .pointer (some ⟨w.heap.size, 0, none⟩), .int .u64 150], .iface 183 (.agg #[.pointer (some ⟨5, 113, none⟩)])] ((w.alloc (.cells #[.pointer (some ⟨t, 0, none⟩)] 114)).alloc (.cells #[.pointer (some ⟨5, 114, none⟩), .pointer (some ⟨w.heap.size, 0, none⟩), .int .u64 150] 150)) fun ev w' => ev = .returned (.bool r) ∧ Q w') := ha
  clear ha
  have xValueOf := @run_callFunc_extern Tryz.prog 87 _ (fun args => ReflectliteValue.unpack (args.getD 0 (.tuple #[]))) Tryz.func87 (by kernel_rfl) (by kernel_rfl) (by kernel_rfl) (by kernel_rfl)
  have xType := @run_callFunc_extern Tryz.prog 88 _ (ReflectliteValue.methodAny (ReflectliteValue.valueError "reflectlite.Value.Type" 0) (fun t _ _ _ => ReflectliteType.toType t)) Tryz.func88 (by kernel_rfl) (by kernel_rfl) (by kernel_rfl) (by kernel_rfl)
  have xIsNil := @run_callFunc_extern Tryz.prog 89 _ (ReflectliteValue.method (ReflectliteValue.valueError "reflectlite.Value.IsNil" 0) ReflectliteValue.isNil) Tryz.func89 (by kernel_rfl) (by kernel_rfl) (by kernel_rfl) (by kernel_rfl)
  have xKind := @run_callFunc_extern Tryz.prog 172 _ (ReflectliteType.abiMethod fun t => do pure (.int .u8 (← Rtype.kind t))) Tryz.func172 (by kernel_rfl) (by kernel_rfl) (by kernel_rfl) (by kernel_rfl)
  have xTElem := @run_callFunc_extern Tryz.prog 184 _ (ReflectliteType.method ReflectliteType.elem) Tryz.func184 (by kernel_rfl) (by kernel_rfl) (by kernel_rfl) (by kernel_rfl)
  have xImpl := @run_callFunc_extern Tryz.prog 185 _ (ReflectliteType.relation "Implements" ReflectliteType.implements_) Tryz.func185 (by kernel_rfl) (by kernel_rfl) (by kernel_rfl) (by kernel_rfl)
  have f1 := Tryz.valueOfPS
  have f2 := Tryz.typePS
  have f3 := Tryz.asKind
  have f4 := Tryz.asElem
  have f5 := Tryz.asImplements
  have f6 := Tryz.kindPS
  have f7 := Tryz.kindES
  have f8 := Tryz.elemPS
  have f9 := Tryz.implementsS
  have n8 := Tryz.isNilPS ⟨w.heap.size, 0, none⟩ ⟨t, 0, none⟩ ((w.alloc (.cells #[.pointer (some ⟨t, 0, none⟩)] 114)).alloc (.cells #[.pointer (some ⟨5, 114, none⟩), .pointer (some ⟨w.heap.size, 0, none⟩), .int .u64 150] 150)) (by simp)
  have hg2 : ((w.alloc (.cells #[.pointer (some ⟨t, 0, none⟩)] 114)).alloc (.cells #[.pointer (some ⟨5, 114, none⟩), .pointer (some ⟨w.heap.size, 0, none⟩), .int .u64 150] 150)).cell? ⟨0, 0, none⟩ = some (.iface 183 (.agg #[.pointer (some ⟨5, 61, none⟩)])) := (hG.alloc _).alloc _
  have hq : ∀ (w : World) (u : TypeId) (v : Value), (binOp .eql 61 (.iface u v) .nilIface).run Tryz.prog w = .ok (.bool false) w := fun _ _ _ => by rfl
  clear hG
  go_enter Tryz.func62, Tryz.ntmps62
  go_wp2_with (go_at_call 90; refine HA.out.mono ?_; rintro ev w1 ⟨rfl, hQ⟩; have HQ : Hid (Q w1) := hQ; clear hQ)
  go_ret
  exact ⟨rfl, HQ.out⟩
set_option maxHeartbeats 4000000 in
theorem as_FF {w : World} (t p : Nat) (e : Int) (o : Value) (hp : w.cell? ⟨p, 0, none⟩ = some (.pointer (some ⟨t, 0, none⟩))) (hB : Blk 109 w t [o]) :
    Calls Tryz.prog 90 #[.iface 109 (.agg #[.int .i64 e]), .iface 111 (.pointer (some ⟨t, 0, none⟩)), .agg #[.pointer (some ⟨5, 111, none⟩), .pointer (some ⟨p, 0, none⟩), .int .u64 150], .iface 183 (.agg #[.pointer (some ⟨5, 109, none⟩)])] w fun ev w' => ev = .returned (.bool true) ∧ Upd w w' t ∧ Blk 109 w' t [.int .i64 e] := by
  have hpl : p < w.heap.size := by
    rcases Nat.lt_or_ge p w.heap.size with h | h
    · exact h
    · simp [World.cell?, Array.getElem?_eq_none h] at hp
  have xTypeOf := @run_callFunc_extern Tryz.prog 112 _ ReflectliteType.typeOf Tryz.func112 (by kernel_rfl) (by kernel_rfl) (by kernel_rfl) (by kernel_rfl)
  have xAssign := @run_callFunc_extern Tryz.prog 182 _ (ReflectliteType.relation "AssignableTo" ReflectliteType.assignableTo) Tryz.func182 (by kernel_rfl) (by kernel_rfl) (by kernel_rfl) (by kernel_rfl)
  have xElem := @run_callFunc_extern Tryz.prog 113 _ (ReflectliteValue.method (ReflectliteValue.valueError "reflectlite.Value.Elem" 0) ReflectliteValue.elem) Tryz.func113 (by kernel_rfl) (by kernel_rfl) (by kernel_rfl) (by kernel_rfl)
  have xSet := @run_callFunc_extern Tryz.prog 114 _ ReflectliteValue.set Tryz.func114 (by kernel_rfl) (by kernel_rfl) (by kernel_rfl) (by kernel_rfl)
  have xValueOf := @run_callFunc_extern Tryz.prog 87 _ (fun args => ReflectliteValue.unpack (args.getD 0 (.tuple #[]))) Tryz.func87 (by kernel_rfl) (by kernel_rfl) (by kernel_rfl) (by kernel_rfl)
  have f1 := Tryz.typeOfF
  have f2 := Tryz.asAssignable
  have f3 := Tryz.assignableF
  have f4 := Tryz.valueOfF e
  have el := Tryz.elemVF ⟨p, 0, none⟩ ⟨t, 0, none⟩ (w.alloc (.cells #[.pointer (some ⟨5, 111, none⟩), .pointer (some ⟨p, 0, none⟩), .int .u64 150] 150)) (by rw [World.cell?_alloc_lt _ _ ⟨p, 0, none⟩ hpl]; exact hp)
  have st := Tryz.setF t (w.heap.size + 1) e o ((w.alloc (.cells #[.pointer (some ⟨5, 111, none⟩), .pointer (some ⟨p, 0, none⟩), .int .u64 150] 150)).alloc (.cells #[.int .i64 e] 109)) (by rw [World.cell?_alloc_at _ _ _ _ (by simp)]; rfl) ((((hB.alloc _).alloc _).cell 0)) ((((hB.alloc _).alloc _).frozen 0))
  have HB : Hid (Blk 109 w t [o]) := hB
  clear hB hp
  go_enter Tryz.func90, Tryz.ntmps90
  go_wp2
  refine wp_loop_rounds 1 ?_
  rw [rounds_succ]
  go_wp2
  go_ret
  exact ⟨rfl, (Below.upd (g := t) ((al1 _).trans ((al1 _).mono (by simp)))).trans (Upd.set _ _ _ _), ((HB.out.alloc _).alloc _).set 0 (.int .i64 e)⟩
set_option maxHeartbeats 4000000 in
theorem as_SS {w : World} (t p : Nat) (a e : Int) (o1 o2 : Value) (hp : w.cell? ⟨p, 0, none⟩ = some (.pointer (some ⟨t, 0, none⟩))) (hB : Blk 113 w t [o1, o2]) :
    Calls Tryz.prog 90 #[.iface 113 (.agg #[.int .i64 a, .iface 109 (.agg #[.int .i64 e])]), .iface 114 (.pointer (some ⟨t, 0, none⟩)), .agg #[.pointer (some ⟨5, 114, none⟩), .pointer (some ⟨p, 0, none⟩), .int .u64 150], .iface 183 (.agg #[.pointer (some ⟨5, 113, none⟩)])] w fun ev w' => ev = .returned (.bool true) ∧ Upd w w' t ∧ Blk 113 w' t [.int .i64 a, .iface 109 (.agg #[.int .i64 e])] := by
  have hpl : p < w.heap.size := by
    rcases Nat.lt_or_ge p w.heap.size with h | h
    · exact h
    · simp [World.cell?, Array.getElem?_eq_none h] at hp
  have xTypeOf := @run_callFunc_extern Tryz.prog 112 _ ReflectliteType.typeOf Tryz.func112 (by kernel_rfl) (by kernel_rfl) (by kernel_rfl) (by kernel_rfl)
  have xAssign := @run_callFunc_extern Tryz.prog 182 _ (ReflectliteType.relation "AssignableTo" ReflectliteType.assignableTo) Tryz.func182 (by kernel_rfl) (by kernel_rfl) (by kernel_rfl) (by kernel_rfl)
  have xElem := @run_callFunc_extern Tryz.prog 113 _ (ReflectliteValue.method (ReflectliteValue.valueError "reflectlite.Value.Elem" 0) ReflectliteValue.elem) Tryz.func113 (by kernel_rfl) (by kernel_rfl) (by kernel_rfl) (by kernel_rfl)
  have xSet := @run_callFunc_extern Tryz.prog 114 _ ReflectliteValue.set Tryz.func114 (by kernel_rfl) (by kernel_rfl) (by kernel_rfl) (by kernel_rfl)
  have xValueOf := @run_callFunc_extern Tryz.prog 87 _ (fun args => ReflectliteValue.unpack (args.getD 0 (.tuple #[]))) Tryz.func87 (by kernel_rfl) (by kernel_rfl) (by kernel_rfl) (by kernel_rfl)
  have f1 := Tryz.typeOfS
  have f2 := Tryz.asAssignable
  have f3 := Tryz.assignableS
  have f4 := Tryz.valueOfS a e
  have el := Tryz.elemVS ⟨p, 0, none⟩ ⟨t, 0, none⟩ (w.alloc (.cells #[.pointer (some ⟨5, 114, none⟩), .pointer (some ⟨p, 0, none⟩), .int .u64 150] 150)) (by rw [World.cell?_alloc_lt _ _ ⟨p, 0, none⟩ hpl]; exact hp)
  have st := Tryz.setS t (w.heap.size + 1) a e o1 o2 ((w.alloc (.cells #[.pointer (some ⟨5, 114, none⟩), .pointer (some ⟨p, 0, none⟩), .int .u64 150] 150)).alloc (.cells #[.int .i64 a, .iface 109 (.agg #[.int .i64 e])] 113)) (by rw [World.cell?_alloc_at _ _ _ _ (by simp)]; rfl) (by rw [World.cell?_alloc_at _ _ _ _ (by simp)]; rfl) ((((hB.alloc _).alloc _).cell 0)) ((((hB.alloc _).alloc _).cell 1)) ((((hB.alloc _).alloc _).frozen 0)) ((((hB.alloc _).alloc _).frozen 1))
  have HB : Hid (Blk 113 w t [o1, o2]) := hB
  clear hB hp
  go_enter Tryz.func90, Tryz.ntmps90
  go_wp2
  refine wp_loop_rounds 1 ?_
  rw [rounds_succ]
  go_wp2
  go_ret
  exact ⟨rfl, ((Below.upd (g := t) ((al1 _).trans ((al1 _).mono (by simp)))).trans (Upd.set _ _ _ _)).trans (Upd.set _ _ _ _), (((HB.out.alloc _).alloc _).set 0 (.int .i64 a)).set 1 (.iface 109 (.agg #[.int .i64 e]))⟩
end Go.Proofs.YtefebamomdcaaaaGreatDoor
/-
  Ber: errors.As where the error is of the other kind; told.
-/
namespace Go.Proofs.YtefebamomdcaaaaGreatDoor
open Go.RowKit Go.Extern.Stop Go.Stop Go.Extern
set_option maxRecDepth 20000
set_option maxHeartbeats 4000000 in
theorem as_SF {w : World} (t p : Nat) (a e : Int) (o : Value) (hp : w.cell? ⟨p, 0, none⟩ = some (.pointer (some ⟨t, 0, none⟩))) (hB : Blk 109 w t [o]) :
    Calls Tryz.prog 90 #[.iface 113 (.agg #[.int .i64 a, .iface 109 (.agg #[.int .i64 e])]), .iface 111 (.pointer (some ⟨t, 0, none⟩)), .agg #[.pointer (some ⟨5, 111, none⟩), .pointer (some ⟨p, 0, none⟩), .int .u64 150], .iface 183 (.agg #[.pointer (some ⟨5, 109, none⟩)])] w fun ev w' => ev = .returned (.bool true) ∧ Upd w w' t ∧ Blk 109 w' t [.int .i64 e] := by
  have hpl : p < w.heap.size := by
    rcases Nat.lt_or_ge p w.heap.size with h | h
    · exact h
    · simp [World.cell?, Array.getElem?_eq_none h] at hp
  have xTypeOf := @run_callFunc_extern Tryz.prog 112 _ ReflectliteType.typeOf Tryz.func112 (by kernel_rfl) (by kernel_rfl) (by kernel_rfl) (by kernel_rfl)
  have xAssign := @run_callFunc_extern Tryz.prog 182 _ (ReflectliteType.relation "AssignableTo" ReflectliteType.assignableTo) Tryz.func182 (by kernel_rfl) (by kernel_rfl) (by kernel_rfl) (by kernel_rfl)
  have xElem := @run_callFunc_extern Tryz.prog 113 _ (ReflectliteValue.method (ReflectliteValue.valueError "reflectlite.Value.Elem" 0) ReflectliteValue.elem) Tryz.func113 (by kernel_rfl) (by kernel_rfl) (by kernel_rfl) (by kernel_rfl)
  have xSet := @run_callFunc_extern Tryz.prog 114 _ ReflectliteValue.set Tryz.func114 (by kernel_rfl) (by kernel_rfl) (by kernel_rfl) (by kernel_rfl)
  have xValueOf := @run_callFunc_extern Tryz.prog 87 _ (fun args => ReflectliteValue.unpack (args.getD 0 (.tuple #[]))) Tryz.func87 (by kernel_rfl) (by kernel_rfl) (by kernel_rfl) (by kernel_rfl)
  have f1 := Tryz.typeOfF
  have g1 := Tryz.typeOfS
  have f2 := Tryz.asAssignable
  have f3 := Tryz.assignableF
  have g3 := Tryz.assignableSF
  have f4 := Tryz.valueOfF e
  have f5 := Tryz.noAsS
  have f6 := Tryz.hasUnwrapS
  have f7 := Tryz.methodUnwrap
  have hq : ∀ (w : World) (u : TypeId) (v : Value), (binOp .eql 61 (.iface u v) .nilIface).run Tryz.prog w = .ok (.bool false) w := fun _ _ _ => by rfl
  have HU : Hid (∀ W : World, Calls Tryz.prog 177 #[.agg #[.int .i64 a, .iface 109 (.agg #[.int .i64 e])]] W fun ev w' => ev = .returned (.iface 109 (.agg #[.int .i64 e])) ∧ W.alloc (.cells #[.int .i64 a, .iface 109 (.agg #[.int .i64 e])] 113) = w') := fun W => unwrap_any a e
  have el := Tryz.elemVF ⟨p, 0, none⟩ ⟨t, 0, none⟩ ((w.alloc (.cells #[.pointer (some ⟨5, 111, none⟩), .pointer (some ⟨p, 0, none⟩), .int .u64 150] 150)).alloc (.cells #[.int .i64 a, .iface 109 (.agg #[.int .i64 e])] 113)) (by rw [World.cell?_alloc_lt _ _ ⟨p, 0, none⟩ (by simp; omega), World.cell?_alloc_lt _ _ ⟨p, 0, none⟩ hpl]; exact hp)
  have st := Tryz.setF t (w.heap.size + 1 + 1) e o (((w.alloc (.cells #[.pointer (some ⟨5, 111, none⟩), .pointer (some ⟨p, 0, none⟩), .int .u64 150] 150)).alloc (.cells #[.int .i64 a, .iface 109 (.agg #[.int .i64 e])] 113)).alloc (.cells #[.int .i64 e] 109)) (by rw [World.cell?_alloc_at _ _ _ _ (by simp)]; rfl) ((((hB.alloc _).alloc _).alloc _).cell 0) ((((hB.alloc _).alloc _).alloc _).frozen 0)
  have HB : Hid (Blk 109 w t [o]) := hB
  clear hB hp
  go_enter Tryz.func90, Tryz.ntmps90
  go_wp2
  refine wp_loop_rounds 2 ?_
  rw [rounds_succ]
  go_wp2_with (go_at_call 177; refine (HU.out _).mono ?_; rintro ev w1 ⟨rfl, rfl⟩)
  rw [rounds_succ]
  go_wp2
  go_ret
  exact ⟨rfl, (Below.upd (g := t) (((al1 _).trans ((al1 _).mono (by simp))).trans ((al1 _).mono (by simp; omega)))).trans (Upd.set _ _ _ _), (((HB.out.alloc _).alloc _).alloc _).set 0 (.int .i64 e)⟩
set_option maxHeartbeats 4000000 in
theorem as_FS {w : World} (t p : Nat) (e : Int) :
    Calls Tryz.prog 90 #[.iface 109 (.agg #[.int .i64 e]), .iface 114 (.pointer (some ⟨t, 0, none⟩)), .agg #[.pointer (some ⟨5, 114, none⟩), .pointer (some ⟨p, 0, none⟩), .int .u64 150], .iface 183 (.agg #[.pointer (some ⟨5, 113, none⟩)])] w fun ev w' => ev = .returned (.bool false) ∧ Below w.heap.size w w' := by
  have xTypeOf := @run_callFunc_extern Tryz.prog 112 _ ReflectliteType.typeOf Tryz.func112 (by kernel_rfl) (by kernel_rfl) (by kernel_rfl) (by kernel_rfl)
  have xAssign := @run_callFunc_extern Tryz.prog 182 _ (ReflectliteType.relation "AssignableTo" ReflectliteType.assignableTo) Tryz.func182 (by kernel_rfl) (by kernel_rfl) (by kernel_rfl) (by kernel_rfl)
  have f1 := Tryz.typeOfF
  have f2 := Tryz.asAssignable
  have g3 := Tryz.assignableFS
  have f5 := Tryz.noAsF
  have f6 := Tryz.noUnwrapF
  have f7 := Tryz.noUnwrapsF
  go_enter Tryz.func90, Tryz.ntmps90
  go_wp2
  refine wp_loop_rounds 1 ?_
  rw [rounds_succ]
  go_wp2
  go_ret
  exact ⟨rfl, al1 _⟩
/-- Two allocs and what is behind them, from the world ahead of them. -/
theorem upd_al2 {w w' : World} {o1 o2 : Obj} {t : Nat} (h : Upd ((w.alloc o1).alloc o2) w' t) : Upd w w' t := (Below.upd (g := t) ((al1 _).trans ((al1 _).mono (by simp)))).trans h
theorem AsF_F {w : World} (hG : GlbE w) (t : Nat) (e : Int) (o : Value) (hB : Blk 109 w t [o]) : Calls Tryz.prog 62 #[.iface 109 (.agg #[.int .i64 e]), .iface 111 (.pointer (some ⟨t, 0, none⟩))] w fun ev w' => ev = .returned (.bool true) ∧ Upd w w' t ∧ Blk 109 w' t [.int .i64 e] :=
  As_F hG t _ _ true _ ((as_FF t w.heap.size e o (by simp) ((hB.alloc _).alloc _)).mono fun ev w' h => ⟨h.1, upd_al2 h.2.1, h.2.2⟩)
theorem AsS_F {w : World} (hG : GlbE w) (t : Nat) (a e : Int) (o : Value) (hB : Blk 109 w t [o]) : Calls Tryz.prog 62 #[.iface 113 (.agg #[.int .i64 a, .iface 109 (.agg #[.int .i64 e])]), .iface 111 (.pointer (some ⟨t, 0, none⟩))] w fun ev w' => ev = .returned (.bool true) ∧ Upd w w' t ∧ Blk 109 w' t [.int .i64 e] :=
  As_F hG t _ _ true _ ((as_SF t w.heap.size a e o (by simp) ((hB.alloc _).alloc _)).mono fun ev w' h => ⟨h.1, upd_al2 h.2.1, h.2.2⟩)
theorem AsS_S {w : World} (hG : GlbE w) (t : Nat) (a e : Int) (o1 o2 : Value) (hB : Blk 113 w t [o1, o2]) : Calls Tryz.prog 62 #[.iface 113 (.agg #[.int .i64 a, .iface 109 (.agg #[.int .i64 e])]), .iface 114 (.pointer (some ⟨t, 0, none⟩))] w fun ev w' => ev = .returned (.bool true) ∧ Upd w w' t ∧ Blk 113 w' t [.int .i64 a, .iface 109 (.agg #[.int .i64 e])] :=
  As_S hG t _ _ true _ ((as_SS t w.heap.size a e o1 o2 (by simp) ((hB.alloc _).alloc _)).mono fun ev w' h => ⟨h.1, upd_al2 h.2.1, h.2.2⟩)
theorem AsF_S {w : World} (hG : GlbE w) (t : Nat) (e : Int) : Calls Tryz.prog 62 #[.iface 109 (.agg #[.int .i64 e]), .iface 114 (.pointer (some ⟨t, 0, none⟩))] w fun ev w' => ev = .returned (.bool false) ∧ Below w.heap.size w w' :=
  As_S hG t _ _ false _ ((as_FS t w.heap.size e).mono fun ev w' h => ⟨h.1, ((al1 _).trans ((al1 _).mono (by simp))).trans (h.2.mono (by simp; omega))⟩)
/-- What told makes of nothing, of a flaw, of a spot. -/
theorem told_nil {w : World} : Calls Tryz.prog 33 #[.nilIface] w fun e w' => e = .returned (.tuple #[.int .i64 0, .int .i64 0]) ∧ Below w.heap.size w w' := by
  go_enter Tryz.func33, Tryz.ntmps33
  go_wp2_with (go_at_call 62; refine (As_nil _).mono ?_; rintro ev w1 ⟨rfl, rfl⟩)
  go_ret2
  exact ⟨rfl, al1 _⟩
abbrev flV (e : Int) : Value := .iface 109 (.agg #[.int .i64 e])
set_option maxHeartbeats 1000000 in
theorem told_flaw {w : World} (hG : GlbE w) (e : Int) : Calls Tryz.prog 33 #[flV e] w fun ev w' => ev = .returned (.tuple #[.int .i64 e, .int .i64 0]) ∧ Below w.heap.size w w' := by
  have HG : Hid (GlbE w) := hG
  clear hG
  go_enter Tryz.func33, Tryz.ntmps33
  go_wp2_with fail
  refine (AsF_F (HG.out.alloc _) w.heap.size e (.int .i64 0) (Blk.new _ w _)).mono ?_
  rintro ev w1 ⟨rfl, hu, hb⟩
  have hb1 : Below w.heap.size w w1 := ⟨hu.os, hu.tape, hu.output, by have := hu.size; simp at this; omega, fun j hj => (hu.block j (by simp; omega) (fun h => by simp at h; omega)).trans ((al1 _).block j hj)⟩
  have H1 : Hid (Below w.heap.size w w1 ∧ Blk 109 w1 w.heap.size [.int .i64 e]) := ⟨hb1, hb⟩
  have hl : w.heap.size < w1.heap.size := hb.lt
  clear hu hb hb1
  go_wp2_with fail
  refine (AsF_S ((HG.out.below H1.out.1).alloc _) w1.heap.size e).mono ?_
  rintro ev w2 ⟨rfl, hb⟩
  have c0 : w2.cell? ⟨w.heap.size, 0, none⟩ = some (.int .i64 e) := (hb.cell (p := ⟨w.heap.size, 0, none⟩) (by simp; omega)).trans ((H1.out.2.alloc _).cell 0)
  have H2 : Hid (Below w1.heap.size w1 w2) := (al1 _).trans (hb.mono (by simp))
  clear hb
  go_wp2
  go_ret2
  exact ⟨rfl, H1.out.1.trans (H2.out.mono (by omega))⟩
set_option maxHeartbeats 1000000 in
theorem told_spot {w : World} (hG : GlbE w) (e : Int) (a : Nat) : Calls Tryz.prog 33 #[erV e a] w fun ev w' => ev = .returned (.tuple #[.int .i64 e, .int .i64 (a : Int)]) ∧ Below w.heap.size w w' := by
  have HG : Hid (GlbE w) := hG
  clear hG
  go_enter Tryz.func33, Tryz.ntmps33
  go_wp2_with fail
  refine (AsS_F (HG.out.alloc _) w.heap.size a e (.int .i64 0) (Blk.new _ w _)).mono ?_
  rintro ev w1 ⟨rfl, hu, hb⟩
  have hb1 : Below w.heap.size w w1 := ⟨hu.os, hu.tape, hu.output, by have := hu.size; simp at this; omega, fun j hj => (hu.block j (by simp; omega) (fun h => by simp at h; omega)).trans ((al1 _).block j hj)⟩
  have H1 : Hid (Below w.heap.size w w1 ∧ Blk 109 w1 w.heap.size [.int .i64 e]) := ⟨hb1, hb⟩
  have hl : w.heap.size < w1.heap.size := hb.lt
  clear hu hb hb1
  go_wp2_with fail
  refine (AsS_S ((HG.out.below H1.out.1).alloc _) w1.heap.size a e (.int .i64 0) .nilIface (Blk.new _ w1 _)).mono ?_
  rintro ev w2 ⟨rfl, hu, hb⟩
  have c0 : w2.cell? ⟨w.heap.size, 0, none⟩ = some (.int .i64 e) := (hu.blk (H1.out.2.alloc _) (by omega)).cell 0
  have c1 : w2.cell? ⟨w1.heap.size, 0, none⟩ = some (.int .i64 (a : Int)) := hb.cell 0
  have H2 : Hid (Below w1.heap.size w1 w2) := ⟨hu.os, hu.tape, hu.output, by have := hu.size; simp at this; omega, fun j hj => (hu.block j (by simp; omega) (fun h => by simp at h; omega)).trans ((al1 _).block j hj)⟩
  clear hu hb
  go_upto_region 7 with (fail)
  go_quiet (fail)
  go_wp2
  go_ret2
  exact ⟨rfl, (H1.out.1.trans (H2.out.mono (by omega))).trans ⟨rfl, rfl, rfl, Nat.le_refl _, fun _ _ => rfl⟩⟩
end Go.Proofs.YtefebamomdcaaaaGreatDoor
