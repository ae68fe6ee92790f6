/-
  Alg: the two kinds of faults; errors.Is of them.
-/
import Derived.LaidEql
import Derived.Stop.Asserts
import Derived.RowKitTokens
import Derived.Test.YtillkhjihggcjaaGreatDoorK34
namespace Go.Proofs.YtillkhjihggcjaaGreatDoor
open Go.RowKit Go.Extern.Stop Go.Stop Go.Extern
theorem Tryz.isTypeOf (v : Value) (w : World) : (Extern.ReflectliteType.typeOf #[.iface 236 v]).run Tryz.prog w = .ok (.iface 167 (.agg #[.pointer (some ⟨5, 236, none⟩)])) w := by kernel_rfl
theorem Tryz.isComparable (w : World) : ((Extern.ReflectliteType.method fun t => do Rtype.noPackHeld "Comparable" t; pure (.bool (← typeInfo t).comparable)) #[.agg #[.pointer (some ⟨5, 236, none⟩)]]).run Tryz.prog w = .ok (.bool true) w := by kernel_rfl
theorem Tryz.isMethodComparable (v : Value) (w : World) : (Go.method 378 167 v "Comparable").run Tryz.prog w = .ok (191, v) w := by kernel_rfl
theorem Tryz.isComp : (Tryz.prog.info? 236).map (·.comparable) = some true := by kernel_rfl
theorem Tryz.isSize : (Tryz.prog.info? 263).map (·.size) = some 1 := by kernel_rfl
theorem Tryz.noIsE (v : Value) (xT : TypeId) (w : World) : (Instr.typeAssert (.iface 236 v) xT 169 true).run Tryz.prog w = .ok (.tuple #[.nilIface, .bool false]) w := run_typeAssert_lacksB Tryz.underlying169 (by kernel_rfl) (by kernel_rfl) v xT w
theorem Tryz.noUnwrapE (v : Value) (xT : TypeId) (w : World) : (Instr.typeAssert (.iface 236 v) xT 172 true).run Tryz.prog w = .ok (.tuple #[.nilIface, .bool false]) w := run_typeAssert_lacksB Tryz.underlying172 (by kernel_rfl) (by kernel_rfl) v xT w
theorem Tryz.noUnwrapsE (v : Value) (xT : TypeId) (w : World) : (Instr.typeAssert (.iface 236 v) xT 174 true).run Tryz.prog w = .ok (.tuple #[.nilIface, .bool false]) w := run_typeAssert_lacksB Tryz.underlying174 (by kernel_rfl) (by kernel_rfl) v xT w
theorem Tryz.noIsF (v : Value) (xT : TypeId) (w : World) : (Instr.typeAssert (.iface 129 v) xT 169 true).run Tryz.prog w = .ok (.tuple #[.nilIface, .bool false]) w := run_typeAssert_lacksB Tryz.underlying169 (by kernel_rfl) (by kernel_rfl) v xT w
theorem Tryz.hasUnwrapF (v : Value) (xT : TypeId) (w : World) : (Instr.typeAssert (.iface 129 v) xT 172 true).run Tryz.prog w = .ok (.tuple #[.iface 129 v, .bool true]) w := run_typeAssert_hasB Tryz.underlying172 (by kernel_rfl) v xT w
theorem Tryz.methodUnwrap (v : Value) (w : World) : (Go.method 378 129 v "Unwrap").run Tryz.prog w = .ok (186, v) w := by kernel_rfl
def erV (a : Addr) : Value := .iface 236 (.pointer (some a))
def flV (a : Addr) (s : ByteArray) : Value := .iface 129 (.agg #[.string s, erV a])
/-- The package's two errors lie where they were laid. -/
structure Glb (w : World) (an ak : Addr) : Prop where
  n : w.cell? ⟨0, 0, none⟩ = some (erV an)
  k : w.cell? ⟨1, 0, none⟩ = some (erV ak)
  ne : ak ≠ an
  hn : ∃ c t, w.heap[an.block]? = some (.cells c t (0, 0))
  hk : ∃ c t, w.heap[ak.block]? = some (.cells c t (0, 0))
  ln : 0 < w.heap.size
  lk : 1 < w.heap.size
theorem Glb.below {w w' : World} {an ak : Addr} (h : Glb w an ak) (hb : Below w.heap.size w w') : Glb w' an ak := by
  have lt : ∀ {b : Nat} {o : Obj}, w.heap[b]? = some o → b < w.heap.size := fun h => (Array.getElem?_eq_some_iff.1 h).1
  refine ⟨(hb.cell (p := ⟨0, 0, none⟩) h.ln).trans h.n, (hb.cell (p := ⟨1, 0, none⟩) h.lk).trans h.k, h.ne, ?_, ?_, Nat.lt_of_lt_of_le h.ln hb.size, Nat.lt_of_lt_of_le h.lk hb.size⟩
  · obtain ⟨c, t, h1⟩ := h.hn
    exact ⟨c, t, (hb.block _ (lt h1)).trans h1⟩
  · obtain ⟨c, t, h1⟩ := h.hk
    exact ⟨c, t, (hb.block _ (lt h1)).trans h1⟩
theorem none_any {w : World} {an ak : Addr} (hG : Glb w an ak) (s : ByteArray) : Calls Tryz.prog 49 #[.string s] w fun e w' => e = .returned (flV an s) ∧ w = w' := by
  have h0 := hG.n
  unfold erV at h0
  clear hG
  unfold flV erV
  go_enter Tryz.func49, Tryz.ntmps49
  go_wp2
  go_ret
  exact ⟨rfl, rfl⟩
theorem noKey_any {w : World} {an ak : Addr} (hG : Glb w an ak) (s : ByteArray) : Calls Tryz.prog 78 #[.string s] w fun e w' => e = .returned (flV ak s) ∧ w = w' := by
  have h0 := hG.k
  unfold erV at h0
  clear hG
  unfold flV erV
  go_enter Tryz.func78, Tryz.ntmps78
  go_wp2
  go_ret
  exact ⟨rfl, rfl⟩
theorem unwrap_any {w : World} (a : Addr) (s : ByteArray) : Calls Tryz.prog 186 #[.agg #[.string s, erV a]] w fun e w' => e = .returned (erV a) ∧ Below w.heap.size w w' := by
  unfold erV
  go_enter Tryz.func186, Tryz.ntmps186
  go_wp2
  go_ret
  exact ⟨rfl, al1 _⟩
end Go.Proofs.YtillkhjihggcjaaGreatDoor
/-
  Alg: errors.Is at the package's faults; told.
-/
namespace Go.Proofs.YtillkhjihggcjaaGreatDoor
open Go.RowKit Go.Extern.Stop Go.Stop Go.Extern
set_option maxRecDepth 20000
set_option maxHeartbeats 1000000 in
theorem is_same {w : World} (a : Addr) (s : ByteArray) : Calls Tryz.prog 73 #[flV a s, erV a, .bool true] w fun e w' => e = .returned (.bool true) ∧ Below w.heap.size w w' := by
  have HU : Hid (∀ W : World, Calls Tryz.prog 186 #[.agg #[.string s, .iface 236 (.pointer (some a))]] W fun e w' => e = .returned (.iface 236 (.pointer (some a))) ∧ Below W.heap.size W w') := fun W => unwrap_any a s
  obtain ⟨i, hi, hcmp⟩ := Option.map_eq_some_iff.1 Tryz.isComp
  obtain ⟨j, hj, hjs⟩ := Option.map_eq_some_iff.1 Tryz.isSize
  have nF := Tryz.noIsF
  have uF := Tryz.hasUnwrapF
  have mU := Tryz.methodUnwrap
  have heq := fun w => run_eql_iface_ptr_same (P := Tryz.prog) w a Tryz.underlying62 Tryz.underlying236 hi hcmp hj
  have hty := fun w => run_eql_iface_types (P := Tryz.prog) 129 236 (.agg #[.string s, .iface 236 (.pointer (some a))]) (.pointer (some a)) Tryz.underlying62 (by decide) w
  unfold flV erV
  go_enter Tryz.func73, Tryz.ntmps73
  go_wp2_with fail
  refine wp_loop_rounds 2 ?_
  rw [rounds_succ]
  go_wp2_with (go_at_call 186; refine (HU.out _).mono ?_; rintro e w1 ⟨rfl, hb⟩; have HB : Hid (Below w.heap.size w w1) := hb; clear hb)
  rw [rounds_succ]
  go_wp2
  go_ret
  exact ⟨rfl, HB.out⟩
set_option maxHeartbeats 1000000 in
theorem is_other {w : World} (a b : Addr) (s : ByteArray) (hne : a ≠ b) (ha : ∃ c t, w.heap[a.block]? = some (.cells c t (0, 0))) (hb : ∃ c t, w.heap[b.block]? = some (.cells c t (0, 0))) :
    Calls Tryz.prog 73 #[flV a s, erV b, .bool true] w fun e w' => e = .returned (.bool false) ∧ Below w.heap.size w w' := by
  have HU : Hid (∀ W : World, Calls Tryz.prog 186 #[.agg #[.string s, .iface 236 (.pointer (some a))]] W fun e w' => e = .returned (.iface 236 (.pointer (some a))) ∧ Below W.heap.size W w') := fun W => unwrap_any a s
  obtain ⟨i, hi, hcmp⟩ := Option.map_eq_some_iff.1 Tryz.isComp
  obtain ⟨j, hj, hjs⟩ := Option.map_eq_some_iff.1 Tryz.isSize
  have nF := Tryz.noIsF
  have uF := Tryz.hasUnwrapF
  have mU := Tryz.methodUnwrap
  have nE := Tryz.noIsE
  have uE := Tryz.noUnwrapE
  have vE := Tryz.noUnwrapsE
  have HQ : Hid (∀ W : World, Below w.heap.size w W → (binOp .eql 62 (.iface 236 (.pointer (some a))) (.iface 236 (.pointer (some b)))).run Tryz.prog W = .ok (.bool false) W) := by
    intro W hW
    obtain ⟨ca, ta, ha⟩ := ha
    obtain ⟨cb, tb, hb⟩ := hb
    exact run_eql_iface_ptr_other (P := Tryz.prog) W Tryz.underlying62 Tryz.underlying236 hi hcmp hj (by rw [hjs]; decide) hne ((hW.block _ (Array.getElem?_eq_some_iff.1 ha).1).trans ha) ((hW.block _ (Array.getElem?_eq_some_iff.1 hb).1).trans hb)
  have hty := fun w => run_eql_iface_types (P := Tryz.prog) 129 236 (.agg #[.string s, .iface 236 (.pointer (some a))]) (.pointer (some b)) Tryz.underlying62 (by decide) w
  clear ha hb hne
  unfold flV erV
  go_enter Tryz.func73, Tryz.ntmps73
  go_wp2_with fail
  refine wp_loop_rounds 2 ?_
  rw [rounds_succ]
  go_wp2_with (go_at_call 186; refine (HU.out _).mono ?_; rintro e w1 ⟨rfl, hb⟩; have HB : Hid (Below w.heap.size w w1) := hb; clear hb)
  have hq := HQ.out _ HB.out
  rw [rounds_succ]
  go_wp2
  go_ret
  exact ⟨rfl, HB.out⟩
set_option maxHeartbeats 1000000 in
theorem Is_any {w : World} (a b : Addr) (s : ByteArray) (r : Bool) (hi : Calls Tryz.prog 73 #[flV a s, erV b, .bool true] w fun e w' => e = .returned (.bool r) ∧ Below w.heap.size w w') :
    Calls Tryz.prog 50 #[flV a s, erV b] w fun e w' => e = .returned (.bool r) ∧ Below w.heap.size w w' := by
  have HI : Hid (Calls Tryz.prog 73 #[.iface 129 (.agg #[.string s, .iface 236 (.pointer (some a))]), .iface 236 (.pointer (some b)), .bool true] w fun e w' => e = .returned (.bool r) ∧ Below w.heap.size w w') := hi
  clear hi
  have h8 := @run_callFunc_extern Tryz.prog 72 _ Extern.ReflectliteType.typeOf Tryz.func72 (by kernel_rfl) (by kernel_rfl) (by kernel_rfl) (by kernel_rfl)
  have h32 := @run_callFunc_extern Tryz.prog 191 _ (Extern.ReflectliteType.method fun t => do Rtype.noPackHeld "Comparable" t; pure (.bool (← typeInfo t).comparable)) Tryz.func191 (by kernel_rfl) (by kernel_rfl) (by kernel_rfl) (by kernel_rfl)
  have tT := Tryz.isTypeOf
  have hC : ∀ w : World, (callFunc 191 #[.agg #[.pointer (some ⟨5, 236, none⟩)]]).run Tryz.prog w = .ok (.value (.bool true)) w := fun w => by rw [h32, Tryz.isComparable]; rfl
  clear h32
  have mR := Tryz.isMethodComparable
  have hq : ∀ (w : World) (u : TypeId) (v : Value), (binOp .eql 62 (.iface u v) .nilIface).run Tryz.prog w = .ok (.bool false) w := fun _ _ _ => by rfl
  unfold flV erV
  go_enter Tryz.func50, Tryz.ntmps50
  go_wp2_with (go_at_call 73; refine HI.out.mono ?_; rintro e w1 ⟨rfl, hb⟩; have HB : Hid (Below w.heap.size w w1) := hb; clear hb)
  go_ret
  exact ⟨rfl, HB.out⟩
theorem told0 {w : World} : Calls Tryz.prog 22 #[.nilIface] w fun e w' => e = .returned (.int .i64 0) ∧ w = w' := by
  go_enter Tryz.func22, Tryz.ntmps22
  go_wp2
  go_ret
  exact ⟨rfl, rfl⟩
set_option maxHeartbeats 1000000 in
theorem toldN {w : World} {an ak : Addr} (hG : Glb w an ak) (s : ByteArray) : Calls Tryz.prog 22 #[flV an s] w fun e w' => e = .returned (.int .i64 110) ∧ Below w.heap.size w w' := by
  have HI : Hid (Calls Tryz.prog 50 #[.iface 129 (.agg #[.string s, .iface 236 (.pointer (some an))]), .iface 236 (.pointer (some an))] w fun e w' => e = .returned (.bool true) ∧ Below w.heap.size w w') := Is_any an an s true (is_same an s)
  have h0 := hG.n
  unfold erV at h0
  have hq : ∀ (w : World) (u : TypeId) (v : Value), (binOp .eql 62 (.iface u v) .nilIface).run Tryz.prog w = .ok (.bool false) w := fun _ _ _ => by rfl
  clear hG
  unfold flV erV
  go_enter Tryz.func22, Tryz.ntmps22
  go_wp2_with (go_at_call 50; refine HI.out.mono ?_; rintro e w1 ⟨rfl, hb⟩; have HB : Hid (Below w.heap.size w w1) := hb; clear hb)
  go_ret
  exact ⟨rfl, HB.out⟩
set_option maxHeartbeats 1000000 in
theorem toldK {w : World} {an ak : Addr} (hG : Glb w an ak) (s : ByteArray) : Calls Tryz.prog 22 #[flV ak s] w fun e w' => e = .returned (.int .i64 80) ∧ Below w.heap.size w w' := by
  have HI : Hid (Calls Tryz.prog 50 #[.iface 129 (.agg #[.string s, .iface 236 (.pointer (some ak))]), .iface 236 (.pointer (some an))] w fun e w' => e = .returned (.bool false) ∧ Below w.heap.size w w') := Is_any ak an s false (is_other ak an s hG.ne hG.hk hG.hn)
  have h0 := hG.n
  unfold erV at h0
  have hq : ∀ (w : World) (u : TypeId) (v : Value), (binOp .eql 62 (.iface u v) .nilIface).run Tryz.prog w = .ok (.bool false) w := fun _ _ _ => by rfl
  clear hG
  unfold flV erV
  go_enter Tryz.func22, Tryz.ntmps22
  go_wp2_with (go_at_call 50; refine HI.out.mono ?_; rintro e w1 ⟨rfl, hb⟩; have HB : Hid (Below w.heap.size w w1) := hb; clear hb)
  go_ret
  exact ⟨rfl, HB.out⟩
end Go.Proofs.YtillkhjihggcjaaGreatDoor
