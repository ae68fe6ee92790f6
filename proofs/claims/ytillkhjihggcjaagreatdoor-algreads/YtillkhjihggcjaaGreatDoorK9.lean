/-
  Alg: errors.Is at the package's faults; told.
-/
import Derived.BigRegion
import Derived.Test.YtillkhjihggcjaaGreatDoorK8
namespace Go.Proofs.YtillkhjihggcjaaGreatDoor
open Go.RowKit Go.Extern.Stop Go.Stop Go.Extern
set_option maxRecDepth 20000
set_option maxHeartbeats 1000000 in
theorem is_same {w : World} (a : Addr) (s : ByteArray) : Calls Tryz.prog 73 #[flV a s, erV a, .bool true] w fun e w' => e = .returned (.bool true) ∧ Below w.heap.size w w' := by
  have HU : Hid (∀ W : World, Calls Tryz.prog 186 #[.agg #[.string s, .iface 236 (.pointer (some a))]] W fun e w' => e = .returned (.iface 236 (.pointer (some a))) ∧ Below W.heap.size W w') := fun W => unwrap_any a s
  obtain ⟨i, hi, hcmp⟩ := Option.map_eq_some_iff.1 Tryz.isComp
  obtain ⟨j, hj, hjs⟩ := Option.map_eq_some_iff.1 Tryz.isSize
  have nF := Tryz.noIsF
  have uF := Tryz.hasUnwrapF
  have mU := Tryz.methodUnwrap
  have heq := fun w => run_eql_iface_ptr_same (P := Tryz.prog) w a Tryz.underlying62 Tryz.underlying236 hi hcmp hj
  have hty := fun w => run_eql_iface_types (P := Tryz.prog) 129 236 (.agg #[.string s, .iface 236 (.pointer (some a))]) (.pointer (some a)) Tryz.underlying62 (by decide) w
  unfold flV erV
  go_enter Tryz.func73, Tryz.ntmps73
  go_wp2_with fail
  refine wp_loop_rounds 2 ?_
  rw [rounds_succ]
  go_wp2_with (go_at_call 186; refine (HU.out _).mono ?_; rintro e w1 ⟨rfl, hb⟩; have HB : Hid (Below w.heap.size w w1) := hb; clear hb)
  rw [rounds_succ]
  go_wp2
  go_ret
  exact ⟨rfl, HB.out⟩
set_option maxHeartbeats 1000000 in
theorem is_other {w : World} (a b : Addr) (s : ByteArray) (hne : a ≠ b) (ha : ∃ c t, w.heap[a.block]? = some (.cells c t (0, 0))) (hb : ∃ c t, w.heap[b.block]? = some (.cells c t (0, 0))) :
    Calls Tryz.prog 73 #[flV a s, erV b, .bool true] w fun e w' => e = .returned (.bool false) ∧ Below w.heap.size w w' := by
  have HU : Hid (∀ W : World, Calls Tryz.prog 186 #[.agg #[.string s, .iface 236 (.pointer (some a))]] W fun e w' => e = .returned (.iface 236 (.pointer (some a))) ∧ Below W.heap.size W w') := fun W => unwrap_any a s
  obtain ⟨i, hi, hcmp⟩ := Option.map_eq_some_iff.1 Tryz.isComp
  obtain ⟨j, hj, hjs⟩ := Option.map_eq_some_iff.1 Tryz.isSize
  have nF := Tryz.noIsF
  have uF := Tryz.hasUnwrapF
  have mU := Tryz.methodUnwrap
  have nE := Tryz.noIsE
  have uE := Tryz.noUnwrapE
  have vE := Tryz.noUnwrapsE
  have HQ : Hid (∀ W : World, Below w.heap.size w W → (binOp .eql 62 (.iface 236 (.pointer (some a))) (.iface 236 (.pointer (some b)))).run Tryz.prog W = .ok (.bool false) W) := by
    intro W hW
    obtain ⟨ca, ta, ha⟩ := ha
    obtain ⟨cb, tb, hb⟩ := hb
    exact run_eql_iface_ptr_other (P := Tryz.prog) W Tryz.underlying62 Tryz.underlying236 hi hcmp hj (by rw [hjs]; decide) hne ((hW.block _ (Array.getElem?_eq_some_iff.1 ha).1).trans ha) ((hW.block _ (Array.getElem?_eq_some_iff.1 hb).1).trans hb)
  have hty := fun w => run_eql_iface_types (P := Tryz.prog) 129 236 (.agg #[.string s, .iface 236 (.pointer (some a))]) (.pointer (some b)) Tryz.underlying62 (by decide) w
  clear ha hb hne
  unfold flV erV
  go_enter Tryz.func73, Tryz.ntmps73
  go_wp2_with fail
  refine wp_loop_rounds 2 ?_
  rw [rounds_succ]
  go_wp2_with (go_at_call 186; refine (HU.out _).mono ?_; rintro e w1 ⟨rfl, hb⟩; have HB : Hid (Below w.heap.size w w1) := hb; clear hb)
  have hq := HQ.out _ HB.out
  rw [rounds_succ]
  go_wp2
  go_ret
  exact ⟨rfl, HB.out⟩
set_option maxHeartbeats 1000000 in
theorem Is_any {w : World} (a b : Addr) (s : ByteArray) (r : Bool) (hi : Calls Tryz.prog 73 #[flV a s, erV b, .bool true] w fun e w' => e = .returned (.bool r) ∧ Below w.heap.size w w') :
    Calls Tryz.prog 50 #[flV a s, erV b] w fun e w' => e = .returned (.bool r) ∧ Below w.heap.size w w' := by
  have HI : Hid (Calls Tryz.prog 73 #[.iface 129 (.agg #[.string s, .iface 236 (.pointer (some a))]), .iface 236 (.pointer (some b)), .bool true] w fun e w' => e = .returned (.bool r) ∧ Below w.heap.size w w') := hi
  clear hi
  have h8 := @run_callFunc_extern Tryz.prog 72 _ Extern.ReflectliteType.typeOf Tryz.func72 (by kernel_rfl) (by kernel_rfl) (by kernel_rfl) (by kernel_rfl)
  have h32 := @run_callFunc_extern Tryz.prog 191 _ (Extern.ReflectliteType.method fun t => do Rtype.noPackHeld "Comparable" t; pure (.bool (← typeInfo t).comparable)) Tryz.func191 (by kernel_rfl) (by kernel_rfl) (by kernel_rfl) (by kernel_rfl)
  have tT := Tryz.isTypeOf
  have hC : ∀ w : World, (callFunc 191 #[.agg #[.pointer (some ⟨5, 236, none⟩)]]).run Tryz.prog w = .ok (.value (.bool true)) w := fun w => by rw [h32, Tryz.isComparable]; rfl
  clear h32
  have mR := Tryz.isMethodComparable
  have hq : ∀ (w : World) (u : TypeId) (v : Value), (binOp .eql 62 (.iface u v) .nilIface).run Tryz.prog w = .ok (.bool false) w := fun _ _ _ => by rfl
  unfold flV erV
  go_enter Tryz.func50, Tryz.ntmps50
  go_wp2_with (go_at_call 73; refine HI.out.mono ?_; rintro e w1 ⟨rfl, hb⟩; have HB : Hid (Below w.heap.size w w1) := hb; clear hb)
  go_ret
  exact ⟨rfl, HB.out⟩
theorem told0 {w : World} : Calls Tryz.prog 22 #[.nilIface] w fun e w' => e = .returned (.int .i64 0) ∧ w = w' := by
  go_enter Tryz.func22, Tryz.ntmps22
  go_wp2
  go_ret
  exact ⟨rfl, rfl⟩
set_option maxHeartbeats 1000000 in
theorem toldN {w : World} {an ak : Addr} (hG : Glb w an ak) (s : ByteArray) : Calls Tryz.prog 22 #[flV an s] w fun e w' => e = .returned (.int .i64 110) ∧ Below w.heap.size w w' := by
  have HI : Hid (Calls Tryz.prog 50 #[.iface 129 (.agg #[.string s, .iface 236 (.pointer (some an))]), .iface 236 (.pointer (some an))] w fun e w' => e = .returned (.bool true) ∧ Below w.heap.size w w') := Is_any an an s true (is_same an s)
  have h0 := hG.n
  unfold erV at h0
  have hq : ∀ (w : World) (u : TypeId) (v : Value), (binOp .eql 62 (.iface u v) .nilIface).run Tryz.prog w = .ok (.bool false) w := fun _ _ _ => by rfl
  clear hG
  unfold flV erV
  go_enter Tryz.func22, Tryz.ntmps22
  go_wp2_with (go_at_call 50; refine HI.out.mono ?_; rintro e w1 ⟨rfl, hb⟩; have HB : Hid (Below w.heap.size w w1) := hb; clear hb)
  go_ret
  exact ⟨rfl, HB.out⟩
set_option maxHeartbeats 1000000 in
theorem toldK {w : World} {an ak : Addr} (hG : Glb w an ak) (s : ByteArray) : Calls Tryz.prog 22 #[flV ak s] w fun e w' => e = .returned (.int .i64 80) ∧ Below w.heap.size w w' := by
  have HI : Hid (Calls Tryz.prog 50 #[.iface 129 (.agg #[.string s, .iface 236 (.pointer (some ak))]), .iface 236 (.pointer (some an))] w fun e w' => e = .returned (.bool false) ∧ Below w.heap.size w w') := Is_any ak an s false (is_other ak an s hG.ne hG.hk hG.hn)
  have h0 := hG.n
  unfold erV at h0
  have hq : ∀ (w : World) (u : TypeId) (v : Value), (binOp .eql 62 (.iface u v) .nilIface).run Tryz.prog w = .ok (.bool false) w := fun _ _ _ => by rfl
  clear hG
  unfold flV erV
  go_enter Tryz.func22, Tryz.ntmps22
  go_wp2_with (go_at_call 50; refine HI.out.mono ?_; rintro e w1 ⟨rfl, hb⟩; have HB : Hid (Below w.heap.size w w1) := hb; clear hb)
  go_ret
  exact ⟨rfl, HB.out⟩
end Go.Proofs.YtillkhjihggcjaaGreatDoor
/-
  Der: rows of elements that are read.
-/
namespace Go.Proofs.YtillkhjihggcjaaGreatDoor
open Go.RowKit
/-- A slice of elements that can be read; the slice itself is the call's own. -/
def TlvR (B : Nat) (w : World) (v : Value) (L : List El) : Prop :=
  ∃ Y : List Tc, Y.map (·.1) = L ∧ MRow 5 24 B w v Y.length (tlvCells Y) ∧ ∀ y ∈ Y, Rw .u8 5 B w y.2.1 y.1.d ∧ Rw .u8 5 B w y.2.2 y.1.r
theorem TlvR.nil (B : Nat) (w : World) : TlvR B w (.slice none 0 0) [] := ⟨[], rfl, MRow.nil _ _ _ _, by simp⟩
theorem TlvR.below {B : Nat} {w w' : World} {v : Value} {L : List El} (h : TlvR B w v L) (hb : Below w.heap.size w w') : TlvR B w' v L := by
  obtain ⟨Y, h1, h2, h3⟩ := h
  exact ⟨Y, h1, h2.below hb, fun y hy => ⟨(h3 y hy).1.below hb, (h3 y hy).2.below hb⟩⟩
theorem TlvR.mono {B B' : Nat} {w : World} {v : Value} {L : List El} (h : TlvR B w v L) (hb : B' ≤ B) : TlvR B' w v L := by
  obtain ⟨Y, h1, h2, h3⟩ := h
  exact ⟨Y, h1, h2.mono hb, fun y hy => ⟨(h3 y hy).1.mono hb, (h3 y hy).2.mono hb⟩⟩
theorem Tlvs.r {B : Nat} {w : World} {v : Value} {L : List El} (h : Tlvs B w v L) : TlvR B w v L := by
  obtain ⟨Y, h1, h2, h3, _⟩ := h
  exact ⟨Y, h1, h2, fun y hy => ⟨.inl (h3 y hy).1, .inl (h3 y hy).2⟩⟩
theorem Rw.mgrew {B : Nat} {w w' : World} {v u : Value} {xs : List Int} (h : Rw .u8 5 B w v xs) (hg : MGrew 24 w w' u) : Rw .u8 5 B w' v xs := by
  rcases h with h | h
  · exact .inl (h.mgrew hg)
  · exact .inr h
end Go.Proofs.YtillkhjihggcjaaGreatDoor
/-
  Der: the same rows of elements.
-/
namespace Go.Proofs.YtillkhjihggcjaaGreatDoor
open Go.RowKit
theorem tlvCells_get : ∀ (Y : List Tc) (i q : Nat), q < 5 → (tlvCells Y)[i * 5 + q]? = (Y[i]?).bind fun y => (cell5 y)[q]?
  | [], i, q, _ => by simp [tlvCells]
  | y :: Y, 0, q, hq => by
    have hl : (cell5 y).length = 5 := rfl
    simp only [tlvCells, List.flatMap_cons, Nat.zero_mul, Nat.zero_add, List.getElem?_cons_zero, Option.bind_some]
    rw [List.getElem?_append_left (by omega)]
  | y :: Y, i + 1, q, hq => by
    have hl : (cell5 y).length = 5 := rfl
    have := tlvCells_get Y i q hq
    simp only [tlvCells, List.flatMap_cons, List.getElem?_cons_succ] at this ⊢
    rw [List.getElem?_append_right (by omega), hl, show (i + 1) * 5 + q - 5 = i * 5 + q by omega, this]
/-- A slice that reads elements, with the values by name. -/
def TlvS (w : World) (v : Value) (L : List El) : Prop :=
  ∃ a c Y, v = .slice a L.length c ∧ L.length ≤ c ∧ Y.map (·.1) = L ∧ (L = [] ∨ ∃ b off, a = some ⟨b, off, none⟩ ∧ b < w.heap.size ∧ ∀ i, i < L.length * 5 → w.cell? ⟨b, off + i, none⟩ = (tlvCells Y)[i]?) ∧ ∀ y ∈ Y, Sl .u8 w y.2.1 y.1.d ∧ Sl .u8 w y.2.2 y.1.r
theorem TlvR.s {B : Nat} {w : World} {v : Value} {L : List El} (h : TlvR B w v L) : TlvS w v L := by
  obtain ⟨Y, h1, h2, h3⟩ := h
  have hl : Y.length = L.length := by rw [← h1, List.length_map]
  rw [hl] at h2
  obtain ⟨h0, h2⟩ := h2
  rcases h2 with ⟨rfl, h2⟩ | ⟨b, S, c, rfl, hB, hA, hS, hc, ht, hm⟩
  · have : L = [] := List.eq_nil_of_length_eq_zero h2
    subst this
    exact ⟨none, 0, Y, rfl, Nat.le_refl _, h1, .inl rfl, fun y hy => ⟨(h3 y hy).1.sl, (h3 y hy).2.sl⟩⟩
  · refine ⟨_, _, Y, rfl, hc, h1, .inr ⟨b, 0, rfl, hA.lt, fun i hi => ?_⟩, fun y hy => ⟨(h3 y hy).1.sl, (h3 y hy).2.sl⟩⟩
    rw [Nat.zero_add, hA.cell i, ← ht, List.getElem?_take, if_pos hi]
theorem TlvS.below {w w' : World} {v : Value} {L : List El} (h : TlvS w v L) (hb : Below w.heap.size w w') : TlvS w' v L := by
  obtain ⟨a, c, Y, rfl, h1, h2, h3, h4⟩ := h
  refine ⟨a, c, Y, rfl, h1, h2, ?_, fun y hy => ⟨below_sl hb (h4 y hy).1, below_sl hb (h4 y hy).2⟩⟩
  rcases h3 with h3 | ⟨b, off, rfl, hbl, hr⟩
  · exact .inl h3
  · exact .inr ⟨b, off, rfl, Nat.lt_of_lt_of_le hbl hb.size, fun i hi => (hb.cell (p := ⟨b, off + i, none⟩) hbl).trans (hr i hi)⟩
/-- The five cells of element i. -/
theorem cells_at {w : World} {b off : Nat} {Y : List Tc} {n i : Nat} (hr : ∀ i, i < n * 5 → w.cell? ⟨b, off + i, none⟩ = (tlvCells Y)[i]?) (hi : i < n) (y : Tc) (hy : Y[i]? = some y) (q : Nat) (hq : q < 5) (u : Value) (hu : (cell5 y)[q]? = some u) :
    w.cell? ⟨b, off + i * 5 + q, none⟩ = some u := by
  have h := hr (i * 5 + q) (by omega)
  rw [tlvCells_get Y i q hq, hy, Option.bind_some, hu] at h
  rw [← h]; congr 2; omega
theorem al_d {a w : World} {o : Obj} (h : Below a.heap.size a w.drew) : Below a.heap.size a (w.alloc o).drew := by
  have h1 : Below a.heap.size a w := h.trans ⟨rfl, rfl, rfl, Nat.le_refl _, fun _ _ => rfl⟩
  exact (al2' h1).drew
theorem al_dd {a : World} {o o' : Obj} : Below a.heap.size a ((a.alloc o).alloc o').drew := (al2' (al1 o)).drew
end Go.Proofs.YtillkhjihggcjaaGreatDoor
/-
  Der: the reference's tag and length.
-/
namespace Go.Proofs.YtillkhjihggcjaaGreatDoor
open Go.RowKit
def Rs.i : Rs → Nat
  | .inl (_, _) => 0
  | .inr (_, i) => i
def Rs.a : Rs → Nat
  | .inl (_, a) => a
  | .inr (_, _) => 0
theorem results_tmp4 {fn : Func} {t u v x : Tmp} (h : fn.results = #[.tmp t, .tmp u, .tmp v, .tmp x]) (tmps : Array Value) (P : Program) (w : World) :
    (results fn tmps).run P w = .ok (.tuple #[tmps.getD t undef, tmps.getD u undef, tmps.getD v undef, tmps.getD x undef]) w := by
  simp [results, h]
def RsVal (O : Rs) : Value := .tuple #[.int .i64 O.v, .int .i64 O.i, .int .i64 O.e, .int .i64 O.a]
set_option maxRecDepth 20000 in
set_option maxHeartbeats 4000000 in
theorem Rtag_any {w : World} (b off n c p : Nat) (M : List Int) (hM : Rd .u8 w b off M) (uM : U8s M) (hMl : M.length = n) (hn : n ≤ 16777216) (hp : p < n) :
    Calls Tryz.prog 67 #[.slice (some ⟨b, off, none⟩) n c, .int .i64 p] w fun e w' => e = .returned (RsVal (tagS M p)) ∧ w = w' := by
  obtain ⟨x, hx⟩ : ∃ x, M.getD p 0 = x := ⟨_, rfl⟩
  have hu8 := uM.at p
  rw [hx] at hu8
  obtain ⟨O, hO⟩ : ∃ O, tagS M p = O := ⟨_, rfl⟩
  have HX : Hid (Rd .u8 w b off M ∧ U8s M ∧ M.length = n ∧ M.getD p 0 = x ∧ U8 x ∧ tagS M p = O) := ⟨hM, uM, hMl, hx, hu8, hO⟩
  have cx : w.cell? ⟨b, off + p, none⟩ = some (.int .u8 x) := by rw [hM p (by omega), hx]
  have x0 := hu8.1
  have x1 := hu8.2
  rw [hO]
  clear hM uM hMl hx hu8 hO
  have hpI : (p : Int) < (n : Int) := by omega
  have hnI : (n : Int) ≤ 16777216 := by omega
  obtain ⟨r, hr⟩ : ∃ r, x % 32 = r := ⟨_, rfl⟩
  have HR : Hid (x % 32 = r) := hr
  have r0 : 0 ≤ r := by omega
  have r1 : r ≤ 31 := by omega
  by_cases q1 : r = 31
  · subst q1
    have HO : Hid (lng M (p + 1) 0 = O) := by show _ = _; rw [← HX.out.2.2.2.2.2]; unfold tagS; rw [HX.out.2.2.2.1, if_pos hr]
    go_enter Tryz.func67, Tryz.ntmps67
    go_wp2_with fail
    go_loopw [8, 9] (fun nv iv wr => ∃ (i : Nat) (t : Int), nv = .int .i64 t ∧ iv = .int .i64 i ∧ p + 1 ≤ i ∧ i ≤ n ∧ 0 ≤ t ∧ t ≤ 268435455 ∧ (i = p + 1 → t = 0) ∧ (p + 1 < i → 1 ≤ t) ∧ lng M i t = O ∧ w = wr) (fun _ iv _ => n - (intOf iv).toNat)
    case atStart => exact ⟨p + 1, 0, rfl, by go_num, by omega, by omega, by decide, by decide, fun _ => rfl, by omega, HO.out, rfl⟩
    case round =>
      obtain ⟨i, t, rfl, rfl, hi1, hi, t0, t1, ht0, ht1, hl, rfl⟩ := hrel
      have H1 : Hid ((i = p + 1 → t = 0) ∧ (p + 1 < i → 1 ≤ t) ∧ lng M i t = O) := ⟨ht0, ht1, hl⟩
      clear ht0 ht1 hl cx
      by_cases hlt : i < n
      · have l1 : (i : Int) < (n : Int) := by omega
        obtain ⟨y, hy⟩ : ∃ y, M.getD i 0 = y := ⟨_, rfl⟩
        have hyu := HX.out.2.1.at i
        rw [hy] at hyu
        have y0 := hyu.1
        have y1 := hyu.2
        have cy : w.cell? ⟨b, off + i, none⟩ = some (.int .u8 y) := by rw [HX.out.1 i (by have := HX.out.2.2.1; omega), hy]
        obtain ⟨z, hz⟩ : ∃ z, y % 128 = z := ⟨_, rfl⟩
        obtain ⟨t', ht'⟩ : ∃ t', t * 128 + z = t' := ⟨_, rfl⟩
        have HS : Hid (O = if t' = 0 ∨ 268435455 < t' ∨ (y < 128 ∧ t' < 31) then .inl (30, i) else if y < 128 then .inr (t', (i + 1)) else lng M (i + 1) t') := by
          show _ = _
          rw [← H1.out.2.2]
          exact lng_step (by have := HX.out.2.2.1; omega) hy (by omega)
        have HZ : Hid (y % 128 = z ∧ t * 128 + z = t') := ⟨hz, ht'⟩
        have z0 : 0 ≤ z := by omega
        have z1 : z ≤ 127 := by omega
        have t20 : 0 ≤ t' := by omega
        have t21 : t' ≤ 34359738367 := by omega
        have HT : Hid (i ≠ p + 1 ∨ y ≠ 128 → y ≥ 128 → 1 ≤ t') := by
          intro h1 h2
          by_cases h3 : i = p + 1
          · have := H1.out.1 h3; omega
          · have := H1.out.2.1 (by omega); omega
        have HZ0 : Hid (t' = 0 → i = p + 1 ∧ (y = 128 ∨ y < 128)) := by
          intro h0
          by_cases h3 : i = p + 1
          · have := H1.out.1 h3; exact ⟨h3, by omega⟩
          · have := H1.out.2.1 (by omega); omega
        clear hy hyu
        by_cases q2 : 268435455 < t'
        · go_wp2
          (try simp only [Exit.inBlock, Exit.then]); refine bodyPost_ret (results_tmp4 rfl _ _ _) rfl ?_
          rw [HS.out, if_pos (by omega)]
          exact ⟨rfl, rfl⟩
        by_cases q3 : i = p + 1 ∧ y = 128
        · obtain ⟨q3, q3y⟩ := q3
          have q3yb : (y == 128) = true := by simpa using q3y
          have HY : Hid (y = 128) := q3y
          clear q3y
          have q3I : ((i : Int) == (p : Int) + 1) = true := by simp; omega
          have ht0 : t' = 0 := by have := H1.out.1 q3; have := HZ.out; have := HY.out; omega
          have HT0 : Hid (t' = 0) := ht0
          clear ht0 q3
          go_wp2
          (try simp only [Exit.inBlock, Exit.then]); refine bodyPost_ret (results_tmp4 rfl _ _ _) rfl ?_
          rw [HS.out, if_pos (.inl HT0.out)]
          exact ⟨rfl, rfl⟩
        have q3b : ((i : Int) == (p : Int) + 1) = false ∨ (((i : Int) == (p : Int) + 1) = true ∧ (y == 128) = false) := by
          by_cases h3 : i = p + 1
          · right; refine ⟨by simp; omega, ?_⟩; simp; omega
          · left; simp; omega
        rcases q3b with q3b | ⟨q3I, q3b⟩
        all_goals
          by_cases q4 : y < 128
          · by_cases q5 : t' < 31
            · go_wp2
              (try simp only [Exit.inBlock, Exit.then]); refine bodyPost_ret (results_tmp4 rfl _ _ _) rfl ?_
              rw [HS.out, if_pos (by omega)]
              exact ⟨rfl, rfl⟩
            · go_wp2
              (try simp only [Exit.inBlock, Exit.then]); refine bodyPost_ret (results_tmp4 rfl _ _ _) rfl ?_
              rw [HS.out, if_neg (by omega), if_pos q4]
              exact ⟨rfl, rfl⟩
          · go_wp2
            go_roundw
            case rel =>
              have h1 : 1 ≤ t' := HT.out (by omega) (by omega)
              refine ⟨i + 1, t', rfl, by go_num, by omega, by omega, t20, by omega, by omega, fun _ => h1, ?_, trivial⟩
              have h2 := HS.out
              rw [if_neg (by omega), if_neg (by omega)] at h2
              exact h2.symm
            case measure => simp [intOf]; omega
      · obtain rfl : i = n := by omega
        have l1 : ¬ (i : Int) < (i : Int) := by omega
        go_wp2
        (try simp only [Exit.inBlock, Exit.then]); refine bodyPost_ret (results_tmp4 rfl _ _ _) rfl ?_
        have h1 := H1.out.2.2
        rw [lng_end (by have := HX.out.2.2.1; omega), HX.out.2.2.1] at h1
        subst h1
        exact ⟨rfl, rfl⟩
  have q1b : (r != 31) = true := by simpa using q1
  by_cases q2 : r = 0 ∧ x < 64
  · obtain ⟨rfl, q2⟩ := q2
    have HO : Hid (O = .inl (30, p)) := by show _ = _; rw [← HX.out.2.2.2.2.2]; unfold tagS; rw [HX.out.2.2.2.1, hr, if_neg (by omega), if_pos ⟨rfl, q2⟩]
    go_enter Tryz.func67, Tryz.ntmps67
    go_wp2
    (try simp only [Exit.inBlock, Exit.then]); refine bodyPost_ret (results_tmp4 rfl _ _ _) rfl ?_
    rw [HO.out]
    exact ⟨rfl, rfl⟩
  · have HO : Hid (O = .inr (r, (p + 1))) := by show _ = _; rw [← HX.out.2.2.2.2.2]; unfold tagS; rw [HX.out.2.2.2.1, hr, if_neg q1, if_neg q2]
    have q2b : (r == 0) = false ∨ ((r == 0) = true ∧ ¬ x < 64) := by
      by_cases h0 : r = 0
      · right; exact ⟨by simpa using h0, by omega⟩
      · left; simpa using h0
    rcases q2b with q2b | ⟨q2b, q2c⟩
    all_goals
      go_enter Tryz.func67, Tryz.ntmps67
      go_wp2
      (try simp only [Exit.inBlock, Exit.then]); refine bodyPost_ret (results_tmp4 rfl _ _ _) rfl ?_
      rw [HO.out]
      exact ⟨rfl, rfl⟩
end Go.Proofs.YtillkhjihggcjaaGreatDoor
/-
  Der: the reference's length.
-/
namespace Go.Proofs.YtillkhjihggcjaaGreatDoor
open Go.RowKit
set_option maxRecDepth 20000 in
set_option maxHeartbeats 4000000 in
theorem Rlength_any {w : World} (b off n c p : Nat) (M : List Int) (hM : Rd .u8 w b off M) (uM : U8s M) (hMl : M.length = n) (hn : n ≤ 16777216) (hp : p ≤ n) :
    Calls Tryz.prog 68 #[.slice (some ⟨b, off, none⟩) n c, .int .i64 p] w fun e w' => e = .returned (RsVal (lenS M p)) ∧ w = w' := by
  obtain ⟨O, hO⟩ : ∃ O, lenS M p = O := ⟨_, rfl⟩
  have HX : Hid (Rd .u8 w b off M ∧ U8s M ∧ M.length = n ∧ lenS M p = O) := ⟨hM, uM, hMl, hO⟩
  rw [hO]
  clear hM uM hMl hO
  have hnI : (n : Int) ≤ 16777216 := by omega
  by_cases hlt : p < n
  · obtain ⟨x, hx⟩ : ∃ x, M.getD p 0 = x := ⟨_, rfl⟩
    have hu8 := HX.out.2.1.at p
    rw [hx] at hu8
    have x0 := hu8.1
    have x1 := hu8.2
    have HXx : Hid (M.getD p 0 = x) := hx
    have cx : w.cell? ⟨b, off + p, none⟩ = some (.int .u8 x) := by rw [HX.out.1 p (by have := HX.out.2.2.1; omega), hx]
    clear hx hu8
    have hpI : (p : Int) < (n : Int) := by omega
    by_cases q1 : x = 128 ∨ x = 255
    · have HE : Hid (O = .inl (31, p)) := by show _ = _; rw [← HX.out.2.2.2]; exact lenS_128 (by have := HX.out.2.2.1; omega) HXx.out q1
      rcases q1 with rfl | rfl
      all_goals
        go_enter Tryz.func68, Tryz.ntmps68
        go_wp2
        (try simp only [Exit.inBlock, Exit.then]); refine bodyPost_ret (results_tmp4 rfl _ _ _) rfl ?_
        rw [HE.out]
        exact ⟨rfl, rfl⟩
    have n1 : (x == 128) = false := by simp; omega
    have n2 : (x == 255) = false := by simp; omega
    by_cases q2 : x < 128
    · have HE : Hid (O = if (n : Int) < p + 1 + x then .inl (31, p) else .inr (x, (p + 1))) := by
        show _ = _
        have h1 := lenS_lo (by have := HX.out.2.2.1; omega) HXx.out q2
        rw [HX.out.2.2.2, HX.out.2.2.1] at h1
        exact h1
      have n3 : ¬ 128 < x := by omega
      by_cases q3 : (n : Int) - ((p : Int) + 1) < x
      · go_enter Tryz.func68, Tryz.ntmps68
        go_wp2
        (try simp only [Exit.inBlock, Exit.then]); refine bodyPost_ret (results_tmp4 rfl _ _ _) rfl ?_
        rw [HE.out, if_pos (by omega)]
        exact ⟨rfl, rfl⟩
      · go_enter Tryz.func68, Tryz.ntmps68
        go_wp2
        (try simp only [Exit.inBlock, Exit.then]); refine bodyPost_ret (results_tmp4 rfl _ _ _) rfl ?_
        rw [HE.out, if_neg (by omega)]
        exact ⟨rfl, rfl⟩
    · obtain ⟨k, hk⟩ : ∃ k : Nat, x - 128 = k := ⟨(x - 128).toNat, by omega⟩
      have k1 : 0 < k := by omega
      have k2 : k ≤ 127 := by omega
      have k3 : 128 < x := by omega
      have k4 : x < 255 := by omega
      obtain ⟨p1, hp1⟩ : ∃ p1, p + 1 = p1 := ⟨_, rfl⟩
      have p1I : (p : Int) + 1 = (p1 : Int) := by omega
      obtain ⟨F, hF⟩ : ∃ F, fold8 M p1 k = F := ⟨_, rfl⟩
      obtain ⟨D, hD⟩ : ∃ D : Bool, decide (M.getD p1 0 ≠ 0 ∧ 128 ≤ F) = D := ⟨_, rfl⟩
      have HE : Hid (O = if n < p1 + k then .inl (2, n) else if D = false then .inl (31, p) else if (n : Int) - (p1 + k : Nat) < F then .inl (31, p) else .inr (F, (p1 + k))) := by
        show _ = _
        have h1 := lenS_hi (F := F) (D := D) (by have := HX.out.2.2.1; omega) HXx.out k3 k4 hk (by rw [hp1]; exact hF) (by rw [hp1]; exact hD)
        rw [HX.out.2.2.2, HX.out.2.2.1, hp1] at h1
        exact h1
      have hFb := fold8_bd HX.out.2.1 p1 k
      rw [hF] at hFb
      obtain ⟨F0, F1⟩ := hFb
      have HFD : Hid (fold8 M p1 k = F ∧ decide (M.getD p1 0 ≠ 0 ∧ 128 ≤ F) = D ∧ p + 1 = p1) := ⟨hF, hD, hp1⟩
      clear hF hD
      obtain ⟨p2, hp2⟩ : ∃ p2, p1 + k = p2 := ⟨_, rfl⟩
      have p2I : (p1 : Int) + (k : Int) = (p2 : Int) := by omega
      have HP2 : Hid (p1 + k = p2) := hp2
      by_cases q3 : n < p2
      · have q3I : (n : Int) < (p2 : Int) := by omega
        clear hp1 hp2
        go_enter Tryz.func68, Tryz.ntmps68
        go_wp2
        (try simp only [Exit.inBlock, Exit.then]); refine bodyPost_ret (results_tmp4 rfl _ _ _) rfl ?_
        rw [HE.out, HP2.out, if_pos q3]
        exact ⟨rfl, rfl⟩
      have q3I : ¬ (n : Int) < (p2 : Int) := by omega
      have pkI : (p : Int) + (k : Int) = (p2 : Int) - 1 := by omega
      have hp2n : (p2 : Int) ≤ 16777216 := by omega
      go_enter Tryz.func68, Tryz.ntmps68
      go_wp2_with fail
      go_loopw [8, 11] (fun nv iv wr => ∃ (m i : Nat) (t : Int), nv = .int .i64 t ∧ iv = .int .i64 i ∧ m ≤ k ∧ i = p1 + m ∧ 0 ≤ t ∧ t ≤ 16777217 ∧ fold8 M p1 m = t ∧ w = wr) (fun _ iv _ => p2 - (intOf iv).toNat)
      case atStart => exact ⟨0, p1, 0, rfl, rfl, by omega, rfl, by decide, by decide, rfl, rfl⟩
      case round =>
        obtain ⟨m, i, t, rfl, rfl, hm, him, t0, t1, hl, rfl⟩ := hrel
        have H1 : Hid (fold8 M p1 m = t ∧ i = p1 + m) := ⟨hl, him⟩
        clear hl
        by_cases hlt2 : m < k
        · have l1 : (i : Int) ≤ (p2 : Int) - 1 := by omega
          have l2 : (i : Int) < (n : Int) := by omega
          obtain ⟨y, hy⟩ : ∃ y, M.getD i 0 = y := ⟨_, rfl⟩
          have hyu := HX.out.2.1.at i
          rw [hy] at hyu
          have y0 := hyu.1
          have y1 := hyu.2
          have cy : w.cell? ⟨b, off + i, none⟩ = some (.int .u8 y) := by rw [HX.out.1 i (by have := HX.out.2.2.1; omega), hy]
          have HF : Hid (fold8 M p1 (m + 1) = min (t * 256 + y) 16777217) := by
            show _ = _
            rw [fold8_at (M := M) (x := y) p1 m (by rw [← H1.out.2]; exact hy), H1.out.1]
          clear hy hyu
          obtain ⟨t2, ht2⟩ : ∃ t2, t * 256 + y = t2 := ⟨_, rfl⟩
          have HT2 : Hid (t * 256 + y = t2) := ht2
          have t20 : 0 ≤ t2 := by omega
          have t21 : t2 ≤ 4294968000 := by omega
          clear him
          by_cases q4 : 16777216 < t2
          · go_wp2
            go_roundw
            case rel => exact ⟨m + 1, i + 1, 16777217, rfl, by go_num, by omega, by have := H1.out.2; omega, by decide, by decide, by rw [HF.out, HT2.out]; omega, trivial⟩
            case measure => simp [intOf]; omega
          · go_wp2
            go_roundw
            case rel => exact ⟨m + 1, i + 1, t2, rfl, by go_num, by omega, by have := H1.out.2; omega, t20, by omega, by rw [HF.out, HT2.out]; omega, trivial⟩
            case measure => simp [intOf]; omega
        · obtain rfl : m = k := by omega
          have l1 : ¬ (i : Int) ≤ (p2 : Int) - 1 := by omega
          obtain rfl : F = t := by rw [← HFD.out.1, H1.out.1]
          obtain ⟨z, hz⟩ : ∃ z, M.getD p1 0 = z := ⟨_, rfl⟩
          have hzu := HX.out.2.1.at p1
          rw [hz] at hzu
          have z0 := hzu.1
          have z1 := hzu.2
          have cz : w.cell? ⟨b, off + p1, none⟩ = some (.int .u8 z) := by rw [HX.out.1 p1 (by have := HX.out.2.2.1; omega), hz]
          have p1n : (p1 : Int) < (n : Int) := by omega
          have HD : Hid (decide (z ≠ 0 ∧ 128 ≤ F) = D) := by show _ = _; rw [← hz]; exact HFD.out.2.1
          have nl : ¬ n < p1 + m := by omega
          clear hz hzu him hp1 hp2
          by_cases q4 : F < 128
          · have HDf : Hid (D = false) := by show _ = _; rw [← HD.out]; simp; omega
            go_wp2
            (try simp only [Exit.inBlock, Exit.then]); refine bodyPost_ret (results_tmp4 rfl _ _ _) rfl ?_
            rw [HE.out, if_neg nl, if_pos HDf.out]
            exact ⟨rfl, rfl⟩
          by_cases q5 : z = 0
          · subst q5
            have HDf : Hid (D = false) := by show _ = _; rw [← HD.out]; simp
            go_wp2
            (try simp only [Exit.inBlock, Exit.then]); refine bodyPost_ret (results_tmp4 rfl _ _ _) rfl ?_
            rw [HE.out, if_neg nl, if_pos HDf.out]
            exact ⟨rfl, rfl⟩
          have q5b : (z == 0) = false := by simpa using q5
          have HDt : Hid (D ≠ false) := by show _ ≠ _; rw [← HD.out]; simp; omega
          by_cases q6 : (n : Int) - (p2 : Int) < F
          · go_wp2
            (try simp only [Exit.inBlock, Exit.then]); refine bodyPost_ret (results_tmp4 rfl _ _ _) rfl ?_
            rw [HE.out, if_neg nl, if_neg HDt.out, HP2.out, if_pos q6]
            exact ⟨rfl, rfl⟩
          · go_wp2
            (try simp only [Exit.inBlock, Exit.then]); refine bodyPost_ret (results_tmp4 rfl _ _ _) rfl ?_
            rw [HE.out, if_neg nl, if_neg HDt.out, HP2.out, if_neg (by omega)]
            exact ⟨rfl, rfl⟩
  · obtain rfl : p = n := by omega
    go_enter Tryz.func68, Tryz.ntmps68
    go_wp2
    (try simp only [Exit.inBlock, Exit.then]); refine bodyPost_ret (results_tmp4 rfl _ _ _) rfl ?_
    have h1 := HX.out.2.2.2
    unfold lenS at h1
    rw [if_pos (by have := HX.out.2.2.1; omega), HX.out.2.2.1] at h1
    subst h1
    exact ⟨rfl, rfl⟩
end Go.Proofs.YtillkhjihggcjaaGreatDoor
/-
  Der: the reference's Split.
-/
namespace Go.Proofs.YtillkhjihggcjaaGreatDoor
open Go.RowKit
theorem sz_of {w W : World} (hb : Below w.heap.size w W) : w.heap.size ≤ W.heap.size := hb.size
theorem ks_al {w W : World} {p : Addr} {v : Value} {o : Obj} (hp : p.block < w.heap.size) (hv : w.cell? p = some v) (h : Below w.heap.size w W) : Below w.heap.size w (W.alloc o) ∧ (W.alloc o).cell? p = some v :=
  ⟨al2' h, ((al2' h).cell hp).trans hv⟩
theorem ks_ald {w W : World} {p : Addr} {v : Value} {o : Obj} (hp : p.block < w.heap.size) (hv : w.cell? p = some v) (h : Below w.heap.size w W.drew) : Below w.heap.size w (W.alloc o).drew ∧ (W.alloc o).drew.cell? p = some v := by
  have h1 : Below w.heap.size w W := h.trans ⟨rfl, rfl, rfl, Nat.le_refl _, fun _ _ => rfl⟩
  have h2 : Below w.heap.size w (W.alloc o).drew := (al2' h1).drew
  exact ⟨h2, (h2.cell hp).trans hv⟩
theorem ks_below {w W W' : World} {p : Addr} {v : Value} (hp : p.block < w.heap.size) (hv : w.cell? p = some v) (h : Below w.heap.size w W) (h' : Below W.heap.size W W') : Below w.heap.size w W' ∧ W'.cell? p = some v :=
  ⟨below_via h h' (Nat.le_refl _), ((below_via h h' (Nat.le_refl _)).cell hp).trans hv⟩
theorem ks_tr {w W W' : World} {p : Addr} {v : Value} (hp : p.block < w.heap.size) (hv : w.cell? p = some v) (h : Below w.heap.size w W) (h' : Below w.heap.size W W') : Below w.heap.size w W' ∧ W'.cell? p = some v :=
  ⟨h.trans h', ((h.trans h').cell hp).trans hv⟩
/-- The slice and its rows, with the values by name. -/
def TY (B : Nat) (w : World) (v : Value) (k : Nat) (Y : List Tc) : Prop := MRow 5 24 B w v k (tlvCells Y) ∧ ∀ y ∈ Y, Rw .u8 5 B w y.2.1 y.1.d ∧ Rw .u8 5 B w y.2.2 y.1.r
theorem TY.below {B : Nat} {w w' : World} {v : Value} {k : Nat} {Y : List Tc} (h : TY B w v k Y) (hb : Below w.heap.size w w') : TY B w' v k Y :=
  ⟨h.1.below hb, fun y hy => ⟨(h.2 y hy).1.below hb, (h.2 y hy).2.below hb⟩⟩
theorem TY.alloc {B : Nat} {w : World} {v : Value} {k : Nat} {Y : List Tc} (h : TY B w v k Y) (o : Obj) : TY B (w.alloc o) v k Y := h.below (al1 o)
theorem TY.drew {B : Nat} {w : World} {v : Value} {k : Nat} {Y : List Tc} (h : TY B w v k Y) : TY B w.drew v k Y := h.below ⟨rfl, rfl, rfl, Nat.le_refl _, fun _ _ => rfl⟩
def SplitOutR (n : Nat) (B : Nat) (w : World) (e : Ending) : Sp → Prop
  | .inl (er, a) => e = .returned (.tuple #[.slice none 0 0, .int .i64 er, .int .i64 a])
  | .inr L => ∃ v, e = .returned (.tuple #[v, .int .i64 0, .int .i64 n]) ∧ TlvR B w v L
set_option maxRecDepth 20000 in
set_option maxHeartbeats 4000000 in
theorem RSplit_ne {w : World} (b off n c : Nat) (M : List Int) (hM : Rd .u8 w b off M) (uM : U8s M) (hMl : M.length = n) (hn : n ≤ 16777216) (hnc : n ≤ c) (hb : b < w.heap.size) :
    Calls Tryz.prog 41 #[.slice (some ⟨b, off, none⟩) n c] w fun e w' => SplitOutR n w.heap.size w' e (splitS M) ∧ Below w.heap.size w w' := by
  obtain ⟨O, hO⟩ : ∃ O, spl M 0 [] = O := ⟨_, rfl⟩
  have HO : Hid (spl M 0 [] = O ∧ splitS M = O) := ⟨hO, by unfold splitS; rw [if_neg (by omega), hO]⟩
  have HX : Hid (Rd .u8 w b off M ∧ U8s M ∧ M.length = n) := ⟨hM, uM, hMl⟩
  have hnI : (n : Int) ≤ 16777216 := by omega
  rw [HO.out.2]
  clear hM uM hMl hO
  go_enter Tryz.func41, Tryz.ntmps41
  go_wp2_with fail
  go_loopw [5, 6] (fun lv pv wr => ∃ (p : Nat) (L : List El) (v : Value), v = lv ∧ pv = .int .i64 p ∧ Below w.heap.size w wr ∧ TlvR w.heap.size wr v L ∧ spl M p L = O ∧ L.length ≤ 65536 ∧ p ≤ n) (fun _ pv _ => n - (intOf pv).toNat)
  case atStart => exact ⟨0, [], _, rfl, rfl, Below.refl _ _, TlvR.nil _ _, HO.out.1, by simp, by omega⟩
  case round =>
    obtain ⟨p, L, v, rfl, rfl, hbl, ⟨Y, hYL, hm, hrows⟩, hO, hL, hp⟩ := hrel
    have hYl : Y.length = L.length := by rw [← hYL, List.length_map]
    obtain ⟨al, cl, hv⟩ := hm.ne
    obtain ⟨k, hk⟩ : ∃ k, Y.length = k := ⟨_, rfl⟩
    rw [hk] at hv hm
    subst hv
    have hkL : k ≤ 65536 := by omega
    have H2 : Hid (Below w.heap.size w wr ∧ Y.map (·.1) = L ∧ MRow 5 24 w.heap.size wr (.slice al k cl) k (tlvCells Y) ∧ (∀ y ∈ Y, Rw .u8 5 w.heap.size wr y.2.1 y.1.d ∧ Rw .u8 5 w.heap.size wr y.2.2 y.1.r) ∧ spl M p L = O ∧ Y.length = k ∧ L.length = k) := ⟨hbl, hYL, hm, hrows, hO, hk, by omega⟩
    clear hYL hm hrows hO hk hYl hL
    by_cases hlt : p < n
    · have l1 : (p : Int) < (n : Int) := by omega
      by_cases hmany : k = 65536
      · subst hmany
        go_wp2
        go_ret3
        have h1 := H2.out.2.2.2.2.1
        rw [spl_many (by have := HX.out.2.2; omega) (by have := H2.out.2.2.2.2.2; omega)] at h1
        subst h1
        exact ⟨rfl, H2.out.1⟩
      have hmb : ¬ (65536 : Int) ≤ (k : Int) := by omega
      go_wp2_with fail
      refine (Rtag_any b off n c p M (below_rd H2.out.1 hb HX.out.1) HX.out.2.1 HX.out.2.2 hn hlt).mono ?_
      obtain ⟨T, hT⟩ : ∃ T, tagS M p = T := ⟨_, rfl⟩
      have HT : Hid (tagS M p = T) := hT
      rw [hT]
      clear hT
      intro e v2 h2
      cases T with
      | inl pq =>
        obtain ⟨er, a⟩ := pq
        obtain ⟨rfl, rfl⟩ : e = .returned (.tuple #[.int .i64 0, .int .i64 0, .int .i64 er, .int .i64 a]) ∧ wr = v2 := h2
        have hbad := tagS_bad (M := M) (p := p) (by have := HX.out.2.2; omega) HT.out
        have hne : (er != 0) = true := by simp; omega
        have HE : Hid (O = .inl (er, a)) := by
          show _ = _
          rw [← H2.out.2.2.2.2.1]; refine spl_bad (by have := HX.out.2.2; omega) (by have := H2.out.2.2.2.2.2; omega) ?_
          unfold elemS; rw [HT.out]
        clear hbad
        go_wp2
        go_ret3
        rw [HE.out]
        exact ⟨rfl, H2.out.1⟩
      | inr pq =>
        obtain ⟨t, i⟩ := pq
        obtain ⟨rfl, rfl⟩ : e = .returned (.tuple #[.int .i64 t, .int .i64 i, .int .i64 0, .int .i64 0]) ∧ wr = v2 := h2
        have hok := tagS_ok (M := M) (p := p) HX.out.2.1 (by have := HX.out.2.2; omega) HT.out
        have hiM : i ≤ n := by have := HX.out.2.2; omega
        have t0 := hok.2.2.1
        have t1 := hok.2.2.2
        have HI : Hid (p < i) := hok.1
        clear hok
        go_wp2_with fail
        refine (Rlength_any b off n c i M (below_rd H2.out.1 hb HX.out.1) HX.out.2.1 HX.out.2.2 hn hiM).mono ?_
        obtain ⟨S, hS⟩ : ∃ S, lenS M i = S := ⟨_, rfl⟩
        have HS : Hid (lenS M i = S) := hS
        rw [hS]
        clear hS
        intro e v2 h2
        cases S with
        | inl pq =>
          obtain ⟨er, a⟩ := pq
          obtain ⟨rfl, rfl⟩ : e = .returned (.tuple #[.int .i64 0, .int .i64 0, .int .i64 er, .int .i64 a]) ∧ wr = v2 := h2
          have hbad := lenS_bad (M := M) (i := i) (by have := HX.out.2.2; omega) HS.out
          have hne : (er != 0) = true := by simp; omega
          have HE : Hid (O = .inl (er, a)) := by
            show _ = _
            rw [← H2.out.2.2.2.2.1]; refine spl_bad (by have := HX.out.2.2; omega) (by have := H2.out.2.2.2.2.2; omega) ?_
            unfold elemS; rw [HT.out]; simp only []; rw [HS.out]
          clear hbad
          go_wp2
          go_ret3
          rw [HE.out]
          exact ⟨rfl, H2.out.1⟩
        | inr pq =>
          obtain ⟨lv, j⟩ := pq
          obtain ⟨rfl, rfl⟩ : e = .returned (.tuple #[.int .i64 lv, .int .i64 j, .int .i64 0, .int .i64 0]) ∧ wr = v2 := h2
          have hlo := lenS_ok HX.out.2.1 HS.out
          obtain ⟨l, rfl⟩ := Int.eq_ofNat_of_zero_le hlo.2.1
          obtain ⟨E, hE⟩ : ∃ E, j + l = E := ⟨_, rfl⟩
          have hMn := HX.out.2.2
          have HE : Hid (elemS M p = .inr (t, j, E) ∧ spl M E (L ++ [elAt M p t j E]) = O) := by
            have h1 : elemS M p = .inr (t, j, E) := by unfold elemS; rw [HT.out]; simp only []; rw [HS.out]; simp only [Int.toNat_natCast]; rw [hE]
            refine ⟨h1, ?_⟩
            rw [← H2.out.2.2.2.2.1]
            exact (spl_ok HX.out.2.1 (by have := HX.out.2.2; omega) (by have := H2.out.2.2.2.2.2; omega) h1).symm
          have hEI : (j : Int) + (l : Int) = (E : Int) := by omega
          have hpj : p < j := by have := HI.out; omega
          have hjE : j ≤ E := by omega
          have hEn : E ≤ n := by omega
          clear hlo hMn
          obtain ⟨x, hx⟩ : ∃ x, M.getD p 0 = x := ⟨_, rfl⟩
          have hu8 := HX.out.2.1.at p
          rw [hx] at hu8
          have x0 := hu8.1
          have x1 := hu8.2
          have cx : wr.cell? ⟨b, off + p, none⟩ = some (.int .u8 x) := by rw [below_rd H2.out.1 hb HX.out.1 p (by have := HX.out.2.2; omega), hx]
          obtain ⟨X1, hX1⟩ : ∃ X1, (M.drop j).take (E - j) = X1 := ⟨_, rfl⟩
          obtain ⟨X2, hX2⟩ : ∃ X2, (M.drop p).take (E - p) = X2 := ⟨_, rfl⟩
          have HEl : Hid (elAt M p t j E = ⟨x / 64, t, x / 32 % 2 == 1, X1, X2⟩) := by
            show _ = _
            unfold elAt
            rw [hx, hX1, hX2]
            congr 1
          have HQ : Hid (IntKind.i64.wrap (IntKind.u8.wrap (x.tdiv 64)) = x / 64 ∧ (IntKind.u8.wrap (x.tdiv 32)).tmod 2 = x / 32 % 2) := by
            rw [Int.tdiv_eq_ediv_of_nonneg x0, Int.tdiv_eq_ediv_of_nonneg x0, IntKind.wrap_u8, IntKind.wrap_u8, IntKind.wrap_i64]
            refine ⟨by omega, ?_⟩
            rw [Int.tmod_eq_emod_of_nonneg (by omega)]; omega
          have HL1 : Hid (X1.length = E - j ∧ X2.length = E - p ∧ E ≤ 16777216) := by
            have := HX.out.2.2
            refine ⟨?_, ?_, by omega⟩
            · rw [← hX1, List.length_take, List.length_drop]; omega
            · rw [← hX2, List.length_take, List.length_drop]; omega
          obtain ⟨ba, hba⟩ : ∃ ba : Option Addr, (if c = j then some ⟨b, off, none⟩ else some ⟨b, off + j, none⟩) = ba := ⟨_, rfl⟩
          have HC : Hid (∀ W : World, Below w.heap.size w W → Sl .u8 W (.slice ba (E - j) (c - j)) X1) := fun W hW => by
            have h0 := hW
            have := rd_slo (c := c) (Nat.lt_of_lt_of_le hb h0.size) (below_rd h0 hb HX.out.1) j E hjE (by have := HX.out.2.2; omega) (by omega)
            rw [← hba, ← hX1]; exact this
          have HC2 : Hid (∀ W : World, Below w.heap.size w W → Sl .u8 W (.slice (some ⟨b, off + p, none⟩) (E - p) (c - p)) X2) := fun W hW => by
            have h0 := hW
            have := rd_slo (c := c) (Nat.lt_of_lt_of_le hb h0.size) (below_rd h0 hb HX.out.1) p E (by omega) (by have := HX.out.2.2; omega) (by omega)
            rw [if_neg (by omega)] at this
            rw [← hX2]; exact this
          have cw : w.cell? ⟨b, off + p, none⟩ = some (.int .u8 x) := by rw [HX.out.1 p (by have := HX.out.2.2; omega), hx]
          have hT : TY w.heap.size wr (.slice al k cl) k Y := ⟨H2.out.2.2.1, H2.out.2.2.2.1⟩
          have hbw : Below w.heap.size w wr := H2.out.1
          have hjI : (j : Int) ≤ (E : Int) := by omega
          have hpE : (p : Int) ≤ (E : Int) := by omega
          have hEc : (E : Int) ≤ (c : Int) := by omega
          have hpc : ¬ c = p := by omega
          have hwE : IntKind.i64.wrap (E : Int) = (E : Int) := by rw [IntKind.wrap_i64]; omega
          have hpE2 : p ≤ E := by omega
          have x10 : x / 64 ≤ 3 := by omega
          clear hu8 hbl hX1 hX2
          go_upto_region 14 with (fail)
          go_region_held3 (fun W => Below w.heap.size w W ∧ W.cell? ⟨b, off + p, none⟩ = some (.int .u8 x)) (first | exact ⟨hbw.drew, cx⟩ | exact ks_ald hb cw (And.left (by assumption)) | exact ks_al hb cw (And.left (by assumption)) | exact ks_below hb cw (And.left (by assumption)) (by assumption) | exact ks_tr hb cw (And.left (by assumption)) (by assumption))
            (first
              | (refine step_ap0 (by rfl) (.tmp 63) (.tmp 69) 22 22 (by rfl) .u8 5 1 Tryz.und8 Tryz.info8 (by decide) w.heap.size _ (by rfl) _ X1 (by rfl) (src_sl Tryz.und8 (HC.out _ (And.left (by assumption)))) (by have := HL1.out; omega) (sz_of (And.left (by assumption))) ?_; intro v5 w5 hr5 hb5; obtain ⟨a5, c5, hv5⟩ := hr5.ne; rw [HL1.out.1] at hv5; subst hv5; have hT5 := (by first | exact (hT.alloc _).drew.below hb5 | exact ((hT.alloc _).alloc _).drew.below hb5 : TY w.heap.size w5 (.slice al k cl) k Y))
              | (refine step_ap0 (by rfl) (.tmp 71) (.tmp 77) 22 22 (by rfl) .u8 5 1 Tryz.und8 Tryz.info8 (by decide) w.heap.size _ (by rfl) _ X2 (by rfl) (src_sl Tryz.und8 (HC2.out _ (And.left (by assumption)))) (by have := HL1.out; omega) (sz_of (And.left (by assumption))) ?_; intro v7 w7 hr7 hb7; obtain ⟨a7, c7, hv7⟩ := hr7.ne; rw [HL1.out.2.1] at hv7; subst hv7; have hT7 := (by first | exact (hT5.alloc _).below hb7 | exact hT5.below hb7 : TY w.heap.size w7 (.slice al k cl) k Y); have hr57 := (by first | exact (hr5.alloc _).below hb7 | exact hr5.below hb7 : Rw .u8 5 w.heap.size w7 (.slice a5 (E - j) c5) X1))
              | (refine step_apm (by rfl) (.tmp 48) (.tmp 80) 66 66 (by rfl) 5 zeroT rfl 24 72 Tryz.undT Tryz.infoT (by decide) w.heap.size _ k _ (by rfl) (hT7.alloc _).1 _ 1 [.int .i64 (IntKind.i64.wrap (IntKind.u8.wrap (x.tdiv 64))), .int .i64 t, .bool ((IntKind.u8.wrap (x.tdiv 32)).tmod 2 == 1), .slice a5 (E - j) c5, .slice a7 (E - p) c7] (by rfl) (src_m (T := 24) Tryz.undT 5 (blk_nw (by simp) rfl) rfl (tlv_one _ _ _ _ _ _ _ _ _)) (by omega) (sz_of (And.left (by assumption))) ?_; intro v9 w9 hr9 hg9; have hb9 := hg9.below (hT7.alloc _).1 (sz_of (And.left (by assumption)))))
          all_goals
            have hbw9 : Below w.heap.size w w9 := And.left (by assumption)
            have H9 : Hid (Below w.heap.size w w9 ∧ TlvR w.heap.size w9 v9 (L ++ [elAt M p t j E])) := by
              refine ⟨hbw9, Y ++ [(elAt M p t j E, .slice a5 (E - j) c5, .slice a7 (E - p) c7)], ?_, ?_, ?_⟩
              · rw [List.map_append, H2.out.2.1]; rfl
              · rw [tlvCells_snoc, List.length_append, H2.out.2.2.2.2.2.1, HEl.out]
                rw [HQ.out.1, HQ.out.2] at hr9
                exact hr9
              · intro y hy
                rcases List.mem_append.1 hy with hy | hy
                · exact ⟨((hT7.2 y hy).1.alloc _).mgrew hg9, ((hT7.2 y hy).2.alloc _).mgrew hg9⟩
                · rw [List.mem_singleton] at hy
                  subst hy
                  rw [HEl.out]
                  exact ⟨(hr57.alloc _).mgrew hg9, (hr7.alloc _).mgrew hg9⟩
            clear hbw9 hr9 hg9 hb9 hT7 hr57 hr7 hT5 hr5 hb5 hb7 hT
            go_wp2
            go_roundw
            case rel => exact ⟨E, _, _, rfl, rfl, H9.out.1, H9.out.2, HE.out.2, by rw [List.length_append, H2.out.2.2.2.2.2.2]; show k + 1 ≤ _; omega, hEn⟩
            case measure => simp [intOf]; omega
    · obtain rfl : p = n := by omega
      have l1 : ¬ (p : Int) < (p : Int) := by omega
      go_wp2
      go_ret3
      have h1 := H2.out.2.2.2.2.1
      rw [spl_end (by have := HX.out.2.2; omega)] at h1
      subst h1
      refine ⟨⟨_, rfl, ?_⟩, H2.out.1⟩
      have h2 := H2.out
      exact ⟨Y, h2.2.1, by rw [h2.2.2.2.2.2.1]; exact h2.2.2.1, h2.2.2.2.1⟩
end Go.Proofs.YtillkhjihggcjaaGreatDoor
