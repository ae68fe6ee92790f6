/-
  Curves: the reference's field in regions whose values are known.
-/
import Derived.Test.YtkdclocjijmgpaaK20
namespace Go.Proofs.Ytkdclocjijmgpaa
open Go.RowKit
set_option maxRecDepth 20000
theorem run_call3 {a : Act} {W : World} {o : Oper} {f : FuncId} {t1 t2 t3 : Tmp} {tys : Array TypeId} (hop : o.op = .call { callee := .value (.func f), args := #[.tmp t1, .tmp t2, .tmp t3], argTypes := tys }) {v1 v2 v3 : Value} (e1 : a.eval (.tmp t1) = v1) (e2 : a.eval (.tmp t2) = v2) (e3 : a.eval (.tmp t3) = v3)
    (eg : ∀ (args : Array Value) (w : World), (callFunc f args).run Try.prog w = .ok (.enter f args) w) : (execOp a.eval o).run Try.prog W = .ok (.enter f #[v1, v2, v3]) W := by
  have e0 : a.eval (.func f) = .func (.func f) #[] #[] := rfl
  subst e1 e2 e3
  unfold execOp
  simp only [hop, resolve, e0]
  simp [go_sem, Deferred.ofValue, invoke, eg]
theorem eg_of {f : FuncId} {fn : Func} (hf : Try.prog.funcs[f]? = some fn) (h1 : (fn.name == "runtime.NumGoroutine") = false) (h2 : fn.body.isNone = false) (args : Array Value) (w : World) : (callFunc f args).run Try.prog w = .ok (.enter f args) w := by
  have g1 : ¬ fn.name = "runtime.NumGoroutine" := fun h => by simp [h] at h1
  have g2 : ¬ fn.body = none := fun h => by simp [h] at h2
  simp [go_sem, callFunc, hf, g1, g2]
theorem eg_mul (args : Array Value) (w : World) : (callFunc 58 args).run Try.prog w = .ok (.enter 58 args) w := eg_of Try.func58 (by kernel_rfl) (by kernel_rfl) args w
theorem eg_add (args : Array Value) (w : World) : (callFunc 61 args).run Try.prog w = .ok (.enter 61 args) w := eg_of Try.func61 (by kernel_rfl) (by kernel_rfl) args w
theorem eg_sub (args : Array Value) (w : World) : (callFunc 59 args).run Try.prog w = .ok (.enter 59 args) w := eg_of Try.func59 (by kernel_rfl) (by kernel_rfl) args w
theorem run_field {a : Act} {W : World} {o : Oper} {t k : Nat} (hop : o.op = .fieldAddr 70 (.tmp t) k) {bl : Nat} (hx : a.eval (.tmp t) = .pointer (some ⟨bl, 0, none⟩)) (hk : k < 3) : (execOp a.eval o).run Try.prog W = .ok (.value (.pointer (some ⟨bl, 13 * k, none⟩))) W := by
  unfold execOp
  simp only [hop, hx]
  match k, hk with
  | 0, _ => simp [go_sem, Instr.fieldAt]
  | 1, _ => simp [go_sem, Instr.fieldAt]
  | 2, _ => simp [go_sem, Instr.fieldAt]
theorem run_allocD {a : Act} {W : World} {o : Oper} (hop : o.op = .alloc 64) : (execOp a.eval o).run Try.prog W = .ok (.value (.pointer (some ⟨W.heap.size, 0, none⟩))) (W.alloc (.cells z13.toArray 64)) := by
  unfold execOp
  simp only [hop]
  simp [go_sem, Instr.alloc, z13]
theorem addF {w : World} {p x y : Nat} {F : List Value} (hF : fdC (lim p).length (dg p) = F) (h : Fp p) (hx : x < p) (hy : y < p) : Calls Try.prog 61 #[.agg F.toArray, DV x, DV y] w fun e w' => e = .returned (DV (fad p x y)) ∧ Below w.heap.size w w' := by subst hF; exact addD h hx hy
theorem subF {w : World} {p x y : Nat} {F : List Value} (hF : fdC (lim p).length (dg p) = F) (h : Fp p) (hx : x < p) (hy : y < p) : Calls Try.prog 59 #[.agg F.toArray, DV x, DV y] w fun e w' => e = .returned (DV (fsb p x y)) ∧ Below w.heap.size w w' := by subst hF; exact subD h hx hy
theorem mulF {w : World} {p x y : Nat} {F : List Value} (hF : fdC (lim p).length (dg p) = F) (h : Fp p) (hx : x < p) (hy : y < p) : Calls Try.prog 58 #[.agg F.toArray, DV x, DV y] w fun e w' => e = .returned (DV (fml p x y)) ∧ Below w.heap.size w w' := by subst hF; exact mulD h hx hy
theorem dgC_l {x p : Nat} (h : Fp p) (hx : x < p) : (dgC (dg x)).length = 13 := by rw [dgC_len]; exact (dg_ok (h.lt hx)).1.2
theorem szD {x p : Nat} (h : Fp p) (hx : x < p) : (Try.prog.info? 64).map (·.size) = some (dgC (dg x)).length := by rw [dgC_l h hx]; exact Try.sizeDg
/-- Three numbers' digits. -/
def tC (x y z : Nat) : List Value := dgC (dg x) ++ (dgC (dg y) ++ dgC (dg z))
theorem tC_at {W : World} {T : TypeId} {b x y z p : Nat} (h : Fp p) (hx : x < p) (hy : y < p) (hz : z < p) (hB : Blk T W b (tC x y z)) : W.rangeAt b 0 (dgC (dg x)) ∧ W.rangeAt b 13 (dgC (dg y)) ∧ W.rangeAt b 26 (dgC (dg z)) := by
  have l1 := dgC_l h hx
  have l2 := dgC_l h hy
  have l3 := dgC_l h hz
  unfold tC at hB
  refine ⟨hB.range 0 _ ?_, hB.range 13 _ ?_, hB.range 26 _ ?_⟩
  · rw [List.drop_zero, List.take_append_of_le_length (by omega), List.take_of_length_le (by omega)]
  · rw [List.drop_append_of_le_length (by omega), List.drop_of_length_le (by omega), List.nil_append, List.take_append_of_le_length (by omega), List.take_of_length_le (by omega)]
  · rw [← List.append_assoc, List.drop_append_of_le_length (by simp [l1, l2]), List.drop_of_length_le (by simp [l1, l2]), List.nil_append, List.take_of_length_le (by omega)]
theorem tC_len {x y z p : Nat} (h : Fp p) (hx : x < p) (hy : y < p) (hz : z < p) : (tC x y z).length = 39 := by
  unfold tC
  simp [dgC_l h hx, dgC_l h hy, dgC_l h hz]
theorem Try.sizeTp : (Try.prog.info? 70).map (·.size) = some 39 := by kernel_rfl
theorem szT {x y z p : Nat} (h : Fp p) (hx : x < p) (hy : y < p) (hz : z < p) : (Try.prog.info? 70).map (·.size) = some (tC x y z).toArray.size := by
  rw [List.size_toArray, tC_len h hx hy hz]; exact Try.sizeTp
theorem szTl {x y z p : Nat} (h : Fp p) (hx : x < p) (hy : y < p) (hz : z < p) : (Try.prog.info? 70).map (·.size) = some (tC x y z).length := by rw [tC_len h hx hy hz]; exact Try.sizeTp
theorem tC_one (x y z : Nat) : (tC x y z).toArray.all (·.oneCell') = true := by
  unfold tC dgC
  rw [← List.map_append, ← List.map_append]
  exact ints_one .u64 _
theorem tC0 : tC 0 0 0 = z13 ++ (z13 ++ z13) := by
  have h : lim 0 = [] := List.eq_nil_of_length_eq_zero (lim0.2 rfl)
  have e : dgC (dg 0) = z13 := by unfold dg; rw [h]; rfl
  unfold tC
  rw [e]
theorem wp_frame {P : Program} {c : Code} {Q : Exit → Act → World → Prop} {a : Act} {w : World} (I : Act → Prop) (h : I a) (g : ∀ b, I b → c.wp P Q b w) : c.wp P Q a w := g a h
theorem z39_len : (z13 ++ (z13 ++ z13)).length = 39 := rfl
theorem updDrew (w : World) (b : Nat) : Upd w w.drew b := Upd.drewN (Upd.refl w b) 1
theorem allDep {ops : Array Oper} {n iS k : Nat} (hk : k < n) (hne : k ≠ iS) (h : ((List.range n).all fun k => k == iS || (depL .any ops iS).contains k) = true) : k ∈ depL .any ops iS := by
  have := List.all_eq_true.1 h k (List.mem_range.2 hk)
  simp only [Bool.or_eq_true, beq_iff_eq] at this
  rcases this with h | h
  · exact absurd h hne
  · simpa using h
set_option maxHeartbeats 1000000 in
theorem run_build {a : Act} {W : World} {o : Oper} {t1 t2 t3 : Tmp} (hop : o.op = .build 70 #[(0, .tmp t1), (1, .tmp t2), (2, .tmp t3)]) {x y z : Nat} (e1 : a.eval (.tmp t1) = DV x) (e2 : a.eval (.tmp t2) = DV y) (e3 : a.eval (.tmp t3) = DV z) (l1 : (dg x).length = 13) (l2 : (dg y).length = 13) (l3 : (dg z).length = 13) : (execOp a.eval o).run Try.prog W = .ok (.value (.agg (tC x y z).toArray)) W := by
  unfold execOp
  simp only [hop]
  unfold tC DV at *
  obtain ⟨x0, x1, x2, x3, x4, x5, x6, x7, x8, x9, x10, x11, x12, hx⟩ := list13 l1
  obtain ⟨y0, y1, y2, y3, y4, y5, y6, y7, y8, y9, y10, y11, y12, hy⟩ := list13 l2
  obtain ⟨u0, u1, u2, u3, u4, u5, u6, u7, u8, u9, u10, u11, u12, hz⟩ := list13 l3
  rw [hx] at e1 ⊢
  rw [hy] at e2 ⊢
  rw [hz] at e3 ⊢
  have e4 : (#[(0, Operand.tmp t1), (1, Operand.tmp t2), (2, Operand.tmp t3)] : Array (Nat × Operand)).map (fun q => (q.1, a.eval q.2)) = #[(0, .agg (dgC [x0, x1, x2, x3, x4, x5, x6, x7, x8, x9, x10, x11, x12]).toArray), (1, .agg (dgC [y0, y1, y2, y3, y4, y5, y6, y7, y8, y9, y10, y11, y12]).toArray), (2, .agg (dgC [u0, u1, u2, u3, u4, u5, u6, u7, u8, u9, u10, u11, u12]).toArray)] := by simp [e1, e2, e3]
  rw [e4]
  have e5 : ∀ W : World, Sem.run Try.prog (do pure (Next.value (← Instr.build 70 #[(0, .agg (dgC [x0, x1, x2, x3, x4, x5, x6, x7, x8, x9, x10, x11, x12]).toArray), (1, .agg (dgC [y0, y1, y2, y3, y4, y5, y6, y7, y8, y9, y10, y11, y12]).toArray), (2, .agg (dgC [u0, u1, u2, u3, u4, u5, u6, u7, u8, u9, u10, u11, u12]).toArray)]))) W = .ok (.value (.agg (dgC [x0, x1, x2, x3, x4, x5, x6, x7, x8, x9, x10, x11, x12] ++ (dgC [y0, y1, y2, y3, y4, y5, y6, y7, y8, y9, y10, y11, y12] ++ dgC [u0, u1, u2, u3, u4, u5, u6, u7, u8, u9, u10, u11, u12])).toArray)) W := fun W => by kernel_rfl
  exact e5 W
abbrev At (A : Act) (s b : Nat) : Prop := A.eval (.tmp s) = .pointer (some ⟨b, 0, none⟩)
abbrev PV (b k : Nat) : Value := .pointer (some ⟨b, k, none⟩)
abbrev BD (w W : World) (k b v : Nat) : Prop := Blk 64 W b (dgC (dg v)) ∧ w.heap.size + k < b
theorem bb {T : TypeId} {w w' : World} {b : Nat} {cs : List Value} (h : Below w.heap.size w w') (ha : Blk T w b cs) : Blk T w' b cs := below_blk h ha.lt ha
theorem dv {n : Nat} {L : Array Bool} {a : Act} {ops : Array Oper} {V : Nat → Value} {D : List Nat} (hv : ∀ k d, k < n → Up L k → dstOf ops k = some d → a.eval (.tmp d) = V k) (hdep : ∀ k ∈ D, Up L k) (k d : Nat) (h1 : k < n := by decide) (h2 : k ∈ D := by decide +kernel) (h3 : dstOf ops k = some d := by rfl) : a.eval (.tmp d) = V k := hv k d h1 (hdep k h2) h3
theorem e0 {n : Nat} {a a0 : Act} {ops : Array Oper} {t : Tmp} {v : Value} (h0 : ∀ t, ((List.range n).all fun k => dstOf ops k != some t) = true → a.eval (.tmp t) = a0.eval (.tmp t)) (h : a0.eval (.tmp t) = v) (h2 : ((List.range n).all fun k => dstOf ops k != some t) = true := by decide +kernel) : a.eval (.tmp t) = v := (h0 t h2).trans h
theorem SA.kp {w0 : World} {T : TypeId} {zero cells : List Value} {iA iS b : Nat} {L : Array Bool} {W : World} (h : SA w0 T zero cells iA iS b L W) {i : Nat} (hA : i ≠ iA := by decide) (hS : i ≠ iS := by decide) : SA w0 T zero cells iA iS b (L.setIfInBounds i true) W := h.keep hA hS (Below.refl _ _)
theorem SA.kc {w0 : World} {T : TypeId} {zero cells : List Value} {iA iS b : Nat} {L : Array Bool} {W : World} (h : SA w0 T zero cells iA iS b L W) {i : Nat} (hA : i ≠ iA := by decide) (hS : i ≠ iS := by decide) (W' : World) (hb : Below W.heap.size W W') : SA w0 T zero cells iA iS b (L.setIfInBounds i true) W' := h.keep hA hS hb
theorem SB.kp {w0 : World} {T : TypeId} {bs : Nat} {old new : List Value} {iS n : Nat} {b : Unit} {L : Array Bool} {W : World} (h : SB w0 T bs old new iS n b L W) {i : Nat} (hno : ¬ Up L i) (hi : i < n := by decide) (hS : i ≠ iS := by decide) : SB w0 T bs old new iS n b (L.setIfInBounds i true) W := h.keep hi hno hS (Below.refl _ _)
theorem SB.kc {w0 : World} {T : TypeId} {bs : Nat} {old new : List Value} {iS n : Nat} {b : Unit} {L : Array Bool} {W : World} (h : SB w0 T bs old new iS n b L W) {i : Nat} (hno : ¬ Up L i) (hi : i < n := by decide) (hS : i ≠ iS := by decide) (W' : World) (hb : Below W.heap.size W W') : SB w0 T bs old new iS n b (L.setIfInBounds i true) W' := h.keep hi hno hS hb
theorem SB.bl {w0 : World} {T : TypeId} {bs : Nat} {old new : List Value} {iS n : Nat} {b : Unit} {L : Array Bool} {W : World} (h : SB w0 T bs old new iS n b L W) {i : Nat} (hno : ¬ Up L i) (hi : i < n := by decide) : Below w0.heap.size w0 W := (h.not hi hno).1
theorem ldF {β : Type} {ops : Array Oper} {Q : Exit → Act → World → Prop} {V : β → Nat → Value} {S : β → Array Bool → World → Prop} {i : Nat} {b : β} {L : Array Bool} {a : Act} {W : World} {o : Oper} (ho : ops[i]? = some o) (hg : o.guard = none) {x : Operand} (hop : o.op = .load 66 x) {bl : Nat} (hx : a.eval x = PV bl 0) {F : List Value} (hB : Blk 66 W bl F) (hi : (Try.prog.info? 66).map (·.size) = some F.length) (hv : V b i = .agg F.toArray) (hS : S b (L.setIfInBounds i true) W) : DetOp Try.prog ops Q V S i b L a W := det_load ho hg hop hx hB.whole Try.underlying66 rfl hi hv hS
theorem ldR {β : Type} {ops : Array Oper} {Q : Exit → Act → World → Prop} {V : β → Nat → Value} {S : β → Array Bool → World → Prop} {i : Nat} {b : β} {L : Array Bool} {a : Act} {W : World} {o : Oper} (ho : ops[i]? = some o) (hg : o.guard = none) {x : Operand} (hop : o.op = .load 64 x) {bl k v p : Nat} (hx : a.eval x = PV bl k) (hB : W.rangeAt bl k (dgC (dg v))) (h : Fp p) (hp : v < p) (hv : V b i = DV v) (hS : S b (L.setIfInBounds i true) W) : DetOp Try.prog ops Q V S i b L a W := det_load ho hg hop hx hB Try.underlying64 rfl (szD h hp) hv hS
theorem ldD {β : Type} {ops : Array Oper} {Q : Exit → Act → World → Prop} {V : β → Nat → Value} {S : β → Array Bool → World → Prop} {i : Nat} {b : β} {L : Array Bool} {a : Act} {W : World} {o : Oper} (ho : ops[i]? = some o) (hg : o.guard = none) {x : Operand} (hop : o.op = .load 64 x) {bl v p : Nat} (hx : a.eval x = PV bl 0) (hB : Blk 64 W bl (dgC (dg v))) (h : Fp p) (hp : v < p) (hv : V b i = DV v) (hS : S b (L.setIfInBounds i true) W) : DetOp Try.prog ops Q V S i b L a W := ldR ho hg hop hx hB.whole h hp hv hS
theorem rf {a : Act} {W : World} {o : Oper} {t : Nat} (k : Nat) (hop : o.op = .fieldAddr 70 (.tmp t) k) {bl : Nat} (hx : a.eval (.tmp t) = PV bl 0) (hk : k < 3 := by decide) : (execOp a.eval o).run Try.prog W = .ok (.value (PV bl (13 * k))) W := run_field hop hx hk
theorem cM {β : Type} {ops : Array Oper} {Q : Exit → Act → World → Prop} {V : β → Nat → Value} {S : β → Array Bool → World → Prop} {i : Nat} {b : β} {L : Array Bool} {a : Act} {W : World} {o : Oper} (ho : ops[i]? = some o) (hg : o.guard = none) {t1 t2 t3 : Tmp} {tys : Array TypeId} (hop : o.op = .call { callee := .value (.func 58), args := #[.tmp t1, .tmp t2, .tmp t3], argTypes := tys }) {F : List Value} {p x y : Nat} (e1 : a.eval (.tmp t1) = .agg F.toArray) (e2 : a.eval (.tmp t2) = DV x) (e3 : a.eval (.tmp t3) = DV y) (hF : fdC (lim p).length (dg p) = F) (h : Fp p) (hx : x < p) (hy : y < p) (hS : ∀ w', Below W.heap.size W w' → S b (L.setIfInBounds i true) w') (hv : V b i = DV (fml p x y) := by rfl) : DetOp Try.prog ops Q V S i b L a W := det_call ho hg (run_call3 hop e1 e2 e3 eg_mul) (by rw [hv]; exact mulF hF h hx hy) hS
theorem cA {β : Type} {ops : Array Oper} {Q : Exit → Act → World → Prop} {V : β → Nat → Value} {S : β → Array Bool → World → Prop} {i : Nat} {b : β} {L : Array Bool} {a : Act} {W : World} {o : Oper} (ho : ops[i]? = some o) (hg : o.guard = none) {t1 t2 t3 : Tmp} {tys : Array TypeId} (hop : o.op = .call { callee := .value (.func 61), args := #[.tmp t1, .tmp t2, .tmp t3], argTypes := tys }) {F : List Value} {p x y : Nat} (e1 : a.eval (.tmp t1) = .agg F.toArray) (e2 : a.eval (.tmp t2) = DV x) (e3 : a.eval (.tmp t3) = DV y) (hF : fdC (lim p).length (dg p) = F) (h : Fp p) (hx : x < p) (hy : y < p) (hS : ∀ w', Below W.heap.size W w' → S b (L.setIfInBounds i true) w') (hv : V b i = DV (fad p x y) := by rfl) : DetOp Try.prog ops Q V S i b L a W := det_call ho hg (run_call3 hop e1 e2 e3 eg_add) (by rw [hv]; exact addF hF h hx hy) hS
theorem cS {β : Type} {ops : Array Oper} {Q : Exit → Act → World → Prop} {V : β → Nat → Value} {S : β → Array Bool → World → Prop} {i : Nat} {b : β} {L : Array Bool} {a : Act} {W : World} {o : Oper} (ho : ops[i]? = some o) (hg : o.guard = none) {t1 t2 t3 : Tmp} {tys : Array TypeId} (hop : o.op = .call { callee := .value (.func 59), args := #[.tmp t1, .tmp t2, .tmp t3], argTypes := tys }) {F : List Value} {p x y : Nat} (e1 : a.eval (.tmp t1) = .agg F.toArray) (e2 : a.eval (.tmp t2) = DV x) (e3 : a.eval (.tmp t3) = DV y) (hF : fdC (lim p).length (dg p) = F) (h : Fp p) (hx : x < p) (hy : y < p) (hS : ∀ w', Below W.heap.size W w' → S b (L.setIfInBounds i true) w') (hv : V b i = DV (fsb p x y) := by rfl) : DetOp Try.prog ops Q V S i b L a W := det_call ho hg (run_call3 hop e1 e2 e3 eg_sub) (by rw [hv]; exact subF hF h hx hy) hS
theorem alA {w0 : World} {cells : List Value} {iA iS b : Nat} {L : Array Bool} {W : World} {V : Nat → Nat → Value} {Q : Exit → Act → World → Prop} {a : Act} {ops : Array Oper} {o : Oper} (ho : ops[iA]? = some o) (hg : o.guard = none) (hop : o.op = .alloc 64) (hV : ∀ k, k ≠ iA → V W.heap.size k = V b k) (hv : V W.heap.size iA = PV W.heap.size 0) (h : SA w0 64 z13 cells iA iS b L W) (hno : ¬ Up L iA) (hne : iA ≠ iS := by decide) : DetOp Try.prog ops Q V (SA w0 64 z13 cells iA iS) iA b L a W := det_alloc W.heap.size ho hg (run_allocD hop) hV hv (h.alloc hno hne)
theorem stA {w0 : World} {iA iS b : Nat} {L : Array Bool} {W : World} {V : Nat → Nat → Value} {Q : Exit → Act → World → Prop} {a : Act} {ops : Array Oper} {o : Oper} (ho : ops[iS]? = some o) (hg : o.guard = none) (hd : o.dst = none) {x y : Operand} (hop : o.op = .store 64 x y) {v p : Nat} (hx : a.eval x = PV b 0) (hy : a.eval y = DV v) (hp : Fp p) (hl : v < p) (h : SA w0 64 z13 (dgC (dg v)) iA iS b L W) (hno : ¬ Up L iS) {D : List Nat} {n : Nat} (hdep : ∀ k ∈ D, Up L k) (hlt : ∀ k, k < n → k < L.size) (hm : iA ∈ D := by decide +kernel) (hn : iS < n := by decide) (hne : iA ≠ iS := by decide) : DetOp Try.prog ops Q V (SA w0 64 z13 (dgC (dg v)) iA iS) iS b L a W :=
  det_store ho hg hd hop hx hy (((h.2.1 (hdep iA hm)).2.1 hno).there 0 _ (by simp [dgC_l hp hl]; decide)) (szD hp hl) (dgC_one _) (h.store (hdep iA hm) hno hne (hlt iS hn) (by rw [dgC_l hp hl]; rfl))
end Go.Proofs.Ytkdclocjijmgpaa
