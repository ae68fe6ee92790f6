/-
  Curves: the reference's sum. (wip/mkh23.py)
-/
import Derived.Test.YtkdclocjijmgpaaK21
namespace Go.Proofs.Ytkdclocjijmgpaa
open Go.RowKit
set_option maxRecDepth 20000
/-- Two blocks are made and filled. -/
def SA2 (w0 : World) (T : TypeId) (zero c1 c2 : List Value) (iA iS jA jS : Nat) (b : Nat × Nat) (L : Array Bool) (W : World) : Prop :=
  SA w0 T zero c1 iA iS b.1 L W ∧ SA w0 T zero c2 jA jS b.2 L W ∧ (Up L iA → Up L jA → b.1 ≠ b.2)
theorem up_st {L : Array Bool} {i k : Nat} (h : i ≠ k) : Up (L.setIfInBounds i true) k ↔ Up L k := by unfold Up; rw [getD_setB (Ne.symm h)]
theorem SA.lt {w0 : World} {T : TypeId} {zero cells : List Value} {iA iS b : Nat} {L : Array Bool} {W : World} (h : SA w0 T zero cells iA iS b L W) (u : Up L iA) : b < W.heap.size := by
  obtain ⟨_, g2, g3⟩ := h.2.1 u
  by_cases s : Up L iS
  · exact (g3 s).lt
  · exact (g2 s).lt
theorem keep2 {w0 : World} {T : TypeId} {zero c1 c2 : List Value} {iA iS jA jS : Nat} {b : Nat × Nat} {L : Array Bool} {W W' : World} (h : SA2 w0 T zero c1 c2 iA iS jA jS b L W) {i : Nat} (h1 : i ≠ iA) (h2 : i ≠ iS) (h3 : i ≠ jA) (h4 : i ≠ jS) (hb : Below W.heap.size W W') : SA2 w0 T zero c1 c2 iA iS jA jS b (L.setIfInBounds i true) W' :=
  ⟨h.1.keep h1 h2 hb, h.2.1.keep h3 h4 hb, fun u v => h.2.2 ((up_st h1).1 u) ((up_st h3).1 v)⟩
theorem kp2 {w0 : World} {T : TypeId} {zero c1 c2 : List Value} {iA iS jA jS : Nat} {b : Nat × Nat} {L : Array Bool} {W : World} (h : SA2 w0 T zero c1 c2 iA iS jA jS b L W) {i : Nat} (h1 : i ≠ iA := by decide) (h2 : i ≠ iS := by decide) (h3 : i ≠ jA := by decide) (h4 : i ≠ jS := by decide) : SA2 w0 T zero c1 c2 iA iS jA jS b (L.setIfInBounds i true) W := keep2 h h1 h2 h3 h4 (Below.refl _ _)
theorem kc2 {w0 : World} {T : TypeId} {zero c1 c2 : List Value} {iA iS jA jS : Nat} {b : Nat × Nat} {L : Array Bool} {W : World} (h : SA2 w0 T zero c1 c2 iA iS jA jS b L W) {i : Nat} (h1 : i ≠ iA := by decide) (h2 : i ≠ iS := by decide) (h3 : i ≠ jA := by decide) (h4 : i ≠ jS := by decide) (W' : World) (hb : Below W.heap.size W W') : SA2 w0 T zero c1 c2 iA iS jA jS b (L.setIfInBounds i true) W' := keep2 h h1 h2 h3 h4 hb
theorem alloc21 {w0 : World} {T : TypeId} {zero c1 c2 : List Value} {iA iS jA jS : Nat} {b : Nat × Nat} {L : Array Bool} {W : World} (h : SA2 w0 T zero c1 c2 iA iS jA jS b L W) (hno : ¬ Up L iA) (h1 : iA ≠ iS) (h2 : iA ≠ jA) (h3 : iA ≠ jS) : SA2 w0 T zero c1 c2 iA iS jA jS (W.heap.size, b.2) (L.setIfInBounds iA true) (W.alloc (.cells zero.toArray T)) :=
  ⟨h.1.alloc hno h1, h.2.1.keep h2 h3 (al1 _), fun _ v => Nat.ne_of_gt (h.2.1.lt ((up_st h2).1 v))⟩
theorem alloc22 {w0 : World} {T : TypeId} {zero c1 c2 : List Value} {iA iS jA jS : Nat} {b : Nat × Nat} {L : Array Bool} {W : World} (h : SA2 w0 T zero c1 c2 iA iS jA jS b L W) (hno : ¬ Up L jA) (h1 : jA ≠ jS) (h2 : jA ≠ iA) (h3 : jA ≠ iS) : SA2 w0 T zero c1 c2 iA iS jA jS (b.1, W.heap.size) (L.setIfInBounds jA true) (W.alloc (.cells zero.toArray T)) :=
  ⟨h.1.keep h2 h3 (al1 _), h.2.1.alloc hno h1, fun u _ => Nat.ne_of_lt (h.1.lt ((up_st h2).1 u))⟩
theorem store21 {w0 : World} {T : TypeId} {zero c1 c2 : List Value} {iA iS jA jS : Nat} {b : Nat × Nat} {L : Array Bool} {W : World} (h : SA2 w0 T zero c1 c2 iA iS jA jS b L W) (hA : Up L iA) (hno : ¬ Up L iS) (h1 : iA ≠ iS) (h2 : iS ≠ jA) (h3 : iS ≠ jS) (hl : iS < L.size) (hz : c1.length = zero.length) : SA2 w0 T zero c1 c2 iA iS jA jS b (L.setIfInBounds iS true) (W.setCells b.1 0 c1) :=
  ⟨h.1.store hA hno h1 hl hz, h.2.1.upd h2 h3 (Upd.setCells _ 0 W) (fun u => (h.2.2 hA u).symm) (h.1.2.1 hA).1, fun _ v => h.2.2 hA ((up_st h2).1 v)⟩
theorem store22 {w0 : World} {T : TypeId} {zero c1 c2 : List Value} {iA iS jA jS : Nat} {b : Nat × Nat} {L : Array Bool} {W : World} (h : SA2 w0 T zero c1 c2 iA iS jA jS b L W) (hA : Up L jA) (hno : ¬ Up L jS) (h1 : jA ≠ jS) (h2 : jS ≠ iA) (h3 : jS ≠ iS) (hl : jS < L.size) (hz : c2.length = zero.length) : SA2 w0 T zero c1 c2 iA iS jA jS b (L.setIfInBounds jS true) (W.setCells b.2 0 c2) :=
  ⟨h.1.upd h2 h3 (Upd.setCells _ 0 W) (fun u => h.2.2 u hA) (h.2.1.2.1 hA).1, h.2.1.store hA hno h1 hl hz, fun u _ => h.2.2 ((up_st h2).1 u) hA⟩
theorem st21 {w0 : World} {c2 : List Value} {iA iS jA jS : Nat} {b : Nat × Nat} {L : Array Bool} {W : World} {V : Nat × Nat → Nat → Value} {Q : Exit → Act → World → Prop} {a : Act} {ops : Array Oper} {o : Oper} (ho : ops[iS]? = some o) (hg : o.guard = none) (hd : o.dst = none) {x y : Operand} (hop : o.op = .store 64 x y) {v p : Nat} (hx : a.eval x = PV b.1 0) (hy : a.eval y = DV v) (hp : Fp p) (hl : v < p) (h : SA2 w0 64 z13 (dgC (dg v)) c2 iA iS jA jS b L W) (hno : ¬ Up L iS) {D : List Nat} {n : Nat} (hdep : ∀ k ∈ D, Up L k) (hlt : ∀ k, k < n → k < L.size) (hm : iA ∈ D := by decide +kernel) (hn : iS < n := by decide) (h1 : iA ≠ iS := by decide) (h2 : iS ≠ jA := by decide) (h3 : iS ≠ jS := by decide) : DetOp Try.prog ops Q V (SA2 w0 64 z13 (dgC (dg v)) c2 iA iS jA jS) iS b L a W :=
  det_store ho hg hd hop hx hy (((h.1.2.1 (hdep iA hm)).2.1 hno).there 0 _ (by simp [dgC_l hp hl]; decide)) (szD hp hl) (dgC_one _) (store21 h (hdep iA hm) hno h1 h2 h3 (hlt iS hn) (by rw [dgC_l hp hl]; rfl))
theorem st22 {w0 : World} {c1 : List Value} {iA iS jA jS : Nat} {b : Nat × Nat} {L : Array Bool} {W : World} {V : Nat × Nat → Nat → Value} {Q : Exit → Act → World → Prop} {a : Act} {ops : Array Oper} {o : Oper} (ho : ops[jS]? = some o) (hg : o.guard = none) (hd : o.dst = none) {x y : Operand} (hop : o.op = .store 64 x y) {v p : Nat} (hx : a.eval x = PV b.2 0) (hy : a.eval y = DV v) (hp : Fp p) (hl : v < p) (h : SA2 w0 64 z13 c1 (dgC (dg v)) iA iS jA jS b L W) (hno : ¬ Up L jS) {D : List Nat} {n : Nat} (hdep : ∀ k ∈ D, Up L k) (hlt : ∀ k, k < n → k < L.size) (hm : jA ∈ D := by decide +kernel) (hn : jS < n := by decide) (h1 : jA ≠ jS := by decide) (h2 : jS ≠ iA := by decide) (h3 : jS ≠ iS := by decide) : DetOp Try.prog ops Q V (SA2 w0 64 z13 c1 (dgC (dg v)) iA iS jA jS) jS b L a W :=
  det_store ho hg hd hop hx hy (((h.2.1.2.1 (hdep jA hm)).2.1 hno).there 0 _ (by simp [dgC_l hp hl]; decide)) (szD hp hl) (dgC_one _) (store22 h (hdep jA hm) hno h1 h2 h3 (hlt jS hn) (by rw [dgC_l hp hl]; rfl))
theorem run_zeroD {a : Act} {W : World} {o : Oper} (hop : o.op = .build 64 #[]) : (execOp a.eval o).run Try.prog W = .ok (.value (.agg #[.int .u64 0, .int .u64 0, .int .u64 0, .int .u64 0, .int .u64 0, .int .u64 0, .int .u64 0, .int .u64 0, .int .u64 0, .int .u64 0, .int .u64 0, .int .u64 0, .int .u64 0])) W := by
  unfold execOp
  simp only [hop]
  have e4 : (#[] : Array (Nat × Operand)).map (fun q => (q.1, a.eval q.2)) = #[] := by simp
  rw [e4]
  have e : ∀ W : World, Sem.run Try.prog (do pure (Next.value (← Instr.build 64 #[]))) W = .ok (.value (.agg #[.int .u64 0, .int .u64 0, .int .u64 0, .int .u64 0, .int .u64 0, .int .u64 0, .int .u64 0, .int .u64 0, .int .u64 0, .int .u64 0, .int .u64 0, .int .u64 0, .int .u64 0])) W := fun W => by kernel_rfl
  exact e W
theorem run_eqZ {a : Act} {W : World} {o : Oper} {s t : Tmp} (hop : o.op = .binOp .eql 64 (.tmp s) (.tmp t) 64) {p x : Nat} {q : Bool} (e1 : a.eval (.tmp s) = DV x) (e2 : a.eval (.tmp t) = .agg #[.int .u64 0, .int .u64 0, .int .u64 0, .int .u64 0, .int .u64 0, .int .u64 0, .int .u64 0, .int .u64 0, .int .u64 0, .int .u64 0, .int .u64 0, .int .u64 0, .int .u64 0]) (h : Fp p) (hx : x < p) (hq : decide (x = 0) = q) : (execOp a.eval o).run Try.prog W = .ok (.value (.bool q)) W := by
  unfold execOp
  have ez := eqZ h hx q hq
  have gz : ∀ W xo yo, Sem.run Try.prog (eqGuard BinOp.eql 64 xo yo (.agg (dgC (dg x)).toArray) (.agg #[.int .u64 0, .int .u64 0, .int .u64 0, .int .u64 0, .int .u64 0, .int .u64 0, .int .u64 0, .int .u64 0, .int .u64 0, .int .u64 0, .int .u64 0, .int .u64 0, .int .u64 0])) W = .ok () W := fun W xo yo => by kernel_rfl
  unfold DV at e1
  simp only [hop, e1, e2]
  simp [go_sem, ez, gz]
theorem run_zeroT {a : Act} {W : World} {o : Oper} (hop : o.op = .build 70 #[]) : (execOp a.eval o).run Try.prog W = .ok (.value (.agg (tC 0 0 0).toArray)) W := by
  rw [tC0]
  unfold execOp
  simp only [hop]
  have e4 : (#[] : Array (Nat × Operand)).map (fun q => (q.1, a.eval q.2)) = #[] := by simp
  rw [e4]
  have e : ∀ W : World, Sem.run Try.prog (do pure (Next.value (← Instr.build 70 #[]))) W = .ok (.value (.agg (z13 ++ (z13 ++ z13)).toArray)) W := fun W => by kernel_rfl
  exact e W
theorem run_call2 {a : Act} {W : World} {o : Oper} {f : FuncId} {t1 t2 : Tmp} {tys : Array TypeId} (hop : o.op = .call { callee := .value (.func f), args := #[.tmp t1, .tmp t2], argTypes := tys }) {v1 v2 : Value} (e1 : a.eval (.tmp t1) = v1) (e2 : a.eval (.tmp t2) = v2)
    (eg : ∀ (args : Array Value) (w : World), (callFunc f args).run Try.prog w = .ok (.enter f args) w) : (execOp a.eval o).run Try.prog W = .ok (.enter f #[v1, v2]) W := by
  have e0 : a.eval (.func f) = .func (.func f) #[] #[] := rfl
  subst e1 e2
  unfold execOp
  simp only [hop, resolve, e0]
  simp [go_sem, Deferred.ofValue, invoke, eg]
theorem eg_twice (args : Array Value) (w : World) : (callFunc 60 args).run Try.prog w = .ok (.enter 60 args) w := eg_of Try.func60 (by kernel_rfl) (by kernel_rfl) args w
theorem rtw_lt {p x y z : Nat} (h : 0 < p) : (rtw p x y z).1 < p ∧ (rtw p x y z).2.1 < p ∧ (rtw p x y z).2.2 < p := by
  unfold rtw
  split
  · exact ⟨h, h, h⟩
  · exact ⟨fad_lt h, fsb_lt h, fad_lt h⟩
theorem twiceF {w : World} {p x y z : Nat} {F : List Value} (hF : fdC (lim p).length (dg p) = F) (h : Fp p) (hx : x < p) (hy : y < p) (hz : z < p) : Calls Try.prog 60 #[.agg F.toArray, .agg (tC x y z).toArray] w fun e w' => e = .returned (.agg (tC (rtw p x y z).1 (rtw p x y z).2.1 (rtw p x y z).2.2).toArray) ∧ Below w.heap.size w w' := by subst hF; exact rtwice_any h hx hy hz
/-- The reference's sum of two triples. -/
def rsm (p x1 y1 z1 x2 y2 z2 : Nat) : Nat × Nat × Nat :=
  if z1 = 0 then (x2, y2, z2) else if z2 = 0 then (x1, y1, z1) else
  let u := fml p y1 z2
  let t := fml p x1 z2
  let a := fsb p (fml p y2 z1) u
  let v := fsb p (fml p x2 z1) t
  if v = 0 then (if a = 0 then rtw p x1 y1 z1 else (0, 0, 0)) else
  let vv := fml p v v
  let v3 := fml p v vv
  let r := fml p vv t
  let zz := fml p z1 z2
  let h := fsb p (fsb p (fml p (fml p a a) zz) v3) (fad p r r)
  (fml p v h, fsb p (fml p a (fsb p r h)) (fml p v3 u), fml p v3 zz)
set_option maxHeartbeats 4000000 in
theorem rsum_any {w : World} {p x1 y1 z1 x2 y2 z2 : Nat} (h : Fp p) (hx1 : x1 < p) (hy1 : y1 < p) (hz1 : z1 < p) (hx2 : x2 < p) (hy2 : y2 < p) (hz2 : z2 < p) :
    Calls Try.prog 31 #[fV p, .agg (tC x1 y1 z1).toArray, .agg (tC x2 y2 z2).toArray] w fun e w' => e = .returned (.agg (tC (rsm p x1 y1 z1 x2 y2 z2).1 (rsm p x1 y1 z1 x2 y2 z2).2.1 (rsm p x1 y1 z1 x2 y2 z2).2.2).toArray) ∧ Below w.heap.size w w' := by
  obtain ⟨F, hF⟩ : ∃ F, fdC (lim p).length (dg p) = F := ⟨_, rfl⟩
  obtain ⟨T, hT⟩ : ∃ T, tC x1 y1 z1 = T := ⟨_, rfl⟩
  obtain ⟨U, hU⟩ : ∃ U, tC x2 y2 z2 = U := ⟨_, rfl⟩
  unfold fV
  rw [hF, hT, hU]
  have HA : Hid (Fp p ∧ x1 < p ∧ y1 < p ∧ z1 < p ∧ fdC (lim p).length (dg p) = F ∧ tC x1 y1 z1 = T ∧ (Try.prog.info? 66).map (·.size) = some F.length) := ⟨h, hx1, hy1, hz1, hF, hT, by
    rw [← hF, Try.sizeFd]
    have := (dg_ok h.2).1.2
    simp [fdC, this]⟩
  have HB : Hid (x2 < p ∧ y2 < p ∧ z2 < p ∧ tC x2 y2 z2 = U) := ⟨hx2, hy2, hz2, hU⟩
  have HP0 : Hid (0 < p) := by have := h.1; show _ < _; omega
  obtain ⟨R, hR⟩ : ∃ R, rsm p x1 y1 z1 x2 y2 z2 = R := ⟨_, rfl⟩
  rw [hR]
  have HR : Hid (rsm p x1 y1 z1 x2 y2 z2 = R) := hR
  clear hR
  obtain ⟨bz, hbz⟩ : ∃ q, decide (z1 = 0) = q := ⟨_, rfl⟩
  obtain ⟨by', hby⟩ : ∃ q, decide (z2 = 0) = q := ⟨_, rfl⟩
  have ez := eqZ h hz1 bz hbz
  have ey := eqZ h hz2 by' hby
  have HQ : Hid (decide (z1 = 0) = bz ∧ decide (z2 = 0) = by') := ⟨hbz, hby⟩
  have gz : ∀ W xo yo, Sem.run Try.prog (eqGuard BinOp.eql 64 xo yo (.agg (dgC (dg z1)).toArray) (.agg #[.int .u64 0, .int .u64 0, .int .u64 0, .int .u64 0, .int .u64 0, .int .u64 0, .int .u64 0, .int .u64 0, .int .u64 0, .int .u64 0, .int .u64 0, .int .u64 0, .int .u64 0])) W = .ok () W := fun W xo yo => by kernel_rfl
  have gy : ∀ W xo yo, Sem.run Try.prog (eqGuard BinOp.eql 64 xo yo (.agg (dgC (dg z2)).toArray) (.agg #[.int .u64 0, .int .u64 0, .int .u64 0, .int .u64 0, .int .u64 0, .int .u64 0, .int .u64 0, .int .u64 0, .int .u64 0, .int .u64 0, .int .u64 0, .int .u64 0, .int .u64 0])) W = .ok () W := fun W xo yo => by kernel_rfl
  clear h hx1 hy1 hz1 hx2 hy2 hz2 hF hT hU hbz hby
  go_enter Try.func31, Try.ntmps31
  go_upto_region 1 with (first | (refine wpList_boxR rfl 66 (.tmp 0) rfl F.toArray rfl ?_) | (refine wpList_boxR rfl 70 (.tmp 1) rfl T.toArray rfl ?_) | (refine wpList_boxR rfl 70 (.tmp 2) rfl U.toArray rfl ?_))
  refine wp_gen (fun W => Below w.heap.size w W ∧ Blk 66 W w.heap.size F ∧ Blk 70 W (w.heap.size + 1) T ∧ Blk 70 W (w.heap.size + 1 + 1) U ∧ Blk 70 W (w.heap.size + 1 + 1 + 1) (z13 ++ (z13 ++ z13))) ?_ ?_
  · have x2 := Blk.new 70 (w.alloc (.cells F.toArray 66)) T
    have x3 := Blk.new 70 ((w.alloc (.cells F.toArray 66)).alloc (.cells T.toArray 70)) U
    have x4 := Blk.new 70 (((w.alloc (.cells F.toArray 66)).alloc (.cells T.toArray 70)).alloc (.cells U.toArray 70)) (z13 ++ (z13 ++ z13))
    rw [World.size_alloc] at x2
    rw [World.size_alloc, World.size_alloc] at x3
    rw [World.size_alloc, World.size_alloc, World.size_alloc] at x4
    exact ⟨below_via (below_via (below_via (al1 _) (al1 _) (Nat.le_refl _)) (al1 _) (Nat.le_refl _)) (al1 _) (Nat.le_refl _), below_blk (al1 _) (by simp only [World.size_alloc]; omega) (below_blk (al1 _) (by simp only [World.size_alloc]; omega) (below_blk (al1 _) (by simp only [World.size_alloc]; omega) (Blk.new _ _ _))), below_blk (al1 _) (by simp only [World.size_alloc]; omega) (below_blk (al1 _) (by simp only [World.size_alloc]; omega) x2), below_blk (al1 _) (by simp only [World.size_alloc]; omega) x3, x4⟩
  rintro W1 hW
  have M1 : Hid (Below w.heap.size w W1 ∧ Blk 66 W1 w.heap.size F ∧ Blk 70 W1 (w.heap.size + 1) (tC x1 y1 z1) ∧ Blk 70 W1 (w.heap.size + 1 + 1) (tC x2 y2 z2) ∧ Blk 70 W1 (w.heap.size + 1 + 1 + 1) (z13 ++ (z13 ++ z13))) := ⟨hW.1, hW.2.1, HA.out.2.2.2.2.2.1 ▸ hW.2.2.1, HB.out.2.2.2 ▸ hW.2.2.2.1, hW.2.2.2.2⟩
  clear hW
  have Hr1 : Hid (W1.rangeAt (w.heap.size + 1) 26 (dgC (dg z1))) := (tC_at HA.out.1 HA.out.2.1 HA.out.2.2.1 HA.out.2.2.2.1 M1.out.2.2.1).2.2
  have Hr2 : Hid (W1.rangeAt (w.heap.size + 1 + 1) 26 (dgC (dg z2))) := (tC_at HA.out.1 HB.out.1 HB.out.2.1 HB.out.2.2.1 M1.out.2.2.2.1).2.2
  cases bz with
  | true =>
    have hz0 : z1 = 0 := of_decide_eq_true HQ.out.1
    have HR0 : Hid (R = (x2, y2, z2)) := by show _ = _; rw [← HR.out]; unfold rsm; rw [if_pos hz0]
    clear hz0
    have Hth : Hid (W1.there (w.heap.size + 1 + 1 + 1) 0 (tC x2 y2 z2).toArray.size) := M1.out.2.2.2.2.there 0 _ (by rw [List.size_toArray, tC_len HA.out.1 HB.out.1 HB.out.2.1 HB.out.2.2.1]; decide)
    go_wp2_with (first | (refine wpList_load_mid rfl _ _ rfl (w.heap.size + 1) 26 rfl (dgC (dg z1)) _ Hr1.out Try.underlying64 rfl (szD HA.out.1 HA.out.2.2.2.1) ?_) | (refine wpList_load_midG rfl _ _ rfl (w.heap.size + 1 + 1) 0 rfl (tC x2 y2 z2) _ M1.out.2.2.2.1.whole Try.underlying70 rfl (szTl HA.out.1 HB.out.1 HB.out.2.1 HB.out.2.2.1) ?_) | (refine wpList_store_mid rfl _ _ _ rfl (w.heap.size + 1 + 1 + 1) 0 (tC x2 y2 z2).toArray rfl rfl Hth.out (szT HA.out.1 HB.out.1 HB.out.2.1 HB.out.2.2.1) (tC_one _ _ _) ?_))
    have hU : Upd W1 (W1.setCells (w.heap.size + 1 + 1 + 1) 0 (tC x2 y2 z2)) (w.heap.size + 1 + 1 + 1) := Upd.setCells _ 0 W1
    have hF := M1.out.2.2.2.2.fill (tC x2 y2 z2) (by rw [tC_len HA.out.1 HB.out.1 HB.out.2.1 HB.out.2.2.1]; rfl)
    refine bodyPost_ret (v := .agg (tC x2 y2 z2).toArray) (results_blk (b := (w.heap.size + 1 + 1 + 1)) rfl rfl hF Try.underlying70 rfl (szT HA.out.1 HB.out.1 HB.out.2.1 HB.out.2.2.1)) rfl ⟨?_, hU.below M1.out.1 M1.out.1.size (by omega)⟩
    rw [HR0.out]
  | false =>
  cases by' with
  | true =>
    have hz0 : z2 = 0 := of_decide_eq_true HQ.out.2
    have HR0 : Hid (R = (x1, y1, z1)) := by show _ = _; rw [← HR.out]; unfold rsm; rw [if_neg (of_decide_eq_false HQ.out.1), if_pos hz0]
    clear hz0
    have Hth : Hid (W1.there (w.heap.size + 1 + 1 + 1) 0 (tC x1 y1 z1).toArray.size) := M1.out.2.2.2.2.there 0 _ (by rw [List.size_toArray, tC_len HA.out.1 HA.out.2.1 HA.out.2.2.1 HA.out.2.2.2.1]; decide)
    go_wp2_with (first | (refine wpList_load_mid rfl _ _ rfl (w.heap.size + 1) 26 rfl (dgC (dg z1)) _ Hr1.out Try.underlying64 rfl (szD HA.out.1 HA.out.2.2.2.1) ?_) | (refine wpList_load_midG rfl _ _ rfl (w.heap.size + 1 + 1) 26 rfl (dgC (dg z2)) _ Hr2.out Try.underlying64 rfl (szD HA.out.1 HB.out.2.2.1) ?_) | (refine wpList_load_midG rfl _ _ rfl (w.heap.size + 1) 0 rfl (tC x1 y1 z1) _ M1.out.2.2.1.whole Try.underlying70 rfl (szTl HA.out.1 HA.out.2.1 HA.out.2.2.1 HA.out.2.2.2.1) ?_) | (refine wpList_store_mid rfl _ _ _ rfl (w.heap.size + 1 + 1 + 1) 0 (tC x1 y1 z1).toArray rfl rfl Hth.out (szT HA.out.1 HA.out.2.1 HA.out.2.2.1 HA.out.2.2.2.1) (tC_one _ _ _) ?_))
    have hU : Upd W1 (W1.setCells (w.heap.size + 1 + 1 + 1) 0 (tC x1 y1 z1)) (w.heap.size + 1 + 1 + 1) := Upd.setCells _ 0 W1
    have hF := M1.out.2.2.2.2.fill (tC x1 y1 z1) (by rw [tC_len HA.out.1 HA.out.2.1 HA.out.2.2.1 HA.out.2.2.2.1]; rfl)
    refine bodyPost_ret (v := .agg (tC x1 y1 z1).toArray) (results_blk (b := (w.heap.size + 1 + 1 + 1)) rfl rfl hF Try.underlying70 rfl (szT HA.out.1 HA.out.2.1 HA.out.2.2.1 HA.out.2.2.2.1)) rfl ⟨?_, hU.below M1.out.1 M1.out.1.size (by omega)⟩
    rw [HR0.out]
  | false =>
  have HR2 : Hid (¬ z1 = 0 ∧ ¬ z2 = 0) := ⟨of_decide_eq_false HQ.out.1, of_decide_eq_false HQ.out.2⟩
  go_upto_region 5 with (first | (refine wpList_load_mid rfl _ _ rfl (w.heap.size + 1) 26 rfl (dgC (dg z1)) _ Hr1.out Try.underlying64 rfl (szD HA.out.1 HA.out.2.2.2.1) ?_) | (refine wpList_load_midG rfl _ _ rfl (w.heap.size + 1 + 1) 26 rfl (dgC (dg z2)) _ Hr2.out Try.underlying64 rfl (szD HA.out.1 HB.out.2.2.1) ?_))
  clear ez ey gz gy HQ Hr1 Hr2
  refine wp_gen (fun W => W = W1) rfl ?_
  rintro W0 hW0
  subst hW0
  refine wp_frame (fun A0 => A0.tmps.size = 122 ∧ A0.defers = [] ∧ A0.eval (.tmp 3) = .pointer (some ⟨w.heap.size, 0, none⟩) ∧ A0.eval (.tmp 4) = .pointer (some ⟨w.heap.size + 1, 0, none⟩) ∧ A0.eval (.tmp 5) = .pointer (some ⟨w.heap.size + 1 + 1, 0, none⟩) ∧ A0.eval (.tmp 6) = .pointer (some ⟨w.heap.size + 1 + 1 + 1, 0, none⟩)) ⟨by kernel_rfl, rfl, rfl, rfl, rfl, rfl⟩ ?_
  rintro A0 hA0
  have AF0 : Hid (A0.tmps.size = 122 ∧ A0.defers = [] ∧ A0.eval (.tmp 3) = .pointer (some ⟨w.heap.size, 0, none⟩) ∧ A0.eval (.tmp 4) = .pointer (some ⟨w.heap.size + 1, 0, none⟩) ∧ A0.eval (.tmp 5) = .pointer (some ⟨w.heap.size + 1 + 1, 0, none⟩) ∧ A0.eval (.tmp 6) = .pointer (some ⟨w.heap.size + 1 + 1 + 1, 0, none⟩)) := hA0
  clear hA0
  go_upto_region 5 with (fail)
  refine wp_region_o (β := (Nat × Nat)) (fun b k => if k = 12 then .pointer (some ⟨b.1, 0, none⟩) else if k = 13 then .pointer (some ⟨b.2, 0, none⟩) else ([.agg F.toArray, PV (w.heap.size + 1) 13, DV (y1), PV (w.heap.size + 1 + 1) 26, DV (z2), DV (fml p y1 z2), .agg F.toArray, PV (w.heap.size + 1) 0, DV (x1), PV (w.heap.size + 1 + 1) 26, DV (z2), DV (fml p x1 z2), undef, undef, undef, undef] : List Value).getD k undef) (SA2 W0 64 z13 (dgC (dg (fml p y1 z2))) (dgC (dg (fml p x1 z2))) 12 14 13 15) (0, 0) true (m := 122) AF0.out.1 rfl (by decide +kernel) (by decide +kernel) ⟨⟨Below.drew (Below.refl _ _), fun u => absurd u not_up_new, fun u => absurd u not_up_new⟩, ⟨Below.drew (Below.refl _ _), fun u => absurd u not_up_new, fun u => absurd u not_up_new⟩, fun u => absurd u not_up_new⟩ (fun i b L W a hi hno hlt hdep hv h0 hS => ?_) (fun b L W a hup hS hsz hdf hv h0 => ?_)
  · replace hi : i < 16 := hi
    obtain rfl | rfl | rfl | rfl | rfl | rfl | rfl | rfl | rfl | rfl | rfl | rfl | rfl | rfl | rfl | rfl : i = 0 ∨ i = 1 ∨ i = 2 ∨ i = 3 ∨ i = 4 ∨ i = 5 ∨ i = 6 ∨ i = 7 ∨ i = 8 ∨ i = 9 ∨ i = 10 ∨ i = 11 ∨ i = 12 ∨ i = 13 ∨ i = 14 ∨ i = 15 := by omega
    · exact ldF rfl rfl rfl (e0 h0 AF0.out.2.2.1) (bb hS.1.1 M1.out.2.1) HA.out.2.2.2.2.2.2 rfl (kp2 hS)
    · exact det_val rfl rfl (rf 1 rfl (e0 h0 AF0.out.2.2.2.1)) (kp2 hS)
    · exact ldR rfl rfl rfl (dv hv hdep 1 27) (tC_at HA.out.1 HA.out.2.1 HA.out.2.2.1 HA.out.2.2.2.1 (bb hS.1.1 M1.out.2.2.1)).2.1 HA.out.1 HA.out.2.2.1 rfl (kp2 hS)
    · exact det_val rfl rfl (rf 2 rfl (e0 h0 AF0.out.2.2.2.2.1)) (kp2 hS)
    · exact ldR rfl rfl rfl (dv hv hdep 3 29) (tC_at HA.out.1 HB.out.1 HB.out.2.1 HB.out.2.2.1 (bb hS.1.1 M1.out.2.2.2.1)).2.2 HA.out.1 HB.out.2.2.1 rfl (kp2 hS)
    · exact cM rfl rfl rfl (dv hv hdep 0 26) (dv hv hdep 2 28) (dv hv hdep 4 30) HA.out.2.2.2.2.1 HA.out.1 HA.out.2.2.1 HB.out.2.2.1 (kc2 hS)
    · exact ldF rfl rfl rfl (e0 h0 AF0.out.2.2.1) (bb hS.1.1 M1.out.2.1) HA.out.2.2.2.2.2.2 rfl (kp2 hS)
    · exact det_val rfl rfl (rf 0 rfl (e0 h0 AF0.out.2.2.2.1)) (kp2 hS)
    · exact ldR rfl rfl rfl (dv hv hdep 7 33) (tC_at HA.out.1 HA.out.2.1 HA.out.2.2.1 HA.out.2.2.2.1 (bb hS.1.1 M1.out.2.2.1)).1 HA.out.1 HA.out.2.1 rfl (kp2 hS)
    · exact det_val rfl rfl (rf 2 rfl (e0 h0 AF0.out.2.2.2.2.1)) (kp2 hS)
    · exact ldR rfl rfl rfl (dv hv hdep 9 35) (tC_at HA.out.1 HB.out.1 HB.out.2.1 HB.out.2.2.1 (bb hS.1.1 M1.out.2.2.2.1)).2.2 HA.out.1 HB.out.2.2.1 rfl (kp2 hS)
    · exact cM rfl rfl rfl (dv hv hdep 6 32) (dv hv hdep 8 34) (dv hv hdep 10 36) HA.out.2.2.2.2.1 HA.out.1 HA.out.2.1 HB.out.2.2.1 (kc2 hS)
    · exact det_alloc (W.heap.size, b.2) rfl rfl (run_allocD rfl) (fun k hk => by simp only [if_neg hk]) rfl (alloc21 hS hno (by decide) (by decide) (by decide))
    · exact det_alloc (b.1, W.heap.size) rfl rfl (run_allocD rfl) (fun k hk => by simp only [if_neg hk]) rfl (alloc22 hS hno (by decide) (by decide) (by decide))
    · exact st21 rfl rfl rfl rfl (dv hv hdep 12 7) (dv hv hdep 5 31) HA.out.1 (fml_lt HP0.out) hS hno hdep hlt
    · exact st22 rfl rfl rfl rfl (dv hv hdep 13 8) (dv hv hdep 11 37) HA.out.1 (fml_lt HP0.out) hS hno hdep hlt
  obtain ⟨W5, hWn⟩ : ∃ x, x = W := ⟨_, rfl⟩
  subst hWn
  obtain ⟨A5, hAn⟩ : ∃ x, x = a := ⟨_, rfl⟩
  subst hAn
  have hbl := hS.1.1
  obtain ⟨b7, hbn7⟩ : ∃ x, b.1 = x := ⟨_, rfl⟩
  obtain ⟨v7, q7⟩ : ∃ vv, fml p y1 z2 = vv := ⟨_, rfl⟩
  have Q7 : Hid (fml p y1 z2 = v7 ∧ v7 < p) := ⟨q7, q7 ▸ (fml_lt HP0.out)⟩
  have hB7 := (hS.1.2.1 (hup 12 (by decide))).2.2 (hup 14 (by decide))
  have hG7 := (hS.1.2.1 (hup 12 (by decide))).1
  have hE7 := hv 12 7 (by decide) rfl
  obtain ⟨b8, hbn8⟩ : ∃ x, b.2 = x := ⟨_, rfl⟩
  obtain ⟨v8, q8⟩ : ∃ vv, fml p x1 z2 = vv := ⟨_, rfl⟩
  have Q8 : Hid (fml p x1 z2 = v8 ∧ v8 < p) := ⟨q8, q8 ▸ (fml_lt HP0.out)⟩
  have hB8 := (hS.2.1.2.1 (hup 13 (by decide))).2.2 (hup 15 (by decide))
  have hG8 := (hS.2.1.2.1 (hup 13 (by decide))).1
  have hE8 := hv 13 8 (by decide) rfl
  rw [q7, hbn7] at hB7
  rw [hbn7] at hG7
  replace hE7 : A5.eval (.tmp 7) = .pointer (some ⟨b7, 0, none⟩) := by rw [← hbn7]; exact hE7
  rw [q8, hbn8] at hB8
  rw [hbn8] at hG8
  replace hE8 : A5.eval (.tmp 8) = .pointer (some ⟨b8, 0, none⟩) := by rw [← hbn8]; exact hE8
  have M5 : Hid (Below w.heap.size w W5 ∧ Blk 66 W5 w.heap.size F ∧ Blk 70 W5 (w.heap.size + 1) (tC x1 y1 z1) ∧ Blk 70 W5 (w.heap.size + 1 + 1) (tC x2 y2 z2) ∧ Blk 70 W5 (w.heap.size + 1 + 1 + 1) (z13 ++ (z13 ++ z13)) ∧ BD w W5 3 b7 v7 ∧ BD w W5 3 b8 v8) := ⟨below_via M1.out.1 hbl (Nat.le_refl _), bb hbl M1.out.2.1, bb hbl M1.out.2.2.1, bb hbl M1.out.2.2.2.1, bb hbl M1.out.2.2.2.2, ⟨hB7, by have h1 := M1.out.2.2.2.2.lt; omega⟩, ⟨hB8, by have h1 := M1.out.2.2.2.2.lt; omega⟩⟩
  have AF5 : Hid (A5.tmps.size = 122 ∧ A5.defers = [] ∧ At A5 3 w.heap.size ∧ At A5 4 (w.heap.size + 1) ∧ At A5 5 (w.heap.size + 1 + 1) ∧ At A5 6 (w.heap.size + 1 + 1 + 1) ∧ At A5 7 b7 ∧ At A5 8 b8) := ⟨hsz, hdf.trans AF0.out.2.1, e0 h0 AF0.out.2.2.1, e0 h0 AF0.out.2.2.2.1, e0 h0 AF0.out.2.2.2.2.1, e0 h0 AF0.out.2.2.2.2.2, hE7, hE8⟩
  clear hup hS hsz hdf hv h0 hbl hbn7 q7 hB7 hG7 hE7 hbn8 q8 hB8 hG8 hE8 M1 AF0
  go_upto_region 6 with (fail)
  refine wp_region_o (β := Nat) (fun b k => if k = 9 then .pointer (some ⟨b, 0, none⟩) else ([.agg F.toArray, .agg F.toArray, PV (w.heap.size + 1 + 1) 13, DV (y2), PV (w.heap.size + 1) 26, DV (z1), DV (fml p y2 z1), DV (v7), DV (fsb p (fml p y2 z1) v7), undef, undef] : List Value).getD k undef) (SA W5 64 z13 (dgC (dg (fsb p (fml p y2 z1) v7))) 9 10) 0 true (m := 122) AF5.out.1 rfl (by decide +kernel) (by decide +kernel) ⟨Below.drew (Below.refl _ _), fun u => absurd u not_up_new, fun u => absurd u not_up_new⟩ (fun i b L W a hi hno hlt hdep hv h0 hS => ?_) (fun b L W a hup hS hsz hdf hv h0 => ?_)
  · replace hi : i < 11 := hi
    obtain rfl | rfl | rfl | rfl | rfl | rfl | rfl | rfl | rfl | rfl | rfl : i = 0 ∨ i = 1 ∨ i = 2 ∨ i = 3 ∨ i = 4 ∨ i = 5 ∨ i = 6 ∨ i = 7 ∨ i = 8 ∨ i = 9 ∨ i = 10 := by omega
    · exact ldF rfl rfl rfl (e0 h0 AF5.out.2.2.1) (bb hS.1 M5.out.2.1) HA.out.2.2.2.2.2.2 rfl hS.kp
    · exact ldF rfl rfl rfl (e0 h0 AF5.out.2.2.1) (bb hS.1 M5.out.2.1) HA.out.2.2.2.2.2.2 rfl hS.kp
    · exact det_val rfl rfl (rf 1 rfl (e0 h0 AF5.out.2.2.2.2.1)) hS.kp
    · exact ldR rfl rfl rfl (dv hv hdep 2 40) (tC_at HA.out.1 HB.out.1 HB.out.2.1 HB.out.2.2.1 (bb hS.1 M5.out.2.2.2.1)).2.1 HA.out.1 HB.out.2.1 rfl hS.kp
    · exact det_val rfl rfl (rf 2 rfl (e0 h0 AF5.out.2.2.2.1)) hS.kp
    · exact ldR rfl rfl rfl (dv hv hdep 4 42) (tC_at HA.out.1 HA.out.2.1 HA.out.2.2.1 HA.out.2.2.2.1 (bb hS.1 M5.out.2.2.1)).2.2 HA.out.1 HA.out.2.2.2.1 rfl hS.kp
    · exact cM rfl rfl rfl (dv hv hdep 1 39) (dv hv hdep 3 41) (dv hv hdep 5 43) HA.out.2.2.2.2.1 HA.out.1 HB.out.2.1 HA.out.2.2.2.1 hS.kc
    · exact ldD rfl rfl rfl (e0 h0 AF5.out.2.2.2.2.2.2.1) (bb hS.1 M5.out.2.2.2.2.2.1.1) HA.out.1 Q7.out.2 rfl hS.kp
    · exact cS rfl rfl rfl (dv hv hdep 0 38) (dv hv hdep 6 44) (dv hv hdep 7 45) HA.out.2.2.2.2.1 HA.out.1 (fml_lt HP0.out) Q7.out.2 hS.kc
    · exact alA rfl rfl rfl (fun k hk => by simp only [if_neg hk]) rfl hS hno
    · exact stA rfl rfl rfl rfl (dv hv hdep 9 9) (dv hv hdep 8 46) HA.out.1 (fsb_lt HP0.out) hS hno hdep hlt
  obtain ⟨W6, hWn⟩ : ∃ x, x = W := ⟨_, rfl⟩
  subst hWn
  obtain ⟨A6, hAn⟩ : ∃ x, x = a := ⟨_, rfl⟩
  subst hAn
  have hbl := hS.1
  obtain ⟨b9, hbn9⟩ : ∃ x, b = x := ⟨_, rfl⟩
  obtain ⟨v9, q9⟩ : ∃ vv, fsb p (fml p y2 z1) v7 = vv := ⟨_, rfl⟩
  have Q9 : Hid (fsb p (fml p y2 z1) v7 = v9 ∧ v9 < p) := ⟨q9, q9 ▸ (fsb_lt HP0.out)⟩
  have hB9 := (hS.2.1 (hup 9 (by decide))).2.2 (hup 10 (by decide))
  have hG9 := (hS.2.1 (hup 9 (by decide))).1
  have hE9 := hv 9 9 (by decide) rfl
  rw [q9, hbn9] at hB9
  rw [hbn9] at hG9
  replace hE9 : A6.eval (.tmp 9) = .pointer (some ⟨b9, 0, none⟩) := by rw [← hbn9]; exact hE9
  have M6 : Hid (Below w.heap.size w W6 ∧ Blk 66 W6 w.heap.size F ∧ Blk 70 W6 (w.heap.size + 1) (tC x1 y1 z1) ∧ Blk 70 W6 (w.heap.size + 1 + 1) (tC x2 y2 z2) ∧ Blk 70 W6 (w.heap.size + 1 + 1 + 1) (z13 ++ (z13 ++ z13)) ∧ BD w W6 3 b7 v7 ∧ BD w W6 3 b8 v8 ∧ BD w W6 3 b9 v9) := ⟨below_via M5.out.1 hbl (Nat.le_refl _), bb hbl M5.out.2.1, bb hbl M5.out.2.2.1, bb hbl M5.out.2.2.2.1, bb hbl M5.out.2.2.2.2.1, ⟨bb hbl M5.out.2.2.2.2.2.1.1, M5.out.2.2.2.2.2.1.2⟩, ⟨bb hbl M5.out.2.2.2.2.2.2.1, M5.out.2.2.2.2.2.2.2⟩, ⟨hB9, by have h1 := M5.out.2.2.2.2.1.lt; omega⟩⟩
  have AF6 : Hid (A6.tmps.size = 122 ∧ A6.defers = [] ∧ At A6 3 w.heap.size ∧ At A6 4 (w.heap.size + 1) ∧ At A6 5 (w.heap.size + 1 + 1) ∧ At A6 6 (w.heap.size + 1 + 1 + 1) ∧ At A6 7 b7 ∧ At A6 8 b8 ∧ At A6 9 b9) := ⟨hsz, hdf.trans AF5.out.2.1, e0 h0 AF5.out.2.2.1, e0 h0 AF5.out.2.2.2.1, e0 h0 AF5.out.2.2.2.2.1, e0 h0 AF5.out.2.2.2.2.2.1, e0 h0 AF5.out.2.2.2.2.2.2.1, e0 h0 AF5.out.2.2.2.2.2.2.2, hE9⟩
  clear hup hS hsz hdf hv h0 hbl hbn9 q9 hB9 hG9 hE9 M5 AF5
  go_upto_region 7 with (fail)
  refine wp_region_o (β := Nat) (fun b k => if k = 9 then .pointer (some ⟨b, 0, none⟩) else ([.agg F.toArray, .agg F.toArray, PV (w.heap.size + 1 + 1) 0, DV (x2), PV (w.heap.size + 1) 26, DV (z1), DV (fml p x2 z1), DV (v8), DV (fsb p (fml p x2 z1) v8), undef, undef] : List Value).getD k undef) (SA W6 64 z13 (dgC (dg (fsb p (fml p x2 z1) v8))) 9 10) 0 true (m := 122) AF6.out.1 rfl (by decide +kernel) (by decide +kernel) ⟨Below.drew (Below.refl _ _), fun u => absurd u not_up_new, fun u => absurd u not_up_new⟩ (fun i b L W a hi hno hlt hdep hv h0 hS => ?_) (fun b L W a hup hS hsz hdf hv h0 => ?_)
  · replace hi : i < 11 := hi
    obtain rfl | rfl | rfl | rfl | rfl | rfl | rfl | rfl | rfl | rfl | rfl : i = 0 ∨ i = 1 ∨ i = 2 ∨ i = 3 ∨ i = 4 ∨ i = 5 ∨ i = 6 ∨ i = 7 ∨ i = 8 ∨ i = 9 ∨ i = 10 := by omega
    · exact ldF rfl rfl rfl (e0 h0 AF6.out.2.2.1) (bb hS.1 M6.out.2.1) HA.out.2.2.2.2.2.2 rfl hS.kp
    · exact ldF rfl rfl rfl (e0 h0 AF6.out.2.2.1) (bb hS.1 M6.out.2.1) HA.out.2.2.2.2.2.2 rfl hS.kp
    · exact det_val rfl rfl (rf 0 rfl (e0 h0 AF6.out.2.2.2.2.1)) hS.kp
    · exact ldR rfl rfl rfl (dv hv hdep 2 49) (tC_at HA.out.1 HB.out.1 HB.out.2.1 HB.out.2.2.1 (bb hS.1 M6.out.2.2.2.1)).1 HA.out.1 HB.out.1 rfl hS.kp
    · exact det_val rfl rfl (rf 2 rfl (e0 h0 AF6.out.2.2.2.1)) hS.kp
    · exact ldR rfl rfl rfl (dv hv hdep 4 51) (tC_at HA.out.1 HA.out.2.1 HA.out.2.2.1 HA.out.2.2.2.1 (bb hS.1 M6.out.2.2.1)).2.2 HA.out.1 HA.out.2.2.2.1 rfl hS.kp
    · exact cM rfl rfl rfl (dv hv hdep 1 48) (dv hv hdep 3 50) (dv hv hdep 5 52) HA.out.2.2.2.2.1 HA.out.1 HB.out.1 HA.out.2.2.2.1 hS.kc
    · exact ldD rfl rfl rfl (e0 h0 AF6.out.2.2.2.2.2.2.2.1) (bb hS.1 M6.out.2.2.2.2.2.2.1.1) HA.out.1 Q8.out.2 rfl hS.kp
    · exact cS rfl rfl rfl (dv hv hdep 0 47) (dv hv hdep 6 53) (dv hv hdep 7 54) HA.out.2.2.2.2.1 HA.out.1 (fml_lt HP0.out) Q8.out.2 hS.kc
    · exact alA rfl rfl rfl (fun k hk => by simp only [if_neg hk]) rfl hS hno
    · exact stA rfl rfl rfl rfl (dv hv hdep 9 10) (dv hv hdep 8 55) HA.out.1 (fsb_lt HP0.out) hS hno hdep hlt
  obtain ⟨W7, hWn⟩ : ∃ x, x = W := ⟨_, rfl⟩
  subst hWn
  obtain ⟨A7, hAn⟩ : ∃ x, x = a := ⟨_, rfl⟩
  subst hAn
  have hbl := hS.1
  obtain ⟨b10, hbn10⟩ : ∃ x, b = x := ⟨_, rfl⟩
  obtain ⟨v10, q10⟩ : ∃ vv, fsb p (fml p x2 z1) v8 = vv := ⟨_, rfl⟩
  have Q10 : Hid (fsb p (fml p x2 z1) v8 = v10 ∧ v10 < p) := ⟨q10, q10 ▸ (fsb_lt HP0.out)⟩
  have hB10 := (hS.2.1 (hup 9 (by decide))).2.2 (hup 10 (by decide))
  have hG10 := (hS.2.1 (hup 9 (by decide))).1
  have hE10 := hv 9 10 (by decide) rfl
  rw [q10, hbn10] at hB10
  rw [hbn10] at hG10
  replace hE10 : A7.eval (.tmp 10) = .pointer (some ⟨b10, 0, none⟩) := by rw [← hbn10]; exact hE10
  have M7 : Hid (Below w.heap.size w W7 ∧ Blk 66 W7 w.heap.size F ∧ Blk 70 W7 (w.heap.size + 1) (tC x1 y1 z1) ∧ Blk 70 W7 (w.heap.size + 1 + 1) (tC x2 y2 z2) ∧ Blk 70 W7 (w.heap.size + 1 + 1 + 1) (z13 ++ (z13 ++ z13)) ∧ BD w W7 3 b7 v7 ∧ BD w W7 3 b8 v8 ∧ BD w W7 3 b9 v9 ∧ BD w W7 3 b10 v10) := ⟨below_via M6.out.1 hbl (Nat.le_refl _), bb hbl M6.out.2.1, bb hbl M6.out.2.2.1, bb hbl M6.out.2.2.2.1, bb hbl M6.out.2.2.2.2.1, ⟨bb hbl M6.out.2.2.2.2.2.1.1, M6.out.2.2.2.2.2.1.2⟩, ⟨bb hbl M6.out.2.2.2.2.2.2.1.1, M6.out.2.2.2.2.2.2.1.2⟩, ⟨bb hbl M6.out.2.2.2.2.2.2.2.1, M6.out.2.2.2.2.2.2.2.2⟩, ⟨hB10, by have h1 := M6.out.2.2.2.2.1.lt; omega⟩⟩
  have AF7 : Hid (A7.tmps.size = 122 ∧ A7.defers = [] ∧ At A7 3 w.heap.size ∧ At A7 4 (w.heap.size + 1) ∧ At A7 5 (w.heap.size + 1 + 1) ∧ At A7 6 (w.heap.size + 1 + 1 + 1) ∧ At A7 7 b7 ∧ At A7 8 b8 ∧ At A7 9 b9 ∧ At A7 10 b10) := ⟨hsz, hdf.trans AF6.out.2.1, e0 h0 AF6.out.2.2.1, e0 h0 AF6.out.2.2.2.1, e0 h0 AF6.out.2.2.2.2.1, e0 h0 AF6.out.2.2.2.2.2.1, e0 h0 AF6.out.2.2.2.2.2.2.1, e0 h0 AF6.out.2.2.2.2.2.2.2.1, e0 h0 AF6.out.2.2.2.2.2.2.2.2, hE10⟩
  clear hup hS hsz hdf hv h0 hbl hbn10 q10 hB10 hG10 hE10 M6 AF6
  obtain ⟨q8, hq8⟩ : ∃ q, decide (v10 = 0) = q := ⟨_, rfl⟩
  have Hq8 : Hid (decide (v10 = 0) = q8) := hq8
  clear hq8
  go_upto_region 8 with (fail)
  refine wp_region_o (β := Unit) (fun _ k => ([DV v10, .agg #[.int .u64 0, .int .u64 0, .int .u64 0, .int .u64 0, .int .u64 0, .int .u64 0, .int .u64 0, .int .u64 0, .int .u64 0, .int .u64 0, .int .u64 0, .int .u64 0, .int .u64 0], .bool q8] : List Value).getD k undef) (fun _ _ W => W = W7) () false (m := 122) AF7.out.1 rfl (by decide +kernel) (by decide +kernel) rfl (fun i b L W a hi hno hlt hdep hv h0 hS => ?_) (fun b L W a hup hS hsz hdf hv h0 => ?_)
  · replace hi : i < 3 := hi
    have hB : Blk 64 W b10 (dgC (dg v10)) := by rw [hS]; exact M7.out.2.2.2.2.2.2.2.2.1
    obtain rfl | rfl | rfl : i = 0 ∨ i = 1 ∨ i = 2 := by omega
    · exact det_load rfl rfl rfl ((h0 10 (by decide +kernel)).trans AF7.out.2.2.2.2.2.2.2.2.2) hB.whole Try.underlying64 rfl (szD HA.out.1 Q10.out.2) rfl hS
    · exact det_val rfl rfl (run_zeroD rfl) hS
    · exact det_val rfl rfl (run_eqZ rfl (hv 0 56 (by decide) (hdep 0 (by decide +kernel)) rfl) (hv 1 57 (by decide) (hdep 1 (by decide +kernel)) rfl) HA.out.1 Q10.out.2 Hq8.out) hS
  replace hS := hS.symm
  subst hS
  obtain ⟨A8, hAn⟩ : ∃ x, x = a := ⟨_, rfl⟩
  subst hAn
  have hc := hv 2 58 (by decide) rfl
  have AF8 : Hid (A8.tmps.size = 122 ∧ A8.defers = [] ∧ At A8 3 w.heap.size ∧ At A8 4 (w.heap.size + 1) ∧ At A8 5 (w.heap.size + 1 + 1) ∧ At A8 6 (w.heap.size + 1 + 1 + 1) ∧ At A8 7 b7 ∧ At A8 8 b8 ∧ At A8 9 b9 ∧ At A8 10 b10) := ⟨hsz, hdf.trans AF7.out.2.1, (h0 3 (by decide +kernel)).trans AF7.out.2.2.1, (h0 4 (by decide +kernel)).trans AF7.out.2.2.2.1, (h0 5 (by decide +kernel)).trans AF7.out.2.2.2.2.1, (h0 6 (by decide +kernel)).trans AF7.out.2.2.2.2.2.1, (h0 7 (by decide +kernel)).trans AF7.out.2.2.2.2.2.2.1, (h0 8 (by decide +kernel)).trans AF7.out.2.2.2.2.2.2.2.1, (h0 9 (by decide +kernel)).trans AF7.out.2.2.2.2.2.2.2.2.1, (h0 10 (by decide +kernel)).trans AF7.out.2.2.2.2.2.2.2.2.2⟩
  have hc : A8.eval (.tmp 58) = .bool q8 := hc
  clear hup hsz hdf hv h0 AF7
  cases q8 with
  | false =>
  first | (refine wp_cond_false hc ?_) | (go_step; refine wp_cond_false hc ?_) | (go_step; go_step; refine wp_cond_false hc ?_) | (go_step; go_step; go_step; refine wp_cond_false hc ?_) | (go_step; go_step; go_step; go_step; refine wp_cond_false hc ?_)
  clear hc
  go_upto_region 12 with (fail)
  refine wp_region_o (β := Nat) (fun b k => if k = 4 then .pointer (some ⟨b, 0, none⟩) else ([.agg F.toArray, DV (v10), DV (v10), DV (fml p v10 v10), undef, undef] : List Value).getD k undef) (SA W7 64 z13 (dgC (dg (fml p v10 v10))) 4 5) 0 false (m := 122) AF8.out.1 rfl (by decide +kernel) (by decide +kernel) ⟨Below.refl _ _, fun u => absurd u not_up_new, fun u => absurd u not_up_new⟩ (fun i b L W a hi hno hlt hdep hv h0 hS => ?_) (fun b L W a hup hS hsz hdf hv h0 => ?_)
  · replace hi : i < 6 := hi
    obtain rfl | rfl | rfl | rfl | rfl | rfl : i = 0 ∨ i = 1 ∨ i = 2 ∨ i = 3 ∨ i = 4 ∨ i = 5 := by omega
    · exact ldF rfl rfl rfl (e0 h0 AF8.out.2.2.1) (bb hS.1 M7.out.2.1) HA.out.2.2.2.2.2.2 rfl hS.kp
    · exact ldD rfl rfl rfl (e0 h0 AF8.out.2.2.2.2.2.2.2.2.2) (bb hS.1 M7.out.2.2.2.2.2.2.2.2.1) HA.out.1 Q10.out.2 rfl hS.kp
    · exact ldD rfl rfl rfl (e0 h0 AF8.out.2.2.2.2.2.2.2.2.2) (bb hS.1 M7.out.2.2.2.2.2.2.2.2.1) HA.out.1 Q10.out.2 rfl hS.kp
    · exact cM rfl rfl rfl (dv hv hdep 0 66) (dv hv hdep 1 67) (dv hv hdep 2 68) HA.out.2.2.2.2.1 HA.out.1 Q10.out.2 Q10.out.2 hS.kc
    · exact alA rfl rfl rfl (fun k hk => by simp only [if_neg hk]) rfl hS hno
    · exact stA rfl rfl rfl rfl (dv hv hdep 4 11) (dv hv hdep 3 69) HA.out.1 (fml_lt HP0.out) hS hno hdep hlt
  obtain ⟨W12, hWn⟩ : ∃ x, x = W := ⟨_, rfl⟩
  subst hWn
  obtain ⟨A12, hAn⟩ : ∃ x, x = a := ⟨_, rfl⟩
  subst hAn
  have hbl := hS.1
  obtain ⟨b11, hbn11⟩ : ∃ x, b = x := ⟨_, rfl⟩
  obtain ⟨v11, q11⟩ : ∃ vv, fml p v10 v10 = vv := ⟨_, rfl⟩
  have Q11 : Hid (fml p v10 v10 = v11 ∧ v11 < p) := ⟨q11, q11 ▸ (fml_lt HP0.out)⟩
  have hB11 := (hS.2.1 (hup 4 (by decide))).2.2 (hup 5 (by decide))
  have hG11 := (hS.2.1 (hup 4 (by decide))).1
  have hE11 := hv 4 11 (by decide) rfl
  rw [q11, hbn11] at hB11
  rw [hbn11] at hG11
  replace hE11 : A12.eval (.tmp 11) = .pointer (some ⟨b11, 0, none⟩) := by rw [← hbn11]; exact hE11
  have M12 : Hid (Below w.heap.size w W12 ∧ Blk 66 W12 w.heap.size F ∧ Blk 70 W12 (w.heap.size + 1) (tC x1 y1 z1) ∧ Blk 70 W12 (w.heap.size + 1 + 1) (tC x2 y2 z2) ∧ Blk 70 W12 (w.heap.size + 1 + 1 + 1) (z13 ++ (z13 ++ z13)) ∧ BD w W12 3 b7 v7 ∧ BD w W12 3 b8 v8 ∧ BD w W12 3 b9 v9 ∧ BD w W12 3 b10 v10 ∧ BD w W12 3 b11 v11) := ⟨below_via M7.out.1 hbl (Nat.le_refl _), bb hbl M7.out.2.1, bb hbl M7.out.2.2.1, bb hbl M7.out.2.2.2.1, bb hbl M7.out.2.2.2.2.1, ⟨bb hbl M7.out.2.2.2.2.2.1.1, M7.out.2.2.2.2.2.1.2⟩, ⟨bb hbl M7.out.2.2.2.2.2.2.1.1, M7.out.2.2.2.2.2.2.1.2⟩, ⟨bb hbl M7.out.2.2.2.2.2.2.2.1.1, M7.out.2.2.2.2.2.2.2.1.2⟩, ⟨bb hbl M7.out.2.2.2.2.2.2.2.2.1, M7.out.2.2.2.2.2.2.2.2.2⟩, ⟨hB11, by have h1 := M7.out.2.2.2.2.1.lt; omega⟩⟩
  have AF12 : Hid (A12.tmps.size = 122 ∧ A12.defers = [] ∧ At A12 3 w.heap.size ∧ At A12 4 (w.heap.size + 1) ∧ At A12 5 (w.heap.size + 1 + 1) ∧ At A12 6 (w.heap.size + 1 + 1 + 1) ∧ At A12 7 b7 ∧ At A12 8 b8 ∧ At A12 9 b9 ∧ At A12 10 b10 ∧ At A12 11 b11) := ⟨hsz, hdf.trans AF8.out.2.1, e0 h0 AF8.out.2.2.1, e0 h0 AF8.out.2.2.2.1, e0 h0 AF8.out.2.2.2.2.1, e0 h0 AF8.out.2.2.2.2.2.1, e0 h0 AF8.out.2.2.2.2.2.2.1, e0 h0 AF8.out.2.2.2.2.2.2.2.1, e0 h0 AF8.out.2.2.2.2.2.2.2.2.1, e0 h0 AF8.out.2.2.2.2.2.2.2.2.2, hE11⟩
  clear hup hS hsz hdf hv h0 hbl hbn11 q11 hB11 hG11 hE11 M7 AF8
  go_upto_region 13 with (fail)
  refine wp_region_o (β := Nat) (fun b k => if k = 4 then .pointer (some ⟨b, 0, none⟩) else ([.agg F.toArray, DV (v10), DV (v11), DV (fml p v10 v11), undef, undef] : List Value).getD k undef) (SA W12 64 z13 (dgC (dg (fml p v10 v11))) 4 5) 0 false (m := 122) AF12.out.1 rfl (by decide +kernel) (by decide +kernel) ⟨Below.refl _ _, fun u => absurd u not_up_new, fun u => absurd u not_up_new⟩ (fun i b L W a hi hno hlt hdep hv h0 hS => ?_) (fun b L W a hup hS hsz hdf hv h0 => ?_)
  · replace hi : i < 6 := hi
    obtain rfl | rfl | rfl | rfl | rfl | rfl : i = 0 ∨ i = 1 ∨ i = 2 ∨ i = 3 ∨ i = 4 ∨ i = 5 := by omega
    · exact ldF rfl rfl rfl (e0 h0 AF12.out.2.2.1) (bb hS.1 M12.out.2.1) HA.out.2.2.2.2.2.2 rfl hS.kp
    · exact ldD rfl rfl rfl (e0 h0 AF12.out.2.2.2.2.2.2.2.2.2.1) (bb hS.1 M12.out.2.2.2.2.2.2.2.2.1.1) HA.out.1 Q10.out.2 rfl hS.kp
    · exact ldD rfl rfl rfl (e0 h0 AF12.out.2.2.2.2.2.2.2.2.2.2) (bb hS.1 M12.out.2.2.2.2.2.2.2.2.2.1) HA.out.1 Q11.out.2 rfl hS.kp
    · exact cM rfl rfl rfl (dv hv hdep 0 70) (dv hv hdep 1 71) (dv hv hdep 2 72) HA.out.2.2.2.2.1 HA.out.1 Q10.out.2 Q11.out.2 hS.kc
    · exact alA rfl rfl rfl (fun k hk => by simp only [if_neg hk]) rfl hS hno
    · exact stA rfl rfl rfl rfl (dv hv hdep 4 12) (dv hv hdep 3 73) HA.out.1 (fml_lt HP0.out) hS hno hdep hlt
  obtain ⟨W13, hWn⟩ : ∃ x, x = W := ⟨_, rfl⟩
  subst hWn
  obtain ⟨A13, hAn⟩ : ∃ x, x = a := ⟨_, rfl⟩
  subst hAn
  have hbl := hS.1
  obtain ⟨b12, hbn12⟩ : ∃ x, b = x := ⟨_, rfl⟩
  obtain ⟨v12, q12⟩ : ∃ vv, fml p v10 v11 = vv := ⟨_, rfl⟩
  have Q12 : Hid (fml p v10 v11 = v12 ∧ v12 < p) := ⟨q12, q12 ▸ (fml_lt HP0.out)⟩
  have hB12 := (hS.2.1 (hup 4 (by decide))).2.2 (hup 5 (by decide))
  have hG12 := (hS.2.1 (hup 4 (by decide))).1
  have hE12 := hv 4 12 (by decide) rfl
  rw [q12, hbn12] at hB12
  rw [hbn12] at hG12
  replace hE12 : A13.eval (.tmp 12) = .pointer (some ⟨b12, 0, none⟩) := by rw [← hbn12]; exact hE12
  have M13 : Hid (Below w.heap.size w W13 ∧ Blk 66 W13 w.heap.size F ∧ Blk 70 W13 (w.heap.size + 1) (tC x1 y1 z1) ∧ Blk 70 W13 (w.heap.size + 1 + 1) (tC x2 y2 z2) ∧ Blk 70 W13 (w.heap.size + 1 + 1 + 1) (z13 ++ (z13 ++ z13)) ∧ BD w W13 3 b7 v7 ∧ BD w W13 3 b8 v8 ∧ BD w W13 3 b9 v9 ∧ BD w W13 3 b10 v10 ∧ BD w W13 3 b11 v11 ∧ BD w W13 3 b12 v12) := ⟨below_via M12.out.1 hbl (Nat.le_refl _), bb hbl M12.out.2.1, bb hbl M12.out.2.2.1, bb hbl M12.out.2.2.2.1, bb hbl M12.out.2.2.2.2.1, ⟨bb hbl M12.out.2.2.2.2.2.1.1, M12.out.2.2.2.2.2.1.2⟩, ⟨bb hbl M12.out.2.2.2.2.2.2.1.1, M12.out.2.2.2.2.2.2.1.2⟩, ⟨bb hbl M12.out.2.2.2.2.2.2.2.1.1, M12.out.2.2.2.2.2.2.2.1.2⟩, ⟨bb hbl M12.out.2.2.2.2.2.2.2.2.1.1, M12.out.2.2.2.2.2.2.2.2.1.2⟩, ⟨bb hbl M12.out.2.2.2.2.2.2.2.2.2.1, M12.out.2.2.2.2.2.2.2.2.2.2⟩, ⟨hB12, by have h1 := M12.out.2.2.2.2.1.lt; omega⟩⟩
  have AF13 : Hid (A13.tmps.size = 122 ∧ A13.defers = [] ∧ At A13 3 w.heap.size ∧ At A13 4 (w.heap.size + 1) ∧ At A13 5 (w.heap.size + 1 + 1) ∧ At A13 6 (w.heap.size + 1 + 1 + 1) ∧ At A13 7 b7 ∧ At A13 8 b8 ∧ At A13 9 b9 ∧ At A13 10 b10 ∧ At A13 11 b11 ∧ At A13 12 b12) := ⟨hsz, hdf.trans AF12.out.2.1, e0 h0 AF12.out.2.2.1, e0 h0 AF12.out.2.2.2.1, e0 h0 AF12.out.2.2.2.2.1, e0 h0 AF12.out.2.2.2.2.2.1, e0 h0 AF12.out.2.2.2.2.2.2.1, e0 h0 AF12.out.2.2.2.2.2.2.2.1, e0 h0 AF12.out.2.2.2.2.2.2.2.2.1, e0 h0 AF12.out.2.2.2.2.2.2.2.2.2.1, e0 h0 AF12.out.2.2.2.2.2.2.2.2.2.2, hE12⟩
  clear hup hS hsz hdf hv h0 hbl hbn12 q12 hB12 hG12 hE12 M12 AF12
  go_upto_region 14 with (fail)
  refine wp_region_o (β := Nat) (fun b k => if k = 4 then .pointer (some ⟨b, 0, none⟩) else ([.agg F.toArray, DV (v11), DV (v8), DV (fml p v11 v8), undef, undef] : List Value).getD k undef) (SA W13 64 z13 (dgC (dg (fml p v11 v8))) 4 5) 0 false (m := 122) AF13.out.1 rfl (by decide +kernel) (by decide +kernel) ⟨Below.refl _ _, fun u => absurd u not_up_new, fun u => absurd u not_up_new⟩ (fun i b L W a hi hno hlt hdep hv h0 hS => ?_) (fun b L W a hup hS hsz hdf hv h0 => ?_)
  · replace hi : i < 6 := hi
    obtain rfl | rfl | rfl | rfl | rfl | rfl : i = 0 ∨ i = 1 ∨ i = 2 ∨ i = 3 ∨ i = 4 ∨ i = 5 := by omega
    · exact ldF rfl rfl rfl (e0 h0 AF13.out.2.2.1) (bb hS.1 M13.out.2.1) HA.out.2.2.2.2.2.2 rfl hS.kp
    · exact ldD rfl rfl rfl (e0 h0 AF13.out.2.2.2.2.2.2.2.2.2.2.1) (bb hS.1 M13.out.2.2.2.2.2.2.2.2.2.1.1) HA.out.1 Q11.out.2 rfl hS.kp
    · exact ldD rfl rfl rfl (e0 h0 AF13.out.2.2.2.2.2.2.2.1) (bb hS.1 M13.out.2.2.2.2.2.2.1.1) HA.out.1 Q8.out.2 rfl hS.kp
    · exact cM rfl rfl rfl (dv hv hdep 0 74) (dv hv hdep 1 75) (dv hv hdep 2 76) HA.out.2.2.2.2.1 HA.out.1 Q11.out.2 Q8.out.2 hS.kc
    · exact alA rfl rfl rfl (fun k hk => by simp only [if_neg hk]) rfl hS hno
    · exact stA rfl rfl rfl rfl (dv hv hdep 4 13) (dv hv hdep 3 77) HA.out.1 (fml_lt HP0.out) hS hno hdep hlt
  obtain ⟨W14, hWn⟩ : ∃ x, x = W := ⟨_, rfl⟩
  subst hWn
  obtain ⟨A14, hAn⟩ : ∃ x, x = a := ⟨_, rfl⟩
  subst hAn
  have hbl := hS.1
  obtain ⟨b13, hbn13⟩ : ∃ x, b = x := ⟨_, rfl⟩
  obtain ⟨v13, q13⟩ : ∃ vv, fml p v11 v8 = vv := ⟨_, rfl⟩
  have Q13 : Hid (fml p v11 v8 = v13 ∧ v13 < p) := ⟨q13, q13 ▸ (fml_lt HP0.out)⟩
  have hB13 := (hS.2.1 (hup 4 (by decide))).2.2 (hup 5 (by decide))
  have hG13 := (hS.2.1 (hup 4 (by decide))).1
  have hE13 := hv 4 13 (by decide) rfl
  rw [q13, hbn13] at hB13
  rw [hbn13] at hG13
  replace hE13 : A14.eval (.tmp 13) = .pointer (some ⟨b13, 0, none⟩) := by rw [← hbn13]; exact hE13
  have M14 : Hid (Below w.heap.size w W14 ∧ Blk 66 W14 w.heap.size F ∧ Blk 70 W14 (w.heap.size + 1) (tC x1 y1 z1) ∧ Blk 70 W14 (w.heap.size + 1 + 1) (tC x2 y2 z2) ∧ Blk 70 W14 (w.heap.size + 1 + 1 + 1) (z13 ++ (z13 ++ z13)) ∧ BD w W14 3 b7 v7 ∧ BD w W14 3 b9 v9 ∧ BD w W14 3 b10 v10 ∧ BD w W14 3 b12 v12 ∧ BD w W14 3 b13 v13) := ⟨below_via M13.out.1 hbl (Nat.le_refl _), bb hbl M13.out.2.1, bb hbl M13.out.2.2.1, bb hbl M13.out.2.2.2.1, bb hbl M13.out.2.2.2.2.1, ⟨bb hbl M13.out.2.2.2.2.2.1.1, M13.out.2.2.2.2.2.1.2⟩, ⟨bb hbl M13.out.2.2.2.2.2.2.2.1.1, M13.out.2.2.2.2.2.2.2.1.2⟩, ⟨bb hbl M13.out.2.2.2.2.2.2.2.2.1.1, M13.out.2.2.2.2.2.2.2.2.1.2⟩, ⟨bb hbl M13.out.2.2.2.2.2.2.2.2.2.2.1, M13.out.2.2.2.2.2.2.2.2.2.2.2⟩, ⟨hB13, by have h1 := M13.out.2.2.2.2.1.lt; omega⟩⟩
  have AF14 : Hid (A14.tmps.size = 122 ∧ A14.defers = [] ∧ At A14 3 w.heap.size ∧ At A14 4 (w.heap.size + 1) ∧ At A14 5 (w.heap.size + 1 + 1) ∧ At A14 6 (w.heap.size + 1 + 1 + 1) ∧ At A14 7 b7 ∧ At A14 9 b9 ∧ At A14 10 b10 ∧ At A14 12 b12 ∧ At A14 13 b13) := ⟨hsz, hdf.trans AF13.out.2.1, e0 h0 AF13.out.2.2.1, e0 h0 AF13.out.2.2.2.1, e0 h0 AF13.out.2.2.2.2.1, e0 h0 AF13.out.2.2.2.2.2.1, e0 h0 AF13.out.2.2.2.2.2.2.1, e0 h0 AF13.out.2.2.2.2.2.2.2.2.1, e0 h0 AF13.out.2.2.2.2.2.2.2.2.2.1, e0 h0 AF13.out.2.2.2.2.2.2.2.2.2.2.2, hE13⟩
  clear hup hS hsz hdf hv h0 hbl hbn13 q13 hB13 hG13 hE13 M13 AF13
  go_upto_region 15 with (fail)
  refine wp_region_o (β := Nat) (fun b k => if k = 6 then .pointer (some ⟨b, 0, none⟩) else ([.agg F.toArray, PV (w.heap.size + 1) 26, DV (z1), PV (w.heap.size + 1 + 1) 26, DV (z2), DV (fml p z1 z2), undef, undef] : List Value).getD k undef) (SA W14 64 z13 (dgC (dg (fml p z1 z2))) 6 7) 0 false (m := 122) AF14.out.1 rfl (by decide +kernel) (by decide +kernel) ⟨Below.refl _ _, fun u => absurd u not_up_new, fun u => absurd u not_up_new⟩ (fun i b L W a hi hno hlt hdep hv h0 hS => ?_) (fun b L W a hup hS hsz hdf hv h0 => ?_)
  · replace hi : i < 8 := hi
    obtain rfl | rfl | rfl | rfl | rfl | rfl | rfl | rfl : i = 0 ∨ i = 1 ∨ i = 2 ∨ i = 3 ∨ i = 4 ∨ i = 5 ∨ i = 6 ∨ i = 7 := by omega
    · exact ldF rfl rfl rfl (e0 h0 AF14.out.2.2.1) (bb hS.1 M14.out.2.1) HA.out.2.2.2.2.2.2 rfl hS.kp
    · exact det_val rfl rfl (rf 2 rfl (e0 h0 AF14.out.2.2.2.1)) hS.kp
    · exact ldR rfl rfl rfl (dv hv hdep 1 79) (tC_at HA.out.1 HA.out.2.1 HA.out.2.2.1 HA.out.2.2.2.1 (bb hS.1 M14.out.2.2.1)).2.2 HA.out.1 HA.out.2.2.2.1 rfl hS.kp
    · exact det_val rfl rfl (rf 2 rfl (e0 h0 AF14.out.2.2.2.2.1)) hS.kp
    · exact ldR rfl rfl rfl (dv hv hdep 3 81) (tC_at HA.out.1 HB.out.1 HB.out.2.1 HB.out.2.2.1 (bb hS.1 M14.out.2.2.2.1)).2.2 HA.out.1 HB.out.2.2.1 rfl hS.kp
    · exact cM rfl rfl rfl (dv hv hdep 0 78) (dv hv hdep 2 80) (dv hv hdep 4 82) HA.out.2.2.2.2.1 HA.out.1 HA.out.2.2.2.1 HB.out.2.2.1 hS.kc
    · exact alA rfl rfl rfl (fun k hk => by simp only [if_neg hk]) rfl hS hno
    · exact stA rfl rfl rfl rfl (dv hv hdep 6 14) (dv hv hdep 5 83) HA.out.1 (fml_lt HP0.out) hS hno hdep hlt
  obtain ⟨W15, hWn⟩ : ∃ x, x = W := ⟨_, rfl⟩
  subst hWn
  obtain ⟨A15, hAn⟩ : ∃ x, x = a := ⟨_, rfl⟩
  subst hAn
  have hbl := hS.1
  obtain ⟨b14, hbn14⟩ : ∃ x, b = x := ⟨_, rfl⟩
  obtain ⟨v14, q14⟩ : ∃ vv, fml p z1 z2 = vv := ⟨_, rfl⟩
  have Q14 : Hid (fml p z1 z2 = v14 ∧ v14 < p) := ⟨q14, q14 ▸ (fml_lt HP0.out)⟩
  have hB14 := (hS.2.1 (hup 6 (by decide))).2.2 (hup 7 (by decide))
  have hG14 := (hS.2.1 (hup 6 (by decide))).1
  have hE14 := hv 6 14 (by decide) rfl
  rw [q14, hbn14] at hB14
  rw [hbn14] at hG14
  replace hE14 : A15.eval (.tmp 14) = .pointer (some ⟨b14, 0, none⟩) := by rw [← hbn14]; exact hE14
  have M15 : Hid (Below w.heap.size w W15 ∧ Blk 66 W15 w.heap.size F ∧ Blk 70 W15 (w.heap.size + 1) (tC x1 y1 z1) ∧ Blk 70 W15 (w.heap.size + 1 + 1) (tC x2 y2 z2) ∧ Blk 70 W15 (w.heap.size + 1 + 1 + 1) (z13 ++ (z13 ++ z13)) ∧ BD w W15 3 b7 v7 ∧ BD w W15 3 b9 v9 ∧ BD w W15 3 b10 v10 ∧ BD w W15 3 b12 v12 ∧ BD w W15 3 b13 v13 ∧ BD w W15 3 b14 v14) := ⟨below_via M14.out.1 hbl (Nat.le_refl _), bb hbl M14.out.2.1, bb hbl M14.out.2.2.1, bb hbl M14.out.2.2.2.1, bb hbl M14.out.2.2.2.2.1, ⟨bb hbl M14.out.2.2.2.2.2.1.1, M14.out.2.2.2.2.2.1.2⟩, ⟨bb hbl M14.out.2.2.2.2.2.2.1.1, M14.out.2.2.2.2.2.2.1.2⟩, ⟨bb hbl M14.out.2.2.2.2.2.2.2.1.1, M14.out.2.2.2.2.2.2.2.1.2⟩, ⟨bb hbl M14.out.2.2.2.2.2.2.2.2.1.1, M14.out.2.2.2.2.2.2.2.2.1.2⟩, ⟨bb hbl M14.out.2.2.2.2.2.2.2.2.2.1, M14.out.2.2.2.2.2.2.2.2.2.2⟩, ⟨hB14, by have h1 := M14.out.2.2.2.2.1.lt; omega⟩⟩
  have AF15 : Hid (A15.tmps.size = 122 ∧ A15.defers = [] ∧ At A15 3 w.heap.size ∧ At A15 4 (w.heap.size + 1) ∧ At A15 5 (w.heap.size + 1 + 1) ∧ At A15 6 (w.heap.size + 1 + 1 + 1) ∧ At A15 7 b7 ∧ At A15 9 b9 ∧ At A15 10 b10 ∧ At A15 12 b12 ∧ At A15 13 b13 ∧ At A15 14 b14) := ⟨hsz, hdf.trans AF14.out.2.1, e0 h0 AF14.out.2.2.1, e0 h0 AF14.out.2.2.2.1, e0 h0 AF14.out.2.2.2.2.1, e0 h0 AF14.out.2.2.2.2.2.1, e0 h0 AF14.out.2.2.2.2.2.2.1, e0 h0 AF14.out.2.2.2.2.2.2.2.1, e0 h0 AF14.out.2.2.2.2.2.2.2.2.1, e0 h0 AF14.out.2.2.2.2.2.2.2.2.2.1, e0 h0 AF14.out.2.2.2.2.2.2.2.2.2.2, hE14⟩
  clear hup hS hsz hdf hv h0 hbl hbn14 q14 hB14 hG14 hE14 M14 AF14
  go_upto_region 16 with (fail)
  refine wp_region_o (β := Nat) (fun b k => if k = 16 then .pointer (some ⟨b, 0, none⟩) else ([.agg F.toArray, .agg F.toArray, .agg F.toArray, .agg F.toArray, DV (v9), DV (v9), DV (fml p v9 v9), DV (v14), DV (fml p (fml p v9 v9) v14), DV (v12), DV (fsb p (fml p (fml p v9 v9) v14) v12), .agg F.toArray, DV (v13), DV (v13), DV (fad p v13 v13), DV (fsb p (fsb p (fml p (fml p v9 v9) v14) v12) (fad p v13 v13)), undef, undef] : List Value).getD k undef) (SA W15 64 z13 (dgC (dg (fsb p (fsb p (fml p (fml p v9 v9) v14) v12) (fad p v13 v13)))) 16 17) 0 true (m := 122) AF15.out.1 rfl (by decide +kernel) (by decide +kernel) ⟨Below.drew (Below.refl _ _), fun u => absurd u not_up_new, fun u => absurd u not_up_new⟩ (fun i b L W a hi hno hlt hdep hv h0 hS => ?_) (fun b L W a hup hS hsz hdf hv h0 => ?_)
  · replace hi : i < 18 := hi
    obtain rfl | rfl | rfl | rfl | rfl | rfl | rfl | rfl | rfl | rfl | rfl | rfl | rfl | rfl | rfl | rfl | rfl | rfl : i = 0 ∨ i = 1 ∨ i = 2 ∨ i = 3 ∨ i = 4 ∨ i = 5 ∨ i = 6 ∨ i = 7 ∨ i = 8 ∨ i = 9 ∨ i = 10 ∨ i = 11 ∨ i = 12 ∨ i = 13 ∨ i = 14 ∨ i = 15 ∨ i = 16 ∨ i = 17 := by omega
    · exact ldF rfl rfl rfl (e0 h0 AF15.out.2.2.1) (bb hS.1 M15.out.2.1) HA.out.2.2.2.2.2.2 rfl hS.kp
    · exact ldF rfl rfl rfl (e0 h0 AF15.out.2.2.1) (bb hS.1 M15.out.2.1) HA.out.2.2.2.2.2.2 rfl hS.kp
    · exact ldF rfl rfl rfl (e0 h0 AF15.out.2.2.1) (bb hS.1 M15.out.2.1) HA.out.2.2.2.2.2.2 rfl hS.kp
    · exact ldF rfl rfl rfl (e0 h0 AF15.out.2.2.1) (bb hS.1 M15.out.2.1) HA.out.2.2.2.2.2.2 rfl hS.kp
    · exact ldD rfl rfl rfl (e0 h0 AF15.out.2.2.2.2.2.2.2.1) (bb hS.1 M15.out.2.2.2.2.2.2.1.1) HA.out.1 Q9.out.2 rfl hS.kp
    · exact ldD rfl rfl rfl (e0 h0 AF15.out.2.2.2.2.2.2.2.1) (bb hS.1 M15.out.2.2.2.2.2.2.1.1) HA.out.1 Q9.out.2 rfl hS.kp
    · exact cM rfl rfl rfl (dv hv hdep 3 87) (dv hv hdep 4 88) (dv hv hdep 5 89) HA.out.2.2.2.2.1 HA.out.1 Q9.out.2 Q9.out.2 hS.kc
    · exact ldD rfl rfl rfl (e0 h0 AF15.out.2.2.2.2.2.2.2.2.2.2.2) (bb hS.1 M15.out.2.2.2.2.2.2.2.2.2.2.1) HA.out.1 Q14.out.2 rfl hS.kp
    · exact cM rfl rfl rfl (dv hv hdep 2 86) (dv hv hdep 6 90) (dv hv hdep 7 91) HA.out.2.2.2.2.1 HA.out.1 (fml_lt HP0.out) Q14.out.2 hS.kc
    · exact ldD rfl rfl rfl (e0 h0 AF15.out.2.2.2.2.2.2.2.2.2.1) (bb hS.1 M15.out.2.2.2.2.2.2.2.2.1.1) HA.out.1 Q12.out.2 rfl hS.kp
    · exact cS rfl rfl rfl (dv hv hdep 1 85) (dv hv hdep 8 92) (dv hv hdep 9 93) HA.out.2.2.2.2.1 HA.out.1 (fml_lt HP0.out) Q12.out.2 hS.kc
    · exact ldF rfl rfl rfl (e0 h0 AF15.out.2.2.1) (bb hS.1 M15.out.2.1) HA.out.2.2.2.2.2.2 rfl hS.kp
    · exact ldD rfl rfl rfl (e0 h0 AF15.out.2.2.2.2.2.2.2.2.2.2.1) (bb hS.1 M15.out.2.2.2.2.2.2.2.2.2.1.1) HA.out.1 Q13.out.2 rfl hS.kp
    · exact ldD rfl rfl rfl (e0 h0 AF15.out.2.2.2.2.2.2.2.2.2.2.1) (bb hS.1 M15.out.2.2.2.2.2.2.2.2.2.1.1) HA.out.1 Q13.out.2 rfl hS.kp
    · exact cA rfl rfl rfl (dv hv hdep 11 95) (dv hv hdep 12 96) (dv hv hdep 13 97) HA.out.2.2.2.2.1 HA.out.1 Q13.out.2 Q13.out.2 hS.kc
    · exact cS rfl rfl rfl (dv hv hdep 0 84) (dv hv hdep 10 94) (dv hv hdep 14 98) HA.out.2.2.2.2.1 HA.out.1 (fsb_lt HP0.out) (fad_lt HP0.out) hS.kc
    · exact alA rfl rfl rfl (fun k hk => by simp only [if_neg hk]) rfl hS hno
    · exact stA rfl rfl rfl rfl (dv hv hdep 16 15) (dv hv hdep 15 99) HA.out.1 (fsb_lt HP0.out) hS hno hdep hlt
  obtain ⟨W16, hWn⟩ : ∃ x, x = W := ⟨_, rfl⟩
  subst hWn
  obtain ⟨A16, hAn⟩ : ∃ x, x = a := ⟨_, rfl⟩
  subst hAn
  have hbl := hS.1
  obtain ⟨b15, hbn15⟩ : ∃ x, b = x := ⟨_, rfl⟩
  obtain ⟨v15, q15⟩ : ∃ vv, fsb p (fsb p (fml p (fml p v9 v9) v14) v12) (fad p v13 v13) = vv := ⟨_, rfl⟩
  have Q15 : Hid (fsb p (fsb p (fml p (fml p v9 v9) v14) v12) (fad p v13 v13) = v15 ∧ v15 < p) := ⟨q15, q15 ▸ (fsb_lt HP0.out)⟩
  have hB15 := (hS.2.1 (hup 16 (by decide))).2.2 (hup 17 (by decide))
  have hG15 := (hS.2.1 (hup 16 (by decide))).1
  have hE15 := hv 16 15 (by decide) rfl
  rw [q15, hbn15] at hB15
  rw [hbn15] at hG15
  replace hE15 : A16.eval (.tmp 15) = .pointer (some ⟨b15, 0, none⟩) := by rw [← hbn15]; exact hE15
  have M16 : Hid (Below w.heap.size w W16 ∧ Blk 66 W16 w.heap.size F ∧ Blk 70 W16 (w.heap.size + 1) (tC x1 y1 z1) ∧ Blk 70 W16 (w.heap.size + 1 + 1) (tC x2 y2 z2) ∧ Blk 70 W16 (w.heap.size + 1 + 1 + 1) (z13 ++ (z13 ++ z13)) ∧ BD w W16 3 b7 v7 ∧ BD w W16 3 b9 v9 ∧ BD w W16 3 b10 v10 ∧ BD w W16 3 b12 v12 ∧ BD w W16 3 b13 v13 ∧ BD w W16 3 b14 v14 ∧ BD w W16 3 b15 v15) := ⟨below_via M15.out.1 hbl (Nat.le_refl _), bb hbl M15.out.2.1, bb hbl M15.out.2.2.1, bb hbl M15.out.2.2.2.1, bb hbl M15.out.2.2.2.2.1, ⟨bb hbl M15.out.2.2.2.2.2.1.1, M15.out.2.2.2.2.2.1.2⟩, ⟨bb hbl M15.out.2.2.2.2.2.2.1.1, M15.out.2.2.2.2.2.2.1.2⟩, ⟨bb hbl M15.out.2.2.2.2.2.2.2.1.1, M15.out.2.2.2.2.2.2.2.1.2⟩, ⟨bb hbl M15.out.2.2.2.2.2.2.2.2.1.1, M15.out.2.2.2.2.2.2.2.2.1.2⟩, ⟨bb hbl M15.out.2.2.2.2.2.2.2.2.2.1.1, M15.out.2.2.2.2.2.2.2.2.2.1.2⟩, ⟨bb hbl M15.out.2.2.2.2.2.2.2.2.2.2.1, M15.out.2.2.2.2.2.2.2.2.2.2.2⟩, ⟨hB15, by have h1 := M15.out.2.2.2.2.1.lt; omega⟩⟩
  have AF16 : Hid (A16.tmps.size = 122 ∧ A16.defers = [] ∧ At A16 3 w.heap.size ∧ At A16 4 (w.heap.size + 1) ∧ At A16 5 (w.heap.size + 1 + 1) ∧ At A16 6 (w.heap.size + 1 + 1 + 1) ∧ At A16 7 b7 ∧ At A16 9 b9 ∧ At A16 10 b10 ∧ At A16 12 b12 ∧ At A16 13 b13 ∧ At A16 14 b14 ∧ At A16 15 b15) := ⟨hsz, hdf.trans AF15.out.2.1, e0 h0 AF15.out.2.2.1, e0 h0 AF15.out.2.2.2.1, e0 h0 AF15.out.2.2.2.2.1, e0 h0 AF15.out.2.2.2.2.2.1, e0 h0 AF15.out.2.2.2.2.2.2.1, e0 h0 AF15.out.2.2.2.2.2.2.2.1, e0 h0 AF15.out.2.2.2.2.2.2.2.2.1, e0 h0 AF15.out.2.2.2.2.2.2.2.2.2.1, e0 h0 AF15.out.2.2.2.2.2.2.2.2.2.2.1, e0 h0 AF15.out.2.2.2.2.2.2.2.2.2.2.2, hE15⟩
  clear hup hS hsz hdf hv h0 hbl hbn15 q15 hB15 hG15 hE15 M15 AF15
  go_upto_region 17 with (fail)
  refine wp_region_o (β := Unit) (fun _ k => ([.agg F.toArray, DV (v10), DV (v15), DV (fml p v10 v15), .agg F.toArray, .agg F.toArray, DV (v9), .agg F.toArray, DV (v13), DV (v15), DV (fsb p v13 v15), DV (fml p v9 (fsb p v13 v15)), .agg F.toArray, DV (v12), DV (v7), DV (fml p v12 v7), DV (fsb p (fml p v9 (fsb p v13 v15)) (fml p v12 v7)), .agg F.toArray, DV (v12), DV (v14), DV (fml p v12 v14), .agg (tC (fml p v10 v15) (fsb p (fml p v9 (fsb p v13 v15)) (fml p v12 v7)) (fml p v12 v14)).toArray, undef] : List Value).getD k undef) (SB W16 70 (w.heap.size + 1 + 1 + 1) (z13 ++ (z13 ++ z13)) (tC (fml p v10 v15) (fsb p (fml p v9 (fsb p v13 v15)) (fml p v12 v7)) (fml p v12 v14)) 22 23) () true (m := 122) AF16.out.1 rfl (by decide +kernel) (by decide +kernel) ⟨updDrew _ _, M16.out.2.2.2.2.1.lt, fun _ => ⟨Below.drew (Below.refl _ _), below_blk (Below.drew (Below.refl _ _)) M16.out.2.2.2.2.1.lt M16.out.2.2.2.2.1⟩, fun u => absurd u not_up_new⟩ (fun i b L W a hi hno hlt hdep hv h0 hS => ?_) (fun b L W a hup hS hsz hdf hv h0 => ?_)
  · replace hi : i < 23 := hi
    obtain rfl | rfl | rfl | rfl | rfl | rfl | rfl | rfl | rfl | rfl | rfl | rfl | rfl | rfl | rfl | rfl | rfl | rfl | rfl | rfl | rfl | rfl | rfl : i = 0 ∨ i = 1 ∨ i = 2 ∨ i = 3 ∨ i = 4 ∨ i = 5 ∨ i = 6 ∨ i = 7 ∨ i = 8 ∨ i = 9 ∨ i = 10 ∨ i = 11 ∨ i = 12 ∨ i = 13 ∨ i = 14 ∨ i = 15 ∨ i = 16 ∨ i = 17 ∨ i = 18 ∨ i = 19 ∨ i = 20 ∨ i = 21 ∨ i = 22 := by omega
    · exact ldF rfl rfl rfl (e0 h0 AF16.out.2.2.1) (bb (hS.bl hno) M16.out.2.1) HA.out.2.2.2.2.2.2 rfl (hS.kp hno)
    · exact ldD rfl rfl rfl (e0 h0 AF16.out.2.2.2.2.2.2.2.2.1) (bb (hS.bl hno) M16.out.2.2.2.2.2.2.2.1.1) HA.out.1 Q10.out.2 rfl (hS.kp hno)
    · exact ldD rfl rfl rfl (e0 h0 AF16.out.2.2.2.2.2.2.2.2.2.2.2.2) (bb (hS.bl hno) M16.out.2.2.2.2.2.2.2.2.2.2.2.1) HA.out.1 Q15.out.2 rfl (hS.kp hno)
    · exact cM rfl rfl rfl (dv hv hdep 0 100) (dv hv hdep 1 101) (dv hv hdep 2 102) HA.out.2.2.2.2.1 HA.out.1 Q10.out.2 Q15.out.2 (hS.kc hno)
    · exact ldF rfl rfl rfl (e0 h0 AF16.out.2.2.1) (bb (hS.bl hno) M16.out.2.1) HA.out.2.2.2.2.2.2 rfl (hS.kp hno)
    · exact ldF rfl rfl rfl (e0 h0 AF16.out.2.2.1) (bb (hS.bl hno) M16.out.2.1) HA.out.2.2.2.2.2.2 rfl (hS.kp hno)
    · exact ldD rfl rfl rfl (e0 h0 AF16.out.2.2.2.2.2.2.2.1) (bb (hS.bl hno) M16.out.2.2.2.2.2.2.1.1) HA.out.1 Q9.out.2 rfl (hS.kp hno)
    · exact ldF rfl rfl rfl (e0 h0 AF16.out.2.2.1) (bb (hS.bl hno) M16.out.2.1) HA.out.2.2.2.2.2.2 rfl (hS.kp hno)
    · exact ldD rfl rfl rfl (e0 h0 AF16.out.2.2.2.2.2.2.2.2.2.2.1) (bb (hS.bl hno) M16.out.2.2.2.2.2.2.2.2.2.1.1) HA.out.1 Q13.out.2 rfl (hS.kp hno)
    · exact ldD rfl rfl rfl (e0 h0 AF16.out.2.2.2.2.2.2.2.2.2.2.2.2) (bb (hS.bl hno) M16.out.2.2.2.2.2.2.2.2.2.2.2.1) HA.out.1 Q15.out.2 rfl (hS.kp hno)
    · exact cS rfl rfl rfl (dv hv hdep 7 107) (dv hv hdep 8 108) (dv hv hdep 9 109) HA.out.2.2.2.2.1 HA.out.1 Q13.out.2 Q15.out.2 (hS.kc hno)
    · exact cM rfl rfl rfl (dv hv hdep 5 105) (dv hv hdep 6 106) (dv hv hdep 10 110) HA.out.2.2.2.2.1 HA.out.1 Q9.out.2 (fsb_lt HP0.out) (hS.kc hno)
    · exact ldF rfl rfl rfl (e0 h0 AF16.out.2.2.1) (bb (hS.bl hno) M16.out.2.1) HA.out.2.2.2.2.2.2 rfl (hS.kp hno)
    · exact ldD rfl rfl rfl (e0 h0 AF16.out.2.2.2.2.2.2.2.2.2.1) (bb (hS.bl hno) M16.out.2.2.2.2.2.2.2.2.1.1) HA.out.1 Q12.out.2 rfl (hS.kp hno)
    · exact ldD rfl rfl rfl (e0 h0 AF16.out.2.2.2.2.2.2.1) (bb (hS.bl hno) M16.out.2.2.2.2.2.1.1) HA.out.1 Q7.out.2 rfl (hS.kp hno)
    · exact cM rfl rfl rfl (dv hv hdep 12 112) (dv hv hdep 13 113) (dv hv hdep 14 114) HA.out.2.2.2.2.1 HA.out.1 Q12.out.2 Q7.out.2 (hS.kc hno)
    · exact cS rfl rfl rfl (dv hv hdep 4 104) (dv hv hdep 11 111) (dv hv hdep 15 115) HA.out.2.2.2.2.1 HA.out.1 (fml_lt HP0.out) (fml_lt HP0.out) (hS.kc hno)
    · exact ldF rfl rfl rfl (e0 h0 AF16.out.2.2.1) (bb (hS.bl hno) M16.out.2.1) HA.out.2.2.2.2.2.2 rfl (hS.kp hno)
    · exact ldD rfl rfl rfl (e0 h0 AF16.out.2.2.2.2.2.2.2.2.2.1) (bb (hS.bl hno) M16.out.2.2.2.2.2.2.2.2.1.1) HA.out.1 Q12.out.2 rfl (hS.kp hno)
    · exact ldD rfl rfl rfl (e0 h0 AF16.out.2.2.2.2.2.2.2.2.2.2.2.1) (bb (hS.bl hno) M16.out.2.2.2.2.2.2.2.2.2.2.1.1) HA.out.1 Q14.out.2 rfl (hS.kp hno)
    · exact cM rfl rfl rfl (dv hv hdep 17 117) (dv hv hdep 18 118) (dv hv hdep 19 119) HA.out.2.2.2.2.1 HA.out.1 Q12.out.2 Q14.out.2 (hS.kc hno)
    · exact det_val rfl rfl (run_build rfl (dv hv hdep 3 103) (dv hv hdep 16 116) (dv hv hdep 20 120) (dg_ok (Fp.lt HA.out.1 (fml_lt HP0.out))).1.2 (dg_ok (Fp.lt HA.out.1 (fsb_lt HP0.out))).1.2 (dg_ok (Fp.lt HA.out.1 (fml_lt HP0.out))).1.2) (hS.kp hno)
    · exact det_store rfl rfl rfl rfl (e0 h0 AF16.out.2.2.2.2.2.1) (dv hv hdep 21 121) ((hS.2.2.1 hno).2.there 0 _ (by rw [List.size_toArray, tC_len HA.out.1 (fml_lt HP0.out) (fsb_lt HP0.out) (fml_lt HP0.out)]; decide)) (szT HA.out.1 (fml_lt HP0.out) (fsb_lt HP0.out) (fml_lt HP0.out)) (tC_one _ _ _) (hS.store hno (hlt 22 (by decide)) (fun k hk hne => hdep k (allDep hk hne (by decide +kernel))) (by rw [tC_len HA.out.1 (fml_lt HP0.out) (fsb_lt HP0.out) (fml_lt HP0.out), z39_len]))
  obtain ⟨W17, hWn⟩ : ∃ x, x = W := ⟨_, rfl⟩
  subst hWn
  obtain ⟨A17, hAn⟩ : ∃ x, x = a := ⟨_, rfl⟩
  subst hAn
  have hB := (hS.2.2.2 (hup 22 (by decide))).1
  have hU := hS.1
  have MZ : Hid (Below w.heap.size w W17 ∧ Blk 70 W17 ((w.heap.size + 1 + 1 + 1)) (tC (fml p v10 v15) (fsb p (fml p v9 (fsb p v13 v15)) (fml p v12 v7)) (fml p v12 v14)) ∧ A17.eval (.tmp 6) = .pointer (some ⟨(w.heap.size + 1 + 1 + 1), 0, none⟩) ∧ A17.defers = []) := ⟨hU.below M16.out.1 M16.out.1.size (by omega), hB, (h0 6 (by decide +kernel)).trans AF16.out.2.2.2.2.2.1, hdf.trans AF16.out.2.1⟩
  clear hup hS hsz hdf hv h0 hB hU M16 AF16
  have HE : Hid (R = (fml p v10 v15, fsb p (fml p v9 (fsb p v13 v15)) (fml p v12 v7), fml p v12 v14)) := by
    show _ = _
    rw [← HR.out]
    unfold rsm
    rw [if_neg HR2.out.1, if_neg HR2.out.2]
    simp only [Q7.out.1, Q8.out.1, Q9.out.1, Q10.out.1, Q11.out.1, Q12.out.1, Q13.out.1, Q14.out.1, Q15.out.1, if_neg (of_decide_eq_false Hq8.out)]
  go_wp2
  refine bodyPost_ret (v := .agg (tC (fml p v10 v15) (fsb p (fml p v9 (fsb p v13 v15)) (fml p v12 v7)) (fml p v12 v14)).toArray) (results_blk (b := w.heap.size + 1 + 1 + 1) rfl MZ.out.2.2.1 MZ.out.2.1 Try.underlying70 rfl (szTl HA.out.1 (fml_lt HP0.out) (fsb_lt HP0.out) (fml_lt HP0.out))) MZ.out.2.2.2 ⟨?_, MZ.out.1⟩
  rw [HE.out]
  | true =>
  first | (refine wp_cond_true hc ?_) | (go_step; refine wp_cond_true hc ?_) | (go_step; go_step; refine wp_cond_true hc ?_) | (go_step; go_step; go_step; refine wp_cond_true hc ?_) | (go_step; go_step; go_step; go_step; refine wp_cond_true hc ?_)
  clear hc
  obtain ⟨q9, hq9⟩ : ∃ q, decide (v9 = 0) = q := ⟨_, rfl⟩
  have Hq9 : Hid (decide (v9 = 0) = q9) := hq9
  clear hq9
  go_upto_region 9 with (fail)
  refine wp_region_o (β := Unit) (fun _ k => ([DV v9, .agg #[.int .u64 0, .int .u64 0, .int .u64 0, .int .u64 0, .int .u64 0, .int .u64 0, .int .u64 0, .int .u64 0, .int .u64 0, .int .u64 0, .int .u64 0, .int .u64 0, .int .u64 0], .bool q9] : List Value).getD k undef) (fun _ _ W => W = W7) () false (m := 122) AF8.out.1 rfl (by decide +kernel) (by decide +kernel) rfl (fun i b L W a hi hno hlt hdep hv h0 hS => ?_) (fun b L W a hup hS hsz hdf hv h0 => ?_)
  · replace hi : i < 3 := hi
    have hB : Blk 64 W b9 (dgC (dg v9)) := by rw [hS]; exact M7.out.2.2.2.2.2.2.2.1.1
    obtain rfl | rfl | rfl : i = 0 ∨ i = 1 ∨ i = 2 := by omega
    · exact det_load rfl rfl rfl ((h0 9 (by decide +kernel)).trans AF8.out.2.2.2.2.2.2.2.2.1) hB.whole Try.underlying64 rfl (szD HA.out.1 Q9.out.2) rfl hS
    · exact det_val rfl rfl (run_zeroD rfl) hS
    · exact det_val rfl rfl (run_eqZ rfl (hv 0 59 (by decide) (hdep 0 (by decide +kernel)) rfl) (hv 1 60 (by decide) (hdep 1 (by decide +kernel)) rfl) HA.out.1 Q9.out.2 Hq9.out) hS
  replace hS := hS.symm
  subst hS
  obtain ⟨A9, hAn⟩ : ∃ x, x = a := ⟨_, rfl⟩
  subst hAn
  have hc := hv 2 61 (by decide) rfl
  have AF9 : Hid (A9.tmps.size = 122 ∧ A9.defers = [] ∧ At A9 3 w.heap.size ∧ At A9 4 (w.heap.size + 1) ∧ At A9 5 (w.heap.size + 1 + 1) ∧ At A9 6 (w.heap.size + 1 + 1 + 1) ∧ At A9 7 b7 ∧ At A9 8 b8 ∧ At A9 9 b9 ∧ At A9 10 b10) := ⟨hsz, hdf.trans AF8.out.2.1, (h0 3 (by decide +kernel)).trans AF8.out.2.2.1, (h0 4 (by decide +kernel)).trans AF8.out.2.2.2.1, (h0 5 (by decide +kernel)).trans AF8.out.2.2.2.2.1, (h0 6 (by decide +kernel)).trans AF8.out.2.2.2.2.2.1, (h0 7 (by decide +kernel)).trans AF8.out.2.2.2.2.2.2.1, (h0 8 (by decide +kernel)).trans AF8.out.2.2.2.2.2.2.2.1, (h0 9 (by decide +kernel)).trans AF8.out.2.2.2.2.2.2.2.2.1, (h0 10 (by decide +kernel)).trans AF8.out.2.2.2.2.2.2.2.2.2⟩
  have hc : A9.eval (.tmp 61) = .bool q9 := hc
  clear hup hsz hdf hv h0 AF8
  cases q9 with
  | true =>
  first | (refine wp_cond_true hc ?_) | (go_step; refine wp_cond_true hc ?_) | (go_step; go_step; refine wp_cond_true hc ?_) | (go_step; go_step; go_step; refine wp_cond_true hc ?_) | (go_step; go_step; go_step; go_step; refine wp_cond_true hc ?_)
  clear hc
  go_upto_region 10 with (fail)
  refine wp_region_o (β := Unit) (fun _ k => ([.agg F.toArray, .agg (tC x1 y1 z1).toArray, .agg (tC (rtw p x1 y1 z1).1 (rtw p x1 y1 z1).2.1 (rtw p x1 y1 z1).2.2).toArray, undef] : List Value).getD k undef) (SB W7 70 (w.heap.size + 1 + 1 + 1) (z13 ++ (z13 ++ z13)) (tC ((rtw p x1 y1 z1).1) ((rtw p x1 y1 z1).2.1) ((rtw p x1 y1 z1).2.2)) 3 4) () false (m := 122) AF9.out.1 rfl (by decide +kernel) (by decide +kernel) ⟨Upd.refl _ _, M7.out.2.2.2.2.1.lt, fun _ => ⟨Below.refl _ _, below_blk (Below.refl _ _) M7.out.2.2.2.2.1.lt M7.out.2.2.2.2.1⟩, fun u => absurd u not_up_new⟩ (fun i b L W a hi hno hlt hdep hv h0 hS => ?_) (fun b L W a hup hS hsz hdf hv h0 => ?_)
  · replace hi : i < 4 := hi
    obtain rfl | rfl | rfl | rfl : i = 0 ∨ i = 1 ∨ i = 2 ∨ i = 3 := by omega
    · exact ldF rfl rfl rfl (e0 h0 AF9.out.2.2.1) (bb (hS.bl hno) M7.out.2.1) HA.out.2.2.2.2.2.2 rfl (hS.kp hno)
    · exact det_load rfl rfl rfl (e0 h0 AF9.out.2.2.2.1) (bb (hS.bl hno) M7.out.2.2.1).whole Try.underlying70 rfl (szTl HA.out.1 HA.out.2.1 HA.out.2.2.1 HA.out.2.2.2.1) rfl (hS.kp hno)
    · exact det_call rfl rfl (run_call2 rfl (dv hv hdep 0 62) (dv hv hdep 1 63) eg_twice) (twiceF HA.out.2.2.2.2.1 HA.out.1 HA.out.2.1 HA.out.2.2.1 HA.out.2.2.2.1) (hS.kc hno)
    · exact det_store rfl rfl rfl rfl (e0 h0 AF9.out.2.2.2.2.2.1) (dv hv hdep 2 64) ((hS.2.2.1 hno).2.there 0 _ (by rw [List.size_toArray, tC_len HA.out.1 (rtw_lt HP0.out).1 (rtw_lt HP0.out).2.1 (rtw_lt HP0.out).2.2]; decide)) (szT HA.out.1 (rtw_lt HP0.out).1 (rtw_lt HP0.out).2.1 (rtw_lt HP0.out).2.2) (tC_one _ _ _) (hS.store hno (hlt 3 (by decide)) (fun k hk hne => hdep k (allDep hk hne (by decide +kernel))) (by rw [tC_len HA.out.1 (rtw_lt HP0.out).1 (rtw_lt HP0.out).2.1 (rtw_lt HP0.out).2.2, z39_len]))
  obtain ⟨W10, hWn⟩ : ∃ x, x = W := ⟨_, rfl⟩
  subst hWn
  obtain ⟨A10, hAn⟩ : ∃ x, x = a := ⟨_, rfl⟩
  subst hAn
  have hB := (hS.2.2.2 (hup 3 (by decide))).1
  have hU := hS.1
  have MZ : Hid (Below w.heap.size w W10 ∧ Blk 70 W10 ((w.heap.size + 1 + 1 + 1)) (tC ((rtw p x1 y1 z1).1) ((rtw p x1 y1 z1).2.1) ((rtw p x1 y1 z1).2.2)) ∧ A10.eval (.tmp 6) = .pointer (some ⟨(w.heap.size + 1 + 1 + 1), 0, none⟩) ∧ A10.defers = []) := ⟨hU.below M7.out.1 M7.out.1.size (by omega), hB, (h0 6 (by decide +kernel)).trans AF9.out.2.2.2.2.2.1, hdf.trans AF9.out.2.1⟩
  clear hup hS hsz hdf hv h0 hB hU M7 AF9
  have HE : Hid (R = ((rtw p x1 y1 z1).1, (rtw p x1 y1 z1).2.1, (rtw p x1 y1 z1).2.2)) := by
    show _ = _
    rw [← HR.out]
    unfold rsm
    rw [if_neg HR2.out.1, if_neg HR2.out.2]
    simp only [Q7.out.1, Q8.out.1, Q9.out.1, Q10.out.1, if_pos (of_decide_eq_true Hq8.out), if_pos (of_decide_eq_true Hq9.out)]
  go_wp2
  refine bodyPost_ret (v := .agg (tC ((rtw p x1 y1 z1).1) ((rtw p x1 y1 z1).2.1) ((rtw p x1 y1 z1).2.2)).toArray) (results_blk (b := w.heap.size + 1 + 1 + 1) rfl MZ.out.2.2.1 MZ.out.2.1 Try.underlying70 rfl (szTl HA.out.1 (rtw_lt HP0.out).1 (rtw_lt HP0.out).2.1 (rtw_lt HP0.out).2.2)) MZ.out.2.2.2 ⟨?_, MZ.out.1⟩
  rw [HE.out]
  | false =>
  first | (refine wp_cond_false hc ?_) | (go_step; refine wp_cond_false hc ?_) | (go_step; go_step; refine wp_cond_false hc ?_) | (go_step; go_step; go_step; refine wp_cond_false hc ?_) | (go_step; go_step; go_step; go_step; refine wp_cond_false hc ?_)
  clear hc
  go_upto_region 11 with (fail)
  refine wp_region_o (β := Unit) (fun _ k => ([.agg (tC 0 0 0).toArray, undef] : List Value).getD k undef) (SB W7 70 (w.heap.size + 1 + 1 + 1) (z13 ++ (z13 ++ z13)) (tC (0) (0) (0)) 1 2) () false (m := 122) AF9.out.1 rfl (by decide +kernel) (by decide +kernel) ⟨Upd.refl _ _, M7.out.2.2.2.2.1.lt, fun _ => ⟨Below.refl _ _, below_blk (Below.refl _ _) M7.out.2.2.2.2.1.lt M7.out.2.2.2.2.1⟩, fun u => absurd u not_up_new⟩ (fun i b L W a hi hno hlt hdep hv h0 hS => ?_) (fun b L W a hup hS hsz hdf hv h0 => ?_)
  · replace hi : i < 2 := hi
    obtain rfl | rfl : i = 0 ∨ i = 1 := by omega
    · exact det_val rfl rfl (run_zeroT rfl) (hS.kp hno)
    · exact det_store rfl rfl rfl rfl (e0 h0 AF9.out.2.2.2.2.2.1) (dv hv hdep 0 65) ((hS.2.2.1 hno).2.there 0 _ (by rw [List.size_toArray, tC_len HA.out.1 HP0.out HP0.out HP0.out]; decide)) (szT HA.out.1 HP0.out HP0.out HP0.out) (tC_one _ _ _) (hS.store hno (hlt 1 (by decide)) (fun k hk hne => hdep k (allDep hk hne (by decide +kernel))) (by rw [tC_len HA.out.1 HP0.out HP0.out HP0.out, z39_len]))
  obtain ⟨W11, hWn⟩ : ∃ x, x = W := ⟨_, rfl⟩
  subst hWn
  obtain ⟨A11, hAn⟩ : ∃ x, x = a := ⟨_, rfl⟩
  subst hAn
  have hB := (hS.2.2.2 (hup 1 (by decide))).1
  have hU := hS.1
  have MZ : Hid (Below w.heap.size w W11 ∧ Blk 70 W11 ((w.heap.size + 1 + 1 + 1)) (tC (0) (0) (0)) ∧ A11.eval (.tmp 6) = .pointer (some ⟨(w.heap.size + 1 + 1 + 1), 0, none⟩) ∧ A11.defers = []) := ⟨hU.below M7.out.1 M7.out.1.size (by omega), hB, (h0 6 (by decide +kernel)).trans AF9.out.2.2.2.2.2.1, hdf.trans AF9.out.2.1⟩
  clear hup hS hsz hdf hv h0 hB hU M7 AF9
  have HE : Hid (R = (0, 0, 0)) := by
    show _ = _
    rw [← HR.out]
    unfold rsm
    rw [if_neg HR2.out.1, if_neg HR2.out.2]
    simp only [Q7.out.1, Q8.out.1, Q9.out.1, Q10.out.1, if_pos (of_decide_eq_true Hq8.out), if_neg (of_decide_eq_false Hq9.out)]
  go_wp2
  refine bodyPost_ret (v := .agg (tC (0) (0) (0)).toArray) (results_blk (b := w.heap.size + 1 + 1 + 1) rfl MZ.out.2.2.1 MZ.out.2.1 Try.underlying70 rfl (szTl HA.out.1 HP0.out HP0.out HP0.out)) MZ.out.2.2.2 ⟨?_, MZ.out.1⟩
  rw [HE.out]
end Go.Proofs.Ytkdclocjijmgpaa
