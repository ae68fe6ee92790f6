/-
  Ber: the reference's reading: what its element tells; one more element at the end of its row, in a region that draws.
-/
import Derived.Test.YtefebamomdcaaaaGreatDoorK13
namespace Go.Proofs.YtefebamomdcaaaaGreatDoor
open Go.RowKit
theorem tagS_rt {M : List Int} {p : Nat} : tagS M p = match rtS M p with
    | .inl e => .inl e
    | .inr (t, i) => if t = 0 ∧ M.getD p 0 < 64 then .inl (30, p) else .inr (t, i) := by
  unfold rtS tagS
  by_cases h : M.getD p 0 % 32 = 31
  · rw [if_pos h, if_pos h]
    cases hl : lng M (p + 1) 0 with
    | inl e => rfl
    | inr x =>
      obtain ⟨t, i⟩ := x
      have := lng_ok _ (p + 1) 0 rfl t i hl
      simp only []
      rw [if_neg (by omega)]
  · rw [if_neg h, if_neg h]
theorem rtS_ok {M : List Int} (uM : U8s M) {p : Nat} (hp : p < M.length) {t : Int} {i : Nat} (h : rtS M p = .inr (t, i)) : p < i ∧ i ≤ M.length ∧ 0 ≤ t ∧ t ≤ 268435455 := by
  unfold rtS at h
  split at h
  · have := lng_ok _ (p + 1) 0 rfl t i h; omega
  · have h8 := uM.at p
    unfold U8 at h8
    cases h; omega
theorem rtS_bad {M : List Int} {p : Nat} (hp : p < M.length) {e : Int} {a : Nat} (h : rtS M p = .inl (e, a)) : e = 2 ∨ e = 30 := by
  unfold rtS at h
  split at h
  · exact (lng_bad _ (p + 1) 0 rfl (by omega) e a h).2.2
  · cases h
/-- What element tells: the first fault, or where it ends and the elements with it. -/
def ElOut (M : List Int) (p q dp : Nat) (L : List Te) (g b off n c : Nat) (w' : World) (e : Ending) : Prop :=
  (∃ (er : Int) (a : Nat) (ov : Value), e = .returned (.int .i64 0) ∧ Rdg w' g b off n c ov er (a : Int) ∧ er ≠ 0 ∧ ∀ S : List Prt, S.length = dp → pr M p q S L = .inl (er, a)) ∨
  (∃ (p' : Nat) (L' : List Te) (ov : Value), e = .returned (.int .i64 (p' : Int)) ∧ Rdg w' g b off n c ov 0 0 ∧ Elems (g + 1) w' ov L' ∧ p < p' ∧ p' ≤ q ∧ L'.length ≤ 65536 ∧ ∀ S : List Prt, S.length = dp → pr M p q S L = prC M p' S L')
/-- The row so far, by its elements and their data. -/
def ElR (w : World) (g : Nat) (v0 : Value) (Y : List Tv) : Prop := MRow 5 59 (g + 1) w v0 Y.length (elCells Y) ∧ ∀ y ∈ Y, Row .u8 5 (g + 1) w y.2 y.1.d
theorem ElR.upd {w w' : World} {g : Nat} {v0 : Value} {Y : List Tv} (h : ElR w g v0 Y) (hu : Upd w w' g) : ElR w' g v0 Y := ⟨h.1.upd hu (by omega), fun y hy => (h.2 y hy).upd hu (by omega)⟩
theorem ElR.below {w w' : World} {g : Nat} {v0 : Value} {Y : List Tv} (h : ElR w g v0 Y) (hb : Below w.heap.size w w') : ElR w' g v0 Y := ⟨h.1.below hb, fun y hy => (h.2 y hy).below hb⟩
theorem run_bs {a : Act} {W : World} {o : Oper} {x : Operand} (hop : o.op = .buildSlice 25 1 #[(0, x)]) {dp cl tg : Int} {co : Bool} {s : Option Addr} {n c : Nat} (hx : a.eval x = .agg #[.int .i64 dp, .int .i64 cl, .int .i64 tg, .bool co, .slice s n c]) :
    (execOp a.eval o).run Tryz.prog W = .ok (.value (.slice (some ⟨W.heap.size, 0, none⟩) 1 1)) (W.alloc (.cells #[.int .i64 dp, .int .i64 cl, .int .i64 tg, .bool co, .slice s n c] 59)) := by
  have e1 : (#[(0, x)] : Array (Nat × Operand)).map (fun p => (p.1, a.eval p.2)) = #[(0, .agg #[.int .i64 dp, .int .i64 cl, .int .i64 tg, .bool co, .slice s n c])] := by
    simp only [List.map_toArray, List.map_cons, List.map_nil, hx]
  unfold execOp
  simp only [hop]
  show ((Instr.buildSlice 25 1 ((#[(0, x)] : Array (Nat × Operand)).map (fun p => (p.1, a.eval p.2)))) >>= fun v => pure (Next.value v)).run Tryz.prog W = _
  rw [e1]
  simp [go_sem]
section
variable {P : Program} {ops : Array Oper} {Q : Exit → Act → World → Prop} {β : Type} {V : β → Nat → Value} {S : β → Array Bool → World → Prop} {i : Nat} {b : β} {L : Array Bool} {a : Act} {W : World}
/-- A value that comes with new memory. -/
theorem rg_new (b' : β) {o : Oper} (ho : ops[i]? = some o) (hw : Region.wanted o (yielded ops a.tmps) = true) {v : Value} {W' : World} (hr : (execOp a.eval o).run P W = .ok (.value v) W') (hV : ∀ k, k ≠ i → Up L k → V b' k = V b k) (hv : V b' i = v) (hS : S b' (L.setIfInBounds i true) W') : DetOp P ops Q V S i b L a W :=
  rg_op ho hw (by
    unfold Oper.wp
    rw [hr]
    exact ⟨b', hV, by rw [hv]; exact put_dst ho, hS⟩)
theorem rg_apm {o : Oper} (ho : ops[i]? = some o) (hw : Region.wanted o (yielded ops a.tmps) = true) (s x : Operand) (t tx : TypeId)
    (hop : o.op = .call { callee := .builtin .append, args := #[s, x], argTypes := #[t, tx] }) (m : Nat) (z : Value) (hzs : z.cells.size = m) (e : TypeId) (bytes : Nat) (ht : P.underlying t = some (.slice e))
    (hi : (P.info? e).map (fun i => (i.zero, i.size, i.bytes)) = some (some z, m, bytes)) (hby : 0 < bytes)
    (B : Nat) (v : Value) (n : Nat) (xs : List Value) (hs : a.eval s = v) (hr : MRow m e B W v n xs) (u : Value) (k : Nat) (ys : List Value) (hx : a.eval x = u) (hy : Src P m tx u k ys W)
    (hb : (n + k) * bytes ≤ 140737488355328) (hB : B ≤ W.heap.size)
    (h : ∀ v' w', MRow m e B w' v' (n + k) (xs ++ ys) → MGrew e W w' v → ∃ b', (∀ k, k ≠ i → Up L k → V b' k = V b k) ∧ V b' i = v' ∧ S b' (L.setIfInBounds i true) w') : DetOp P ops Q V S i b L a W := by
  obtain ⟨i0, hi0, hz0, hz1, hz2⟩ := info_parts hi
  obtain ⟨v', w', hrun, h2, h3⟩ := run_apm (P := P) W t tx o.type e i0 m z ht hi0 hz0 hz1 hzs (by omega) hr hy (by rw [hz2]; exact hb) hB
  obtain ⟨b', hV, hv, hS⟩ := h v' w' h2 h3
  refine rg_new b' ho hw (v := v') (W' := w') ?_ hV hv hS
  unfold execOp
  simp only [hop, resolve, invoke, builtin, Sem.run_bind, Sem.run_pure, Result.andThen_ok, List.map_toArray, List.map_cons, List.map_nil, hs, hx, hrun]
end
/-- The state within the region: number 6 builds a slice of the one element, number 7 appends it, number 10 stores the row. -/
def SnS (g b off n c eb N : Nat) (v0 : Value) (Y : List Tv) (cs : List Value) (x : Te) (u : Value) (L : List Te) (W0 : World) (β : Nat × Value) (F : Array Bool) (W : World) : Prop :=
  Below g W0 W ∧ (Up F 7 → Elems (g + 1) W β.2 (L ++ [x])) ∧
  (¬ Up F 7 → ElR W g v0 Y ∧ Row .u8 5 N W u x.d ∧ Blk 59 W eb cs ∧ g + 1 ≤ W.heap.size ∧ (Up F 6 → Blk 59 W β.1 cs)) ∧
  (Up F 10 → Rdg W g b off n c β.2 0 0) ∧ (¬ Up F 10 → Rdg W g b off n c v0 0 0)
theorem up_ne {F : Array Bool} {i k : Nat} (h : k ≠ i) : Up (F.setIfInBounds i true) k ↔ Up F k := by unfold Up; rw [getD_setB h]
theorem up_eq {F : Array Bool} {i : Nat} (h : i < F.size) : Up (F.setIfInBounds i true) i := by unfold Up; simp [Array.getD_eq_getD_getElem?, h]
section
variable {g b off n c eb N : Nat} {v0 : Value} {Y : List Tv} {cs : List Value} {x : Te} {u : Value} {L : List Te} {W0 W : World} {β : Nat × Value} {F : Array Bool}
theorem SnS.other (h : SnS g b off n c eb N v0 Y cs x u L W0 β F W) {i : Nat} (h6 : 6 ≠ i) (h7 : 7 ≠ i) (h10 : 10 ≠ i) : SnS g b off n c eb N v0 Y cs x u L W0 β (F.setIfInBounds i true) W := by
  unfold SnS at *
  rw [up_ne h6, up_ne h7, up_ne h10]
  exact h
theorem SnS.start (hR : Rdg W g b off n c v0 0 0) (hE : ElR W g v0 Y) (hu : Row .u8 5 N W u x.d) (hB : Blk 59 W eb cs) {k : Nat} : SnS g b off n c eb N v0 Y cs x u L W β (Array.replicate k false) W.drew :=
  ⟨(Below.refl _ _).drew, fun h => absurd h not_up_new, fun _ => ⟨hE.below (Below.refl _ _).drew, hu.below (Below.refl _ _).drew, hB.drewN 1, hR.lt, fun h => absurd h not_up_new⟩, fun h => absurd h not_up_new, fun _ => Blk.drewN hR 1⟩
theorem SnS.bs (h : SnS g b off n c eb N v0 Y cs x u L W0 β F W) (h7 : ¬ Up F 7) (h10 : ¬ Up F 10) : SnS g b off n c eb N v0 Y cs x u L W0 (W.heap.size, β.2) (F.setIfInBounds 6 true) (W.alloc (.cells cs.toArray 59)) := by
  obtain ⟨h1, -, h3, -, h5⟩ := h
  obtain ⟨hE, hr, hB, hg, -⟩ := h3 h7
  refine ⟨h1.alloc (by have := h1.size; omega) _, fun u => absurd ((up_ne (by decide)).1 u) h7, fun _ => ⟨hE.below (al1 _), hr.below (al1 _), hB.alloc _, by simp; omega, fun _ => Blk.new _ _ _⟩, fun u => absurd ((up_ne (by decide)).1 u) h10, fun _ => Blk.alloc (h5 h10) _⟩
theorem SnS.ap (h : SnS g b off n c eb N v0 Y cs x u L W0 β F W) (h7 : ¬ Up F 7) (h10 : ¬ Up F 10) (hF : 7 < F.size) (hY : Y.map (·.1) = L) (hap : Apart (Y.map (·.2))) (hcs : cs = cellE (x, u)) (hgN : g + 1 ≤ N) (hlt : ∀ y ∈ Y, ∀ b, blkOf y.2 = some b → b < N) {v' : Value} {w' : World} (hm : MRow 5 59 (g + 1) w' v' (Y.length + 1) (elCells Y ++ cs)) (hg : MGrew 59 W w' v0) : SnS g b off n c eb N v0 Y cs x u L W0 (β.1, v') (F.setIfInBounds 7 true) w' := by
  obtain ⟨h1, -, h3, -, h5⟩ := h
  obtain ⟨hE, hr, hB, hgl, -⟩ := h3 h7
  have hb : Below (g + 1) W w' := hg.below hE.1 hgl
  refine ⟨h1.trans (hb.mono (by omega)), fun _ => ?_, fun u => absurd (up_eq hF) u, fun u => absurd ((up_ne (by decide)).1 u) h10, fun _ => below_blk hb (by omega) (h5 h10)⟩
  refine Elems.snoc hY (by rw [← hcs]; exact hm) (fun y hy => (hE.2 y hy).mgrew8 hg (by decide)) hap ((hr.mgrew8 hg (by decide)).mono hgN) N hlt (fun b hb => (hr.blk_lt hb).1)
theorem SnS.st (h : SnS g b off n c eb N v0 Y cs x u L W0 β F W) (h7 : Up F 7) (h10 : ¬ Up F 10) (hF : 10 < F.size) : SnS g b off n c eb N v0 Y cs x u L W0 β (F.setIfInBounds 10 true) (W.setCell ⟨g, 1, none⟩ β.2) := by
  obtain ⟨h1, h2, -, -, h5⟩ := h
  refine ⟨h1.setCell (Nat.le_refl _) _, fun _ => (h2 h7).upd (Upd.set _ _ _ _) (by omega), fun u => absurd ((up_ne (by decide)).2 h7) u, fun _ => ?_, fun u => absurd (up_eq hF) u⟩
  exact Blk.set (h5 h10) 1 β.2
end
theorem frF11 {ops : Array Oper} {V : Nat → Value} {t : Array Value} {d0 d1 d2 d3 d4 d5 d6 d7 d8 d9 : Nat} (hs : ops.size = 11) (h0 : dstOf ops 0 = some d0) (h1 : dstOf ops 1 = some d1) (h2 : dstOf ops 2 = some d2) (h3 : dstOf ops 3 = some d3) (h4 : dstOf ops 4 = some d4) (h5 : dstOf ops 5 = some d5) (h6 : dstOf ops 6 = some d6) (h7 : dstOf ops 7 = some d7) (h8 : dstOf ops 8 = some d8) (h9 : dstOf ops 9 = some d9) (h10 : dstOf ops 10 = none) :
    frF ops V t ops.size = (((((((((t.setIfInBounds d0 (V 0)).setIfInBounds d1 (V 1)).setIfInBounds d2 (V 2)).setIfInBounds d3 (V 3)).setIfInBounds d4 (V 4)).setIfInBounds d5 (V 5)).setIfInBounds d6 (V 6)).setIfInBounds d7 (V 7)).setIfInBounds d8 (V 8)).setIfInBounds d9 (V 9) := by
  rw [hs]
  simp only [frF, h0, h1, h2, h3, h4, h5, h6, h7, h8, h9, h10]
end Go.Proofs.YtefebamomdcaaaaGreatDoor
