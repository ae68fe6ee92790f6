/-
  A range over a function: operations that are walked as everywhere.
-/
import Derived.RangeFuncNested
import Derived.RangeFuncBound
import Derived.RangeFuncCalls
import Derived.RangeFuncLeaves
import Derived.Shelf.Abstract
import Derived.Shelf.RegionOpen
import Derived.WalkKit
import Derived.OwnWalkIn
import Derived.TacticsInMore
import Derived.LoopNIn
import Derived.LoopIn
import Derived.Test.YtbgeemjnhkinaaaGreatDoorK8
namespace Go.Proofs.YtbgeemjnhkinaaaGreatDoor
open Go.RowKit
/-- The widest fence, or a round's within it. -/
def Wid (F : Fence) : Prop := F = Fence.wide ∨ ∃ l, F = Fence.wide.inRound l
theorem Wid.fn {F : Fence} (h : Wid F) (f : FuncId) : F.fn f := by
  rcases h with rfl | ⟨l, rfl⟩ <;> exact trivial
theorem Wid.depth {F : Fence} (h : Wid F) : F.depth = none := by
  rcases h with rfl | ⟨l, rfl⟩ <;> rfl
theorem Wid.calls {F : Fence} (h : Wid F) {n : Nat} {P : Program} {f : FuncId} {args : Array Value} {w : World} {R : Ending → World → Prop} (hc : Calls P f args w R) : CallsIn F n P f args w R := by
  rcases h with rfl | ⟨l, rfl⟩
  · exact callsIn_wide.2 hc
  · exact CallsIn.inRound l (callsIn_wide.2 hc)
theorem rows_wide {n : Nat} {P : Program} {row : String} {args : Array Value} {w : World} {R : Value → World → Prop} (h : Rows P row args w R) : RowsIn Fence.wide n P row args w R :=
  fun c cs _ => let ⟨v, w', r, s⟩ := h c cs; ⟨v, w', r, stepsIn_wide.2 s⟩
theorem Wid.rows {F : Fence} (h : Wid F) {n : Nat} {P : Program} {row : String} {args : Array Value} {w : World} {R : Value → World → Prop} (hc : Rows P row args w R) : RowsIn F n P row args w R := by
  rcases h with rfl | ⟨l, rfl⟩
  · exact rows_wide hc
  · exact rows_wide hc
theorem Wid.op {F : Fence} (hF : Wid F) {n : Nat} {P : Program} {o : Oper} {a : Act} {w : World} {K : Act → World → Prop} {Q : Exit → Act → World → Prop} (hdf : ∀ c, o.op ≠ .defer c) (h : o.wp P a w K Q) : o.wpIn F n P a w K Q := by
  refine ⟨fun f _ => hF.fn f, ?_⟩
  rw [Oper.semAt_eq _ _ _ hdf]
  unfold Oper.wp at h
  generalize (execOp a.eval o).run P w = r at *
  cases r with
  | ok x w' =>
    cases x with
    | value v => exact h
    | skip => exact h
    | defer d => exact h
    | enter f args => exact ⟨fun hd => (by rw [hF.depth] at hd; cases hd), hF.calls h⟩
    | row r args => exact ⟨fun hd => (by rw [hF.depth] at hd; cases hd), hF.rows h⟩
    | _ => exact h.elim
  | halt x w' => cases x <;> exact h
theorem Wid.via {F : Fence} (hF : Wid F) {n : Nat} {P : Program} {ops : Array Oper} {rest : List Oper} {o : Oper} {a : Act} {w : World} {Q : Exit → Act → World → Prop} (hgd : o.guard = none) (hdf : ∀ c, o.op ≠ .defer c)
    (h : ∀ K : Act → World → Prop, (∀ a w, wpListIn F n P ops Q rest a w → K a w) → o.wp P a w K Q) : wpListIn F n P ops Q (o :: rest) a w :=
  wpListIn_plain hgd fun K hK => hF.op hdf (h K hK)
theorem Wid.opAt {F : Fence} (hF : Wid F) {n : Nat} {P : Program} {ops : Array Oper} {i : Nat} {o : Oper} {a : Act} {w : World} {K : Act → World → Prop} {Q : Exit → Act → World → Prop} (hi : ops[i]? = some o) (hgd : o.guard = none) (hdf : ∀ c, o.op ≠ .defer c)
    (h : o.wp P a w K Q) : wpOpIn F n P ops Q i K a w := by
  unfold wpOpIn
  simp only [hi, Region.wanted, hgd, if_true]
  exact hF.op hdf h
end Go.Proofs.YtbgeemjnhkinaaaGreatDoor
/-
  A range over a function whose rounds are counted: what the function hands on in each round is known by its number.
-/
namespace Go.Proofs.YtbgeemjnhkinaaaGreatDoor
open Go.RowKit
/-- Blocks from B on lie as they lay. -/
def Kept (B : Nat) (W W' : World) : Prop := W.heap.size ≤ W'.heap.size ∧ ∀ k, B ≤ k → k < W.heap.size → W'.heap[k]? = W.heap[k]?
theorem Kept.blk {B : Nat} {W W' : World} (h : Kept B W W') {T : TypeId} {g : Nat} {cs : List Value} (hg : B ≤ g) (hb : Blk T W g cs) : Blk T W' g cs := by
  unfold Blk; rw [h.2 g hg hb.lt]; exact hb
theorem Kept.refl (B : Nat) (W : World) : Kept B W W := ⟨Nat.le_refl _, fun _ _ _ => rfl⟩
theorem Kept.upd {B b : Nat} {W W' : World} (h : Upd W W' b) (hb : b < B) : Kept B W W' := ⟨h.size, fun k hk hlt => h.block k hlt (by simp; omega)⟩
theorem Kept.trans {B : Nat} {W W' W'' : World} (h : Kept B W W') (k : Kept B W' W'') : Kept B W W'' :=
  ⟨Nat.le_trans h.1 k.1, fun j hj hlt => (k.2 j hj (Nat.lt_of_lt_of_le hlt h.1)).trans (h.2 j hj hlt)⟩
/-- How a round's body may be left. -/
def postN (B N i : Nat) (I : Nat → World → Prop) (Ix : Code → World → Prop) (W : World) : Exit → Act → World → Prop
  | .normal, _, W' => Kept B W W' ∧ i + 1 < N ∧ I (i + 1) W'
  | .exit id, _, W' => Kept B W W' ∧ Ix (.exit id) W'
  | _, _, _ => False
theorem range_nat {P : Program} {g : Operand} {ps : Array Tmp} {assign body : Code} {Q : Exit → Act → World → Prop} {a : Act} {W : World} {n m N gf : Nat} {lb : Array Value}
    (hg : a.eval g = .func (.func gf) #[] lb) (eg : ∀ args w, (callFunc gf args).run P w = .ok (.enter gf args) w) (hps : ps.size = 1)
    (I : Nat → World → Prop) (Ix : Code → World → Prop) (Y : Nat → Value → World → Prop)
    (hI1 : ∀ i A B, I i A → Below A.heap.size A B → I i B) (hI2 : ∀ i A k o o', W.heap.size ≤ k → A.heap[k]? = some o → o.isCells = false → o.isWalk = false → I i A → I i (A.putObj k o'))
    (hX2 : ∀ c A k o o', W.heap.size ≤ k → A.heap[k]? = some o → o.isCells = false → o.isWalk = false → Ix c A → Ix c (A.putObj k o'))
    (hY2 : ∀ i v A k o o', W.heap.size ≤ k → A.heap[k]? = some o → o.isCells = false → o.isWalk = false → Y i v A → Y i v (A.putObj k o'))
    (iter : ∀ (l : Nat) (W1 : World) (J : Nat → World → Prop) (Jx : World → Prop), W1.heap.size = W.heap.size + 2 → Below W.heap.size W W1 → J 0 W1 → (∀ i A, J i A → I i A) → (∀ i A B, J i A → Below A.heap.size A B → J i B) →
      (∀ i v A, i < N → J i A → W1.heap.size ≤ A.heap.size → Y i v A → YieldAt Fence.wide n P l #[v] A fun e B => (e = .returned (.bool true) ∧ i + 1 < N ∧ J (i + 1) B ∧ Kept W1.heap.size A B) ∨ (e = .returned (.bool false) ∧ Jx B)) →
      Calls P gf (#[.func (.yield l) #[] #[]] ++ lb) W1 fun e B => (∃ v, e = .returned v) ∧ Jx B)
    (h0 : I 0 W) (a₁ : Value → Act)
    (hass : ∀ (l : Nat) (v : Value) (A : World) (K : Act → World → Prop), K (a₁ v) A → assign.wpIn (Fence.wide.inRound l) n P (Exit.then K (fun _ _ _ => False)) { tmps := (ps.zip #[v]).foldl (fun t (p, v) => t.setIfInBounds p v) a.tmps, defers := [] } A)
    (hbody : ∀ (l i : Nat) (v : Value) (A : World), i < N → I i A → W.heap.size + 2 ≤ A.heap.size → Y i v A → body.wpIn (Fence.wide.inRound l) n P (postN W.heap.size N i I Ix A) (a₁ v) A)
    (hstop : ∀ (c : Code) (A : World), Ix c A → A.heap[W.heap.size]? = some (.deferred (some [])) → c.wpIn Fence.wide m P Q { a with defers := { target := .collected W.heap.size, args := #[] } :: a.defers } A) :
    (Code.rangeFunc g ps assign body).wpIn Fence.wide m P Q a W := by
  refine wpIn_rangeFunc ?_
  intro fn _
  obtain ⟨rec, hrec⟩ : ∃ rec : LoopState → Option Code → Loop, rec = fun st pe => { state := st, pending := pe, fn, tmps := a.tmps, params := ps, assign, body, defers := W.heap.size } := ⟨_, rfl⟩
  obtain ⟨W1, hW1⟩ : ∃ W1, (W.alloc (.deferred (some []))).alloc (.loop (rec .ready none)) = W1 := ⟨_, rfl⟩
  have hB1 : Below W.heap.size W W1 := by rw [← hW1]; exact ((Below.refl _ _).alloc (Nat.le_refl _) _).alloc (by simp) _
  have hs1 : W1.heap.size = W.heap.size + 2 := by rw [← hW1]; simp
  have hL1 : W1.heap[W.heap.size + 1]? = some (.loop (rec .ready none)) := by
    rw [← hW1]; have := heap_alloc_new (W.alloc (.deferred (some []))) (.loop (rec .ready none)); simpa using this
  have hD1 : W1.heap[W.heap.size]? = some (.deferred (some [])) := by
    rw [← hW1]
    have e := ((Below.refl (W.heap.size + 1) (W.alloc (.deferred (some [])))).alloc (by simp) (.loop (rec .ready none))).block W.heap.size (by omega)
    rw [e]; exact heap_alloc_new W _
  refine ⟨W.heap.size + 1, [{ target := .collected W.heap.size, args := #[] }], W1, { target := .fn (.func gf) lb, args := #[.func (.yield (W.heap.size + 1)) #[] #[]] }, W1, gf,
    #[.func (.yield (W.heap.size + 1)) #[] #[]] ++ lb, W1, ?_, ?_, fun f' _ => trivial, ?_, fun h => (by cases h), callsIn_wide.2 ?_⟩
  · rw [← hW1, hrec]; exact run_enterLoop_outer _ _ _ _ _
  · simp only [resolve, hg]
    simp [go_sem]
  · simp [invoke, go_sem, eg]
  refine (iter (W.heap.size + 1) W1
    (fun i A => I i A ∧ A.heap[W.heap.size + 1]? = some (.loop (rec .ready none)) ∧ A.heap[W.heap.size]? = some (.deferred (some [])))
    (fun B => ∃ c, Ix c B ∧ B.heap[W.heap.size + 1]? = some (.loop (rec .done (some c))) ∧ B.heap[W.heap.size]? = some (.deferred (some [])))
    hs1 hB1 ⟨hI1 0 W W1 h0 hB1, hL1, hD1⟩ (fun i A h => h.1) (fun i A B h hb => ?_) ?_).mono ?_
  · exact ⟨hI1 i A B h.1 hb, (hb.block _ (Array.getElem?_eq_some_iff.1 h.2.1).1).trans h.2.1, (hb.block _ (Array.getElem?_eq_some_iff.1 h.2.2).1).trans h.2.2⟩
  · rintro i v A hiN ⟨hi, hl, hd⟩ hsz hy
    have hlt : W.heap.size + 1 < A.heap.size := (Array.getElem?_eq_some_iff.1 hl).1
    have hry := run_yield (P := P) (args := #[v]) hl (by rw [hrec]; exact hps.symm)
    rw [hrec] at hry
    refine ⟨fn, _, assign, body, hry, roundIn_of_wpIn trivial (hass _ v A _ ⟨_, run_beginRound hl (by rw [hrec]), ?_⟩)⟩
    obtain ⟨A2, hA2⟩ : ∃ A2, A.putObj (W.heap.size + 1) (.loop { rec .ready none with state := .busy }) = A2 := ⟨_, rfl⟩
    have hl2 : A2.heap[W.heap.size + 1]? = some (.loop { rec .ready none with state := .busy }) := by rw [← hA2]; exact World.putObj_heap_same hlt
    have hd2 : A2.heap[W.heap.size]? = some (.deferred (some [])) := by rw [← hA2]; exact (World.putObj_heap_other (by omega)).trans hd
    have hI' : I i A2 := by rw [← hA2]; exact hI2 i A _ _ _ (by omega) hl rfl rfl hi
    have hY' : Y i v A2 := by rw [← hA2]; exact hY2 i v A _ _ _ (by omega) hl rfl rfl hy
    have hs2 : A2.heap.size = A.heap.size := by rw [← hA2]; simp [World.putObj]
    have hk2 : Kept W1.heap.size A A2 := ⟨by omega, fun k hk hlt => by rw [← hA2]; exact World.putObj_heap_other (by omega)⟩
    rw [hA2]
    refine wpIn_mono (hbody _ i v A2 hiN hI' (by omega) hY') ?_
    have fin : ∀ (jump : Option Code) (A3 : World), Kept W.heap.size A2 A3 →
        (Instr.endRound (W.heap.size + 1) jump).run P A3 = .ok (.bool jump.isNone) (A3.putObj (W.heap.size + 1) (.loop (rec (if jump.isNone then .ready else .done) jump))) ∧
        A3.heap[W.heap.size + 1]? = some (.loop { rec .ready none with state := .busy }) ∧
        (A3.putObj (W.heap.size + 1) (.loop (rec (if jump.isNone then .ready else .done) jump))).heap[W.heap.size + 1]? = some (.loop (rec (if jump.isNone then .ready else .done) jump)) ∧
        (A3.putObj (W.heap.size + 1) (.loop (rec (if jump.isNone then .ready else .done) jump))).heap[W.heap.size]? = some (.deferred (some [])) ∧
        Kept W1.heap.size A (A3.putObj (W.heap.size + 1) (.loop (rec (if jump.isNone then .ready else .done) jump))) := fun jump A3 hk3 => by
      have hl3 := (hk3.2 (W.heap.size + 1) (by omega) (by omega)).trans hl2
      have hd3 := (hk3.2 W.heap.size (Nat.le_refl _) (by omega)).trans hd2
      have hlt3 : W.heap.size + 1 < A3.heap.size := (Array.getElem?_eq_some_iff.1 hl3).1
      have := run_endRound (P := P) jump hl3
      rw [hrec] at this ⊢
      refine ⟨this, by rw [hrec] at hl3; exact hl3, World.putObj_heap_same hlt3, (World.putObj_heap_other (by omega)).trans hd3, ?_, fun k hk hlt => ?_⟩
      · have := hk3.1; simp [World.putObj]; omega
      · have h1 : k ≠ W.heap.size + 1 := by omega
        rw [World.putObj_heap_other h1, hk3.2 k (by omega) (by omega)]
        exact hk2.2 k hk hlt
    rintro e a3 A3 hp
    cases e with
    | normal =>
      obtain ⟨hk3, hN3, hi3⟩ := hp
      obtain ⟨hr, hl3, hl4, hd4, hk4⟩ := fin none A3 hk3
      exact ⟨_, _, hr, .inl ⟨rfl, hN3, ⟨hI2 _ _ _ _ _ (by omega) hl3 rfl rfl hi3, hl4, hd4⟩, hk4⟩⟩
    | exit id =>
      obtain ⟨hk3, hi3⟩ := hp
      obtain ⟨hr, hl3, hl4, hd4, _⟩ := fin (some (.exit id)) A3 hk3
      exact ⟨_, _, hr, .inr ⟨rfl, .exit id, hX2 _ _ _ _ _ (by omega) hl3 rfl rfl hi3, hl4, hd4⟩⟩
    | ret => exact hp.elim
    | goto t => exact hp.elim
    | panic ch => exact hp.elim
    | outgrown => exact hp.elim
  · rintro e B ⟨⟨v, rfl⟩, c, hi, hl, hd⟩
    refine ⟨some c, _, by have := run_endLoop (P := P) hl (by rw [hrec]; simp); rw [hrec] at this; exact this, hstop c _ (hX2 _ _ _ _ _ (by omega) hl rfl rfl hi) ((World.putObj_heap_other (by omega)).trans hd)⟩
end Go.Proofs.YtbgeemjnhkinaaaGreatDoor
/-
  A range over a function whose rounds are counted, for any number of values; it may be left by a return, or end by itself.
-/
namespace Go.Proofs.YtbgeemjnhkinaaaGreatDoor
open Go.RowKit
/-- How a round's body may be left. -/
def postM (B i : Nat) (I : Nat → World → Prop) (Ix : Code → World → Prop) (W : World) : Exit → Act → World → Prop
  | .normal, _, W' => Kept B W W' ∧ I (i + 1) W'
  | .exit id, _, W' => Kept B W W' ∧ Ix (.exit id) W'
  | .ret, _, W' => Kept B W W' ∧ Ix .ret W'
  | _, _, _ => False
theorem range_mat {P : Program} {g : Operand} {ps : Array Tmp} {assign body : Code} {Q : Exit → Act → World → Prop} {a : Act} {W : World} {n m N gf : Nat} {lb : Array Value}
    (hg : a.eval g = .func (.func gf) #[] lb) (eg : ∀ args w, (callFunc gf args).run P w = .ok (.enter gf args) w) 
    (I : Nat → World → Prop) (Ix : Code → World → Prop) (Y : Nat → Array Value → World → Prop) (hps : ∀ i v A, Y i v A → v.size = ps.size)
    (hI1 : ∀ i A B, I i A → Below A.heap.size A B → I i B) (hI2 : ∀ i A k o o', W.heap.size ≤ k → A.heap[k]? = some o → o.isCells = false → o.isWalk = false → I i A → I i (A.putObj k o'))
    (hX2 : ∀ c A k o o', W.heap.size ≤ k → A.heap[k]? = some o → o.isCells = false → o.isWalk = false → Ix c A → Ix c (A.putObj k o'))
    (hY2 : ∀ i v A k o o', W.heap.size ≤ k → A.heap[k]? = some o → o.isCells = false → o.isWalk = false → Y i v A → Y i v (A.putObj k o'))
    (iter : ∀ (l : Nat) (W1 : World) (J : Nat → World → Prop) (Jx : World → Prop), W1.heap.size = W.heap.size + 2 → Below W.heap.size W W1 → J 0 W1 → (∀ i A, J i A → I i A) → (∀ i A B, J i A → Below A.heap.size A B → J i B) →
      (∀ i v A, i < N → J i A → W1.heap.size ≤ A.heap.size → Y i v A → YieldAt Fence.wide n P l v A fun e B => (e = .returned (.bool true) ∧ J (i + 1) B ∧ Kept W1.heap.size A B) ∨ (e = .returned (.bool false) ∧ Jx B)) →
      Calls P gf (#[.func (.yield l) #[] #[]] ++ lb) W1 fun e B => (∃ v, e = .returned v) ∧ (J N B ∨ Jx B))
    (h0 : I 0 W) (a₁ : Array Value → Act)
    (hass : ∀ (l i : Nat) (v : Array Value) (A : World) (K : Act → World → Prop), Y i v A → K (a₁ v) A → assign.wpIn (Fence.wide.inRound l) n P (Exit.then K (fun _ _ _ => False)) { tmps := (ps.zip v).foldl (fun t (p, v) => t.setIfInBounds p v) a.tmps, defers := [] } A)
    (hbody : ∀ (l i : Nat) (v : Array Value) (A : World), i < N → I i A → W.heap.size + 2 ≤ A.heap.size → Y i v A → body.wpIn (Fence.wide.inRound l) n P (postM W.heap.size i I Ix A) (a₁ v) A)
    (hdone : ∀ A : World, I N A → A.heap[W.heap.size]? = some (.deferred (some [])) → Q .normal { a with defers := { target := .collected W.heap.size, args := #[] } :: a.defers } A)
    (hstop : ∀ (c : Code) (A : World), Ix c A → A.heap[W.heap.size]? = some (.deferred (some [])) → c.wpIn Fence.wide m P Q { a with defers := { target := .collected W.heap.size, args := #[] } :: a.defers } A) :
    (Code.rangeFunc g ps assign body).wpIn Fence.wide m P Q a W := by
  refine wpIn_rangeFunc ?_
  intro fn _
  obtain ⟨rec, hrec⟩ : ∃ rec : LoopState → Option Code → Loop, rec = fun st pe => { state := st, pending := pe, fn, tmps := a.tmps, params := ps, assign, body, defers := W.heap.size } := ⟨_, rfl⟩
  obtain ⟨W1, hW1⟩ : ∃ W1, (W.alloc (.deferred (some []))).alloc (.loop (rec .ready none)) = W1 := ⟨_, rfl⟩
  have hB1 : Below W.heap.size W W1 := by rw [← hW1]; exact ((Below.refl _ _).alloc (Nat.le_refl _) _).alloc (by simp) _
  have hs1 : W1.heap.size = W.heap.size + 2 := by rw [← hW1]; simp
  have hL1 : W1.heap[W.heap.size + 1]? = some (.loop (rec .ready none)) := by
    rw [← hW1]; have := heap_alloc_new (W.alloc (.deferred (some []))) (.loop (rec .ready none)); simpa using this
  have hD1 : W1.heap[W.heap.size]? = some (.deferred (some [])) := by
    rw [← hW1]
    have e := ((Below.refl (W.heap.size + 1) (W.alloc (.deferred (some [])))).alloc (by simp) (.loop (rec .ready none))).block W.heap.size (by omega)
    rw [e]; exact heap_alloc_new W _
  refine ⟨W.heap.size + 1, [{ target := .collected W.heap.size, args := #[] }], W1, { target := .fn (.func gf) lb, args := #[.func (.yield (W.heap.size + 1)) #[] #[]] }, W1, gf,
    #[.func (.yield (W.heap.size + 1)) #[] #[]] ++ lb, W1, ?_, ?_, fun f' _ => trivial, ?_, fun h => (by cases h), callsIn_wide.2 ?_⟩
  · rw [← hW1, hrec]; exact run_enterLoop_outer _ _ _ _ _
  · simp only [resolve, hg]
    simp [go_sem]
  · simp [invoke, go_sem, eg]
  refine (iter (W.heap.size + 1) W1
    (fun i A => I i A ∧ A.heap[W.heap.size + 1]? = some (.loop (rec .ready none)) ∧ A.heap[W.heap.size]? = some (.deferred (some [])))
    (fun B => ∃ c, Ix c B ∧ B.heap[W.heap.size + 1]? = some (.loop (rec .done (some c))) ∧ B.heap[W.heap.size]? = some (.deferred (some [])))
    hs1 hB1 ⟨hI1 0 W W1 h0 hB1, hL1, hD1⟩ (fun i A h => h.1) (fun i A B h hb => ?_) ?_).mono ?_
  · exact ⟨hI1 i A B h.1 hb, (hb.block _ (Array.getElem?_eq_some_iff.1 h.2.1).1).trans h.2.1, (hb.block _ (Array.getElem?_eq_some_iff.1 h.2.2).1).trans h.2.2⟩
  · rintro i v A hiN ⟨hi, hl, hd⟩ hsz hy
    have hlt : W.heap.size + 1 < A.heap.size := (Array.getElem?_eq_some_iff.1 hl).1
    have hry := run_yield (P := P) (args := v) hl (by rw [hrec]; exact hps i v A hy)
    rw [hrec] at hry
    refine ⟨fn, _, assign, body, hry, roundIn_of_wpIn trivial (hass _ i v A _ hy ⟨_, run_beginRound hl (by rw [hrec]), ?_⟩)⟩
    obtain ⟨A2, hA2⟩ : ∃ A2, A.putObj (W.heap.size + 1) (.loop { rec .ready none with state := .busy }) = A2 := ⟨_, rfl⟩
    have hl2 : A2.heap[W.heap.size + 1]? = some (.loop { rec .ready none with state := .busy }) := by rw [← hA2]; exact World.putObj_heap_same hlt
    have hd2 : A2.heap[W.heap.size]? = some (.deferred (some [])) := by rw [← hA2]; exact (World.putObj_heap_other (by omega)).trans hd
    have hI' : I i A2 := by rw [← hA2]; exact hI2 i A _ _ _ (by omega) hl rfl rfl hi
    have hY' : Y i v A2 := by rw [← hA2]; exact hY2 i v A _ _ _ (by omega) hl rfl rfl hy
    have hs2 : A2.heap.size = A.heap.size := by rw [← hA2]; simp [World.putObj]
    have hk2 : Kept W1.heap.size A A2 := ⟨by omega, fun k hk hlt => by rw [← hA2]; exact World.putObj_heap_other (by omega)⟩
    rw [hA2]
    refine wpIn_mono (hbody _ i v A2 hiN hI' (by omega) hY') ?_
    have fin : ∀ (jump : Option Code) (A3 : World), Kept W.heap.size A2 A3 →
        (Instr.endRound (W.heap.size + 1) jump).run P A3 = .ok (.bool jump.isNone) (A3.putObj (W.heap.size + 1) (.loop (rec (if jump.isNone then .ready else .done) jump))) ∧
        A3.heap[W.heap.size + 1]? = some (.loop { rec .ready none with state := .busy }) ∧
        (A3.putObj (W.heap.size + 1) (.loop (rec (if jump.isNone then .ready else .done) jump))).heap[W.heap.size + 1]? = some (.loop (rec (if jump.isNone then .ready else .done) jump)) ∧
        (A3.putObj (W.heap.size + 1) (.loop (rec (if jump.isNone then .ready else .done) jump))).heap[W.heap.size]? = some (.deferred (some [])) ∧
        Kept W1.heap.size A (A3.putObj (W.heap.size + 1) (.loop (rec (if jump.isNone then .ready else .done) jump))) := fun jump A3 hk3 => by
      have hl3 := (hk3.2 (W.heap.size + 1) (by omega) (by omega)).trans hl2
      have hd3 := (hk3.2 W.heap.size (Nat.le_refl _) (by omega)).trans hd2
      have hlt3 : W.heap.size + 1 < A3.heap.size := (Array.getElem?_eq_some_iff.1 hl3).1
      have := run_endRound (P := P) jump hl3
      rw [hrec] at this ⊢
      refine ⟨this, by rw [hrec] at hl3; exact hl3, World.putObj_heap_same hlt3, (World.putObj_heap_other (by omega)).trans hd3, ?_, fun k hk hlt => ?_⟩
      · have := hk3.1; simp [World.putObj]; omega
      · have h1 : k ≠ W.heap.size + 1 := by omega
        rw [World.putObj_heap_other h1, hk3.2 k (by omega) (by omega)]
        exact hk2.2 k hk hlt
    rintro e a3 A3 hp
    cases e with
    | normal =>
      obtain ⟨hk3, hi3⟩ := hp
      obtain ⟨hr, hl3, hl4, hd4, hk4⟩ := fin none A3 hk3
      exact ⟨_, _, hr, .inl ⟨rfl, ⟨hI2 _ _ _ _ _ (by omega) hl3 rfl rfl hi3, hl4, hd4⟩, hk4⟩⟩
    | exit id =>
      obtain ⟨hk3, hi3⟩ := hp
      obtain ⟨hr, hl3, hl4, hd4, _⟩ := fin (some (.exit id)) A3 hk3
      exact ⟨_, _, hr, .inr ⟨rfl, .exit id, hX2 _ _ _ _ _ (by omega) hl3 rfl rfl hi3, hl4, hd4⟩⟩
    | ret =>
      obtain ⟨hk3, hi3⟩ := hp
      obtain ⟨hr, hl3, hl4, hd4, _⟩ := fin (some .ret) A3 hk3
      exact ⟨_, _, hr, .inr ⟨rfl, .ret, hX2 _ _ _ _ _ (by omega) hl3 rfl rfl hi3, hl4, hd4⟩⟩
    | goto t => exact hp.elim
    | panic ch => exact hp.elim
    | outgrown => exact hp.elim
  · rintro e B ⟨⟨v, rfl⟩, ⟨hi, hl, hd⟩ | ⟨c, hi, hl, hd⟩⟩
    · exact ⟨none, _, by have := run_endLoop (P := P) hl (by rw [hrec]; simp); rw [hrec] at this; exact this, hdone _ (hI2 _ _ _ _ _ (by omega) hl rfl rfl hi) ((World.putObj_heap_other (by omega)).trans hd)⟩
    · refine ⟨some c, _, by have := run_endLoop (P := P) hl (by rw [hrec]; simp); rw [hrec] at this; exact this, hstop c _ (hX2 _ _ _ _ _ (by omega) hl rfl rfl hi) ((World.putObj_heap_other (by omega)).trans hd)⟩
end Go.Proofs.YtbgeemjnhkinaaaGreatDoor
/-
  Realm: what is left of an address under a mask, byte by byte.
-/
namespace Go.Proofs.YtbgeemjnhkinaaaGreatDoor
open Go.RowKit
attribute [local go_sem] Oper.semAt_some
def andV (x y : Int) : Int := bits BinOp.and IntKind.u8 x y
theorem Sl.form6 {w : World} {v : Value} {xs : List Int} (h : Sl .u8 w v xs) : ∃ a c, v = .slice a xs.length c ∧ xs.length ≤ c ∧ (∀ i, i < xs.length → ∃ b off, a = some ⟨b, off, none⟩ ∧ w.cell? ⟨b, off + i, none⟩ = some (.int .u8 (xs.getD i 0))) := by
  obtain ⟨a, c, rfl, hc, h⟩ := h
  refine ⟨a, c, rfl, hc, fun i hi => ?_⟩
  rcases h with h | ⟨b, off, rfl, hb, hr⟩
  · rw [h] at hi; simp at hi
  · exact ⟨b, off, rfl, hr i hi⟩
set_option maxRecDepth 20000 in
set_option maxHeartbeats 4000000 in
theorem masked1_any (l b1 b2 : Nat) (vx vm : Value) (X M : List Int) (hXM : X.length = M.length) (lX : X.length ≤ 1000000) (n : Nat)
    (J : Nat → World → Prop) (Jx : World → Prop)
    (hT : ∀ i W, J i W → W.cell? ⟨b1, 0, none⟩ = some vx ∧ W.cell? ⟨b2, 0, none⟩ = some vm ∧ Sl .u8 W vx X ∧ Sl .u8 W vm M)
    (W0 : World) (h0 : J 0 W0)
    (hY : ∀ i W, i < X.length → J i W → W0.heap.size ≤ W.heap.size → YieldAt Fence.wide n Tryz.prog l #[.int .i64 (i : Int), .int .u8 (andV (X.getD i 0) (M.getD i 0))] W fun e W' =>
      (e = .returned (.bool true) ∧ J (i + 1) W' ∧ Kept W0.heap.size W W') ∨ (e = .returned (.bool false) ∧ Jx W')) :
    Calls Tryz.prog 25 #[.func (.yield l) #[] #[], .pointer (some ⟨b1, 0, none⟩), .pointer (some ⟨b2, 0, none⟩)] W0 fun e W' => (∃ v, e = .returned v) ∧ (J X.length W' ∨ Jx W') := by
  obtain ⟨m, hm⟩ : ∃ m, X.length = m := ⟨_, rfl⟩
  have hm' : M.length = m := by omega
  have HX : Hid (∀ i W, J i W → W.cell? ⟨b1, 0, none⟩ = some vx ∧ W.cell? ⟨b2, 0, none⟩ = some vm ∧ Sl .u8 W vx X ∧ Sl .u8 W vm M) := hT
  have HL : Hid (X.length = m ∧ M.length = m) := ⟨hm, hm'⟩
  have HY : Hid (∀ i W, i < X.length → J i W → W0.heap.size ≤ W.heap.size → YieldAt Fence.wide n Tryz.prog l #[.int .i64 (i : Int), .int .u8 (andV (X.getD i 0) (M.getD i 0))] W fun e W' =>
      (e = .returned (.bool true) ∧ J (i + 1) W' ∧ Kept W0.heap.size W W') ∨ (e = .returned (.bool false) ∧ Jx W')) := hY
  obtain ⟨h1, h2, h3, h4⟩ := hT 0 W0 h0
  have HJ0 : Hid (J 0 W0) := h0
  obtain ⟨ax, cx, rfl, hcx, -⟩ := h3.form6
  obtain ⟨am, cm, rfl, hcm, -⟩ := h4.form6
  rw [hm] at lX h1 hcx ⊢
  clear hT hY h0 h3 h4 hXM h2
  go_enter Tryz.func25, Tryz.ntmps25
  go_wp2_with fail
  go_loopw [4, 5, 8] (fun _ _ iv wr => ∃ i : Nat, iv = .int .i64 (i : Int) ∧ i ≤ m ∧ Hid (J i wr ∧ W0.heap.size ≤ wr.heap.size)) (fun _ _ iv _ => m - (intOf iv).toNat)
  case atStart => exact ⟨0, rfl, Nat.zero_le _, HJ0.out, Nat.le_refl _⟩
  case round =>
    obtain ⟨i, rfl, hi, HI⟩ := hrel
    by_cases hlt : i < m
    · have hltI : (i : Int) < (m : Int) := by omega
      obtain ⟨-, k2, k3, k4⟩ := HX.out i wr HI.out.1
      obtain ⟨_, _, e3, -, f3⟩ := k3.form6
      obtain ⟨_, _, e4, -, f4⟩ := k4.form6
      rw [hm] at e3
      rw [hm'] at e4 k2
      cases e3
      cases e4
      obtain ⟨bx, ox, rfl, g3⟩ := f3 i (by omega)
      obtain ⟨bm, om, rfl, g4⟩ := f4 i (by omega)
      obtain ⟨x, hx⟩ : ∃ x, X.getD i 0 = x := ⟨_, rfl⟩
      obtain ⟨y, hy⟩ : ∃ y, M.getD i 0 = y := ⟨_, rfl⟩
      obtain ⟨z, hz⟩ : ∃ z, bits BinOp.and IntKind.u8 x y = z := ⟨_, rfl⟩
      rw [hx] at g3
      rw [hy] at g4
      obtain ⟨fn, tmps, assign, body, hyr, hR⟩ := HY.out i wr (by omega) HI.out.1 HI.out.2
      unfold andV at hyr
      rw [hx, hy, hz] at hyr
      clear f3 f4 hx hy k3 k4
      go_upto_region 3 with (fail)
      refine (wpIn_wide (n := n + 1)).1 ?_
      gi_wp2
      refine hR.mono ?_
      rintro e W5 (⟨rfl, hJ5, hk5⟩ | ⟨rfl, hx5⟩)
      · have HK5 : Hid (J (i + 1) W5 ∧ W0.heap.size ≤ W5.heap.size) := ⟨hJ5, by have := hk5.1; have := HI.out.2; omega⟩
        clear hJ5 hk5 hR hyr g3 g4 k2
        gi_wp2
        go_wp2
        go_roundw
        case rel => exact ⟨i + 1, by go_num, by omega, HK5.out⟩
        case measure => simp [intOf]; omega
      · clear hR hyr g3 g4 k2
        gi_wp2
        go_wp2
        exact bodyPost_ret (v := .tuple #[]) (results_none rfl _ _ _) rfl ⟨⟨_, rfl⟩, .inr hx5⟩
    · obtain rfl : i = m := by omega
      have hltI : ¬ (i : Int) < (i : Int) := by omega
      go_wp2
      exact bodyPost_end (v := .tuple #[]) (results_none rfl _ _ _) rfl ⟨⟨_, rfl⟩, .inl HI.out.1⟩
end Go.Proofs.YtbgeemjnhkinaaaGreatDoor
/-
  A region within a round whose operations only read, whatever order is drawn: by what each yields.
-/
namespace Go.Proofs.YtbgeemjnhkinaaaGreatDoor
open Go.RowKit
section
variable {P : Program} {md : Region.Mode} {ops : Array Oper} {Q : Exit → Act → World → Prop} {F : Fence} {n : Nat}
theorem wpAnyIn_inv (I : Array Bool → Act → World → Prop) (hB : backB md ops ops.size = true)
    (step : ∀ (i : Nat) (listed : Array Bool) (a : Act) (w : World), i ∈ Region.ready md ops listed → I listed a w → wpOpIn F n P ops Q i (fun a' w' => I (listed.setIfInBounds i true) a' w') a w)
    (done : ∀ (listed : Array Bool) (a : Act) (w : World), (∀ k, k < ops.size → Up listed k) → I listed a w → Q .normal a w) :
    ∀ (fuel : Nat) (listed : Array Bool) (a : Act) (w : World), listed.size = ops.size → listed.toList.count false ≤ fuel → I listed a w → wpAnyIn F n P md ops Q fuel listed a w := by
  intro fuel
  induction fuel with
  | zero =>
    intro listed a w hsz hc hI
    have hr : Region.ready md ops listed = [] := by
      refine List.eq_nil_iff_forall_not_mem.2 fun i hi => ?_
      have h0 := (mem_ready.1 hi).1
      have hlt : i < listed.size := by rw [hsz]; exact ready_lt hi
      simp [hlt] at h0
      have : false ∈ listed.toList := by rw [← h0]; exact Array.getElem_mem_toList hlt
      have := List.count_pos_iff.2 this
      omega
    exact ⟨hr, done listed a w (all_up hB hsz hr) hI⟩
  | succ fuel ih =>
    intro listed a w hsz hc hI
    refine ⟨fun hr => done listed a w (all_up hB hsz hr) hI, fun i hi => ?_⟩
    refine wpOpIn_mono (fun a' w' h => ih _ a' w' (by simp [hsz]) ?_ h) (step i listed a w hi hI)
    have h0 := (mem_ready.1 hi).1
    have hlt : i < listed.size := by rw [hsz]; exact ready_lt hi
    simp [hlt] at h0
    have := count_set (l := listed.toList) (i := i) (by simp [hlt, h0])
    simp only [Array.toList_setIfInBounds]
    omega
theorem Wid.reads (hF : Wid F) (V : Nat → Value) {id : Nat} {a0 : Act} {w : World} (hm : P.follows .mixedOrders = true) (hB : backB .any ops ops.size = true) (hD : dstB ops a0.tmps.size = true)
    (done : Q .normal ⟨frF ops V a0.tmps ops.size, a0.defers⟩ w.drew)
    (step : ∀ (i : Nat) (L : Array Bool) (a : Act), i < ops.size → (∀ k ∈ depL .any ops i, Up L k) → (∀ k d, k < ops.size → Up L k → dstOf ops k = some d → a.eval (.tmp d) = V k) → (∀ t, ((List.range ops.size).all fun k => dstOf ops k != some t) = true → a.eval (.tmp t) = a0.eval (.tmp t)) →
      ∃ o, ops[i]? = some o ∧ o.guard = none ∧ (∀ c, o.op ≠ .defer c) ∧ (execOp a.eval o).run P w.drew = .ok (.value (V i)) w.drew) :
    (Code.region id ops true).wpIn F n P Q a0 w := by
  refine wpIn_region_any hm ?_
  refine wpAnyIn_inv (fun L a W => L.size = ops.size ∧ a = ⟨frT ops V L a0.tmps ops.size, a0.defers⟩ ∧ W = w.drew) hB ?_ ?_ _ _ _ _ (by simp) (by simp) ⟨by simp, by rw [det_start], rfl⟩
  · rintro i L a W hr ⟨hsz, rfl, rfl⟩
    have hi := ready_lt hr
    obtain ⟨o, ho, hg, hdf, hrun⟩ := step i L ⟨frT ops V L a0.tmps ops.size, a0.defers⟩ hi (ready_deps hr) (fun k d hk hu hd => frT_dst hD (Nat.le_refl _) hk hu hd) (fun t ht => frT_free fun k hk he => by
      have := List.all_eq_true.1 ht k (List.mem_range.2 hk)
      simp [he] at this)
    refine hF.opAt ho hg hdf ?_
    unfold Oper.wp
    rw [hrun]
    refine ⟨by simp [hsz], ?_, rfl⟩
    have := frT_put (V := V) (V' := V) (t0 := a0.tmps) hD (Nat.le_refl _) hi (ready_not hr) (by omega) (fun _ _ _ => rfl)
    rw [← this, put_dst ho]
    unfold Act.put
    cases dstOf ops i <;> rfl
  · rintro L a W hup ⟨_, rfl, rfl⟩
    rw [frT_all hup]
    exact done
end
end Go.Proofs.YtbgeemjnhkinaaaGreatDoor
