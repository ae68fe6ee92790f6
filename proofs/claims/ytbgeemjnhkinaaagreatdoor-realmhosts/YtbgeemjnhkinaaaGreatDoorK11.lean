/-
  Realm: the rule of hosts; the names that have a rule.
-/
import Derived.Test.YtbgeemjnhkinaaaGreatDoorK10
namespace Go.Proofs.YtbgeemjnhkinaaaGreatDoor
open Go.RowKit
attribute [local go_sem] Oper.semAt_some
theorem run_store_func {P : Program} {w : World} {a : Addr} {m : Mode} (f : Fn) (x y : Array Value) : (store a (.func f x y) m).run P w = stored P w a (.func f x y) m := run_store P w a _ m rfl
attribute [local go_sem] run_store_func
/-- A function with two results, the first in a block of its own. -/
theorem results_blk2 {P : Program} {fn : Func} {T : TypeId} {t u : Tmp} (h : fn.results = #[.cell t T, .tmp u]) {a : Array Value} {w : World} {b : Nat} {cs : List Value} {d : TypeDesc} {v : Value} (ha : a.getD t undef = .pointer (some ⟨b, 0, none⟩))
    (hb : Blk T w b cs) (hu : P.underlying T = some d) (hd : d.isRow = true) (hi : (P.info? T).map (·.size) = some cs.length) (hv : a.getD u undef = v) : (results fn a).run P w = .ok (.tuple #[.agg cs.toArray, v]) w := by
  have := run_loadVar_mid (P := P) w b 0 T cs d hb.whole hu hd hi
  have ha' : a[t]?.getD undef = .pointer (some ⟨b, 0, none⟩) := by simpa using ha
  have hv' : a[u]?.getD undef = v := by simpa using hv
  simp [results, h, ha', asAddr, this, hv']
set_option maxRecDepth 20000 in
set_option maxHeartbeats 4000000 in
theorem ruleOf2_any {w : World} : Calls Tryz.prog 27 #[.int .i64 2] w fun e w' => e = .returned (.tuple #[.agg #[.int .i64 2, .func (.func 31) #[] #[]], .bool true]) ∧ Below w.heap.size w w' := by
  go_enter Tryz.func27, Tryz.ntmps27
  go_upto_region 6 with (fail)
  obtain ⟨g, hg⟩ : ∃ g, w.heap.size = g := ⟨_, rfl⟩
  rw [hg]
  refine wp_gen (fun W => Blk 43 W g [.int .i64 0, .nilFunc] ∧ Below g w W) ⟨hg ▸ Blk.new 43 w [.int .i64 0, .nilFunc], hg ▸ al1 _⟩ ?_
  rintro W ⟨hB, hbl⟩
  have hB1 := hB.set 1 (.func (.func 31) #[] #[])
  have hB2 := hB1.set 0 (.int .i64 2)
  simp only [List.set_cons_succ, List.set_cons_zero] at hB1 hB2
  have HB2 : Hid (((W.setCell ⟨g, 1, none⟩ (.func (.func 31) #[] #[])).setCell ⟨g, 0, none⟩ (.int .i64 2)).rangeAt g 0 [.int .i64 2, .func (.func 31) #[] #[]]) := hB2.whole
  have HBf : Hid (Blk 43 ((W.setCell ⟨g, 1, none⟩ (.func (.func 31) #[] #[])).setCell ⟨g, 0, none⟩ (.int .i64 2)) g [.int .i64 2, .func (.func 31) #[] #[]]) := hB2
  have HBl : Hid (Below g w ((W.setCell ⟨g, 1, none⟩ (.func (.func 31) #[] #[])).setCell ⟨g, 0, none⟩ (.int .i64 2))) := by
    have h1 := (Upd.set W g 1 (.func (.func 31) #[] #[])).below hbl (by have := hB.lt; omega) (Nat.le_refl _)
    exact (Upd.set _ g 0 (.int .i64 2)).below h1 (by have := hB1.lt; omega) (Nat.le_refl _)
  have p1 : W.cell? ⟨g, 1, none⟩ = some .nilFunc := hB.cell 1
  have p2 : W.frozen? ⟨g, 1, none⟩ = false := hB.frozen 1
  have p3 : (W.setCell ⟨g, 1, none⟩ (.func (.func 31) #[] #[])).cell? ⟨g, 0, none⟩ = some (.int .i64 0) := hB1.cell 0
  have p4 : (W.setCell ⟨g, 1, none⟩ (.func (.func 31) #[] #[])).frozen? ⟨g, 0, none⟩ = false := hB1.frozen 0
  clear hB hbl hB1 hB2
  go_wp2_with (first
    | (refine wpList_load_mid rfl 43 (.tmp 2) rfl g 0 rfl [.int .i64 2, .func (.func 31) #[] #[]] _ HB2.out Tryz.underlying43 rfl Tryz.sizeU ?_)
    | (refine wpList_store_mid rfl 43 (.tmp 2) (.tmp 20) rfl g 0 #[.int .i64 2, .func (.func 31) #[] #[]] rfl rfl (HBf.out.there 0 _ (by simp)) (by simpa using Tryz.sizeU) (by rfl) ?_))
  refine bodyPost_ret (v := .tuple #[.agg #[.int .i64 2, .func (.func 31) #[] #[]], .bool true]) (results_blk2 (T := 43) (cs := [.int .i64 2, .func (.func 31) #[] #[]]) rfl rfl (HBf.out.fill [.int .i64 2, .func (.func 31) #[] #[]] rfl) Tryz.underlying43 rfl Tryz.sizeU rfl) rfl ⟨rfl, ?_⟩
  rw [hg]
  exact (Upd.setCells [.int .i64 2, .func (.func 31) #[] #[]] 0 _).below HBl.out (by have := HBf.out.lt; omega) (Nat.le_refl _)
set_option maxRecDepth 20000 in
set_option maxHeartbeats 4000000 in
theorem ruled1_any (l b1 b : Nat) (X : List Int) (a1 d1 : Option Addr) (n1 c1 m1 e1 : Nat) (n : Nat)
    (J : Nat → World → Prop) (Jx : World → Prop)
    (hT : ∀ i W, J i W → W.cell? ⟨b1, 0, none⟩ = some (.slice (some ⟨b, 0, none⟩) 1 1) ∧ Blk 27 W b (gen 2 X a1 d1 n1 c1 m1 e1))
    (hb : ∀ i W W', J i W → Below W.heap.size W W' → J i W')
    (W0 : World) (h0 : J 0 W0)
    (hY : ∀ W, J 0 W → W0.heap.size ≤ W.heap.size → YieldAt Fence.wide n Tryz.prog l #[.agg #[.int .i64 2, .string (strOfNums X), .slice a1 n1 c1, .slice d1 m1 e1], .agg #[.int .i64 2, .func (.func 31) #[] #[]]] W fun e W' =>
      (e = .returned (.bool true) ∧ J 1 W' ∧ Kept W0.heap.size W W') ∨ (e = .returned (.bool false) ∧ Jx W')) :
    Calls Tryz.prog 26 #[.func (.yield l) #[] #[], .pointer (some ⟨b1, 0, none⟩)] W0 fun e W' => (∃ v, e = .returned v) ∧ (J 1 W' ∨ Jx W') := by
  have HX : Hid ((∀ i W, J i W → W.cell? ⟨b1, 0, none⟩ = some (.slice (some ⟨b, 0, none⟩) 1 1) ∧ Blk 27 W b (gen 2 X a1 d1 n1 c1 m1 e1)) ∧ (∀ i W W', J i W → Below W.heap.size W W' → J i W')) := ⟨hT, hb⟩
  have HY : Hid (∀ W, J 0 W → W0.heap.size ≤ W.heap.size → YieldAt Fence.wide n Tryz.prog l #[.agg #[.int .i64 2, .string (strOfNums X), .slice a1 n1 c1, .slice d1 m1 e1], .agg #[.int .i64 2, .func (.func 31) #[] #[]]] W fun e W' =>
      (e = .returned (.bool true) ∧ J 1 W' ∧ Kept W0.heap.size W W') ∨ (e = .returned (.bool false) ∧ Jx W')) := hY
  have hc1 := (hT 0 W0 h0).1
  have HJ0 : Hid (J 0 W0) := h0
  clear hT hb h0 hY
  go_enter Tryz.func26, Tryz.ntmps26
  go_wp2_with fail
  go_loopw [4, 5, 6, 9] (fun _ _ _ iv wr => ∃ i : Nat, iv = .int .i64 (i : Int) ∧ i ≤ 1 ∧ Hid (J i wr ∧ W0.heap.size ≤ wr.heap.size)) (fun _ _ _ iv _ => 1 - (intOf iv).toNat)
  case atStart => exact ⟨0, rfl, Nat.zero_le _, HJ0.out, Nat.le_refl _⟩
  case round =>
    obtain ⟨i, rfl, hi, HI⟩ := hrel
    obtain rfl | rfl : i = 0 ∨ i = 1 := by omega
    · have HG : Hid (wr.rangeAt b 0 [.int .i64 2, .string (strOfNums X), .slice a1 n1 c1, .slice d1 m1 e1]) := (HX.out.1 0 wr HI.out.1).2.whole
      go_upto_region 3 with (first
        | (refine wpList_load_mid rfl 27 (.tmp 11) rfl b 0 rfl [.int .i64 2, .string (strOfNums X), .slice a1 n1 c1, .slice d1 m1 e1] _ HG.out Tryz.underlying27 rfl Tryz.sizeG ?_)
        | (refine wpList_store_mid rfl 27 (.tmp 4) (.tmp 12) rfl wr.heap.size 0 #[.int .i64 2, .string (strOfNums X), .slice a1 n1 c1, .slice d1 m1 e1] rfl rfl ((Blk.new 27 wr _).there 0 _ (by simp)) (by simpa using Tryz.sizeG) (by rfl) ?_))
      obtain ⟨h, hh⟩ : ∃ h, wr.heap.size = h := ⟨_, rfl⟩
      rw [hh]
      refine wp_gen (fun W => Blk 27 W h [.int .i64 2, .string (strOfNums X), .slice a1 n1 c1, .slice d1 m1 e1] ∧ Below wr.heap.size wr W) ⟨hh ▸ Blk.new 27 wr [.int .i64 2, .string (strOfNums X), .slice a1 n1 c1, .slice d1 m1 e1], al1 _⟩ ?_
      rintro W2 ⟨hB2, hb2⟩
      have p0 : W2.cell? ⟨h, 0, none⟩ = some (.int .i64 2) := hB2.cell 0
      have H2 : Hid (Blk 27 W2 h [.int .i64 2, .string (strOfNums X), .slice a1 n1 c1, .slice d1 m1 e1] ∧ Below wr.heap.size wr W2) := ⟨hB2, hb2⟩
      clear hB2 hb2
      go_upto_region 4 with (go_at_call 27; refine ruleOf2_any.mono ?_; rintro e W3 ⟨rfl, hb3⟩)
      obtain ⟨k, hk⟩ : ∃ k, W3.heap.size = k := ⟨_, rfl⟩
      rw [hk]
      refine wp_gen (fun W => Blk 27 W h [.int .i64 2, .string (strOfNums X), .slice a1 n1 c1, .slice d1 m1 e1] ∧ Blk 43 W k [.int .i64 2, .func (.func 31) #[] #[]] ∧ Below wr.heap.size wr W) ⟨(below_blk hb3 H2.out.1.lt H2.out.1).alloc _, hk ▸ Blk.new 43 W3 [.int .i64 2, .func (.func 31) #[] #[]], (H2.out.2.trans (hb3.mono H2.out.2.size)).alloc (H2.out.2.trans (hb3.mono H2.out.2.size)).size _⟩ ?_
      rintro W4 ⟨hB4, hU4, hb4⟩
      have q0 : W4.cell? ⟨h, 0, none⟩ = some (.int .i64 2) := hB4.cell 0
      have q1 : W4.cell? ⟨h, 1, none⟩ = some (.string (strOfNums X)) := hB4.cell 1
      have q2 : W4.cell? ⟨h, 2, none⟩ = some (.slice a1 n1 c1) := hB4.cell 2
      have q3 : W4.cell? ⟨h, 3, none⟩ = some (.slice d1 m1 e1) := hB4.cell 3
      have r0 : W4.cell? ⟨k, 0, none⟩ = some (.int .i64 2) := hU4.cell 0
      have r1 : W4.cell? ⟨k, 1, none⟩ = some (.func (.func 31) #[] #[]) := hU4.cell 1
      have hJ4 := HX.out.2 0 wr W4 HI.out.1 hb4
      have hs4 : W0.heap.size ≤ W4.heap.size := Nat.le_trans HI.out.2 hb4.size
      obtain ⟨fn, tmps, assign, body, hyr, hR⟩ := HY.out W4 hJ4 hs4
      clear hb3 hB4 hU4 hJ4 p0
      refine (wpIn_wide (n := n + 1)).1 ?_
      gi_wp2
      refine hR.mono ?_
      rintro e W5 (⟨rfl, hJ5, hk5⟩ | ⟨rfl, hx5⟩)
      · have HK5 : Hid (J 1 W5 ∧ W0.heap.size ≤ W5.heap.size) := ⟨hJ5, by have := hk5.1; omega⟩
        clear hJ5 hk5 hR hyr q0 q1 q2 q3 r0 r1
        gi_wp2
        go_wp2
        go_roundw
        case rel => exact ⟨1, rfl, by omega, HK5.out⟩
        case measure => simp [intOf]
      · clear hR hyr q0 q1 q2 q3 r0 r1
        gi_wp2
        go_wp2
        exact bodyPost_ret (v := .tuple #[]) (results_none rfl _ _ _) rfl ⟨⟨_, rfl⟩, .inr hx5⟩
    · go_wp2
      exact bodyPost_end (v := .tuple #[]) (results_none rfl _ _ _) rfl ⟨⟨_, rfl⟩, .inl HI.out.1⟩
end Go.Proofs.YtbgeemjnhkinaaaGreatDoor
/-
  A range over a function whose rounds are counted, for any number of values; what the round lays down ahead of its body may be in memory too.
-/
namespace Go.Proofs.YtbgeemjnhkinaaaGreatDoor
open Go.RowKit
theorem range_lay {P : Program} {g : Operand} {ps : Array Tmp} {assign body : Code} {Q : Exit → Act → World → Prop} {a : Act} {W : World} {n m N gf : Nat} {lb : Array Value}
    (hg : a.eval g = .func (.func gf) #[] lb) (eg : ∀ args w, (callFunc gf args).run P w = .ok (.enter gf args) w) 
    (I : Nat → World → Prop) (Ix : Code → World → Prop) (Y : Nat → Array Value → World → Prop) (hps : ∀ i v A, Y i v A → v.size = ps.size)
    (hI1 : ∀ i A B, I i A → Below A.heap.size A B → I i B) (hI2 : ∀ i A k o o', W.heap.size ≤ k → A.heap[k]? = some o → o.isCells = false → o.isWalk = false → I i A → I i (A.putObj k o'))
    (hX2 : ∀ c A k o o', W.heap.size ≤ k → A.heap[k]? = some o → o.isCells = false → o.isWalk = false → Ix c A → Ix c (A.putObj k o'))
    (iter : ∀ (l : Nat) (W1 : World) (J : Nat → World → Prop) (Jx : World → Prop), W1.heap.size = W.heap.size + 2 → Below W.heap.size W W1 → J 0 W1 → (∀ i A, J i A → I i A) → (∀ i A B, J i A → Below A.heap.size A B → J i B) →
      (∀ i v A, i < N → J i A → W1.heap.size ≤ A.heap.size → Y i v A → YieldAt Fence.wide n P l v A fun e B => (e = .returned (.bool true) ∧ J (i + 1) B ∧ Kept W1.heap.size A B) ∨ (e = .returned (.bool false) ∧ Jx B)) →
      Calls P gf (#[.func (.yield l) #[] #[]] ++ lb) W1 fun e B => (∃ v, e = .returned v) ∧ (J N B ∨ Jx B))
    (h0 : I 0 W)
    (Z : Nat → Act → World → Prop) (hZ2 : ∀ i b A k o o', W.heap.size ≤ k → A.heap[k]? = some o → o.isCells = false → o.isWalk = false → Z i b A → Z i b (A.putObj k o'))
    (hass : ∀ (l i : Nat) (v : Array Value) (A : World) (K : Act → World → Prop), i < N → I i A → W.heap.size + 2 ≤ A.heap.size → Y i v A → (∀ b B, Kept W.heap.size A B → Z i b B → K b B) → assign.wpIn (Fence.wide.inRound l) n P (Exit.then K (fun _ _ _ => False)) { tmps := (ps.zip v).foldl (fun t (p, v) => t.setIfInBounds p v) a.tmps, defers := [] } A)
    (hbody : ∀ (l i : Nat) (b : Act) (A : World), i < N → W.heap.size + 2 ≤ A.heap.size → Z i b A → body.wpIn (Fence.wide.inRound l) n P (postM W.heap.size i I Ix A) b A)
    (hdone : ∀ A : World, I N A → A.heap[W.heap.size]? = some (.deferred (some [])) → Q .normal { a with defers := { target := .collected W.heap.size, args := #[] } :: a.defers } A)
    (hstop : ∀ (c : Code) (A : World), Ix c A → A.heap[W.heap.size]? = some (.deferred (some [])) → c.wpIn Fence.wide m P Q { a with defers := { target := .collected W.heap.size, args := #[] } :: a.defers } A) :
    (Code.rangeFunc g ps assign body).wpIn Fence.wide m P Q a W := by
  refine wpIn_rangeFunc ?_
  intro fn _
  obtain ⟨rec, hrec⟩ : ∃ rec : LoopState → Option Code → Loop, rec = fun st pe => { state := st, pending := pe, fn, tmps := a.tmps, params := ps, assign, body, defers := W.heap.size } := ⟨_, rfl⟩
  obtain ⟨W1, hW1⟩ : ∃ W1, (W.alloc (.deferred (some []))).alloc (.loop (rec .ready none)) = W1 := ⟨_, rfl⟩
  have hB1 : Below W.heap.size W W1 := by rw [← hW1]; exact ((Below.refl _ _).alloc (Nat.le_refl _) _).alloc (by simp) _
  have hs1 : W1.heap.size = W.heap.size + 2 := by rw [← hW1]; simp
  have hL1 : W1.heap[W.heap.size + 1]? = some (.loop (rec .ready none)) := by
    rw [← hW1]; have := heap_alloc_new (W.alloc (.deferred (some []))) (.loop (rec .ready none)); simpa using this
  have hD1 : W1.heap[W.heap.size]? = some (.deferred (some [])) := by
    rw [← hW1]
    have e := ((Below.refl (W.heap.size + 1) (W.alloc (.deferred (some [])))).alloc (by simp) (.loop (rec .ready none))).block W.heap.size (by omega)
    rw [e]; exact heap_alloc_new W _
  refine ⟨W.heap.size + 1, [{ target := .collected W.heap.size, args := #[] }], W1, { target := .fn (.func gf) lb, args := #[.func (.yield (W.heap.size + 1)) #[] #[]] }, W1, gf,
    #[.func (.yield (W.heap.size + 1)) #[] #[]] ++ lb, W1, ?_, ?_, fun f' _ => trivial, ?_, fun h => (by cases h), callsIn_wide.2 ?_⟩
  · rw [← hW1, hrec]; exact run_enterLoop_outer _ _ _ _ _
  · simp only [resolve, hg]
    simp [go_sem]
  · simp [invoke, go_sem, eg]
  refine (iter (W.heap.size + 1) W1
    (fun i A => I i A ∧ A.heap[W.heap.size + 1]? = some (.loop (rec .ready none)) ∧ A.heap[W.heap.size]? = some (.deferred (some [])))
    (fun B => ∃ c, Ix c B ∧ B.heap[W.heap.size + 1]? = some (.loop (rec .done (some c))) ∧ B.heap[W.heap.size]? = some (.deferred (some [])))
    hs1 hB1 ⟨hI1 0 W W1 h0 hB1, hL1, hD1⟩ (fun i A h => h.1) (fun i A B h hb => ?_) ?_).mono ?_
  · exact ⟨hI1 i A B h.1 hb, (hb.block _ (Array.getElem?_eq_some_iff.1 h.2.1).1).trans h.2.1, (hb.block _ (Array.getElem?_eq_some_iff.1 h.2.2).1).trans h.2.2⟩
  · rintro i v A hiN ⟨hi, hl, hd⟩ hsz hy
    have hlt : W.heap.size + 1 < A.heap.size := (Array.getElem?_eq_some_iff.1 hl).1
    have hry := run_yield (P := P) (args := v) hl (by rw [hrec]; exact hps i v A hy)
    rw [hrec] at hry
    refine ⟨fn, _, assign, body, hry, roundIn_of_wpIn trivial (hass _ i v A _ hiN hi (by omega) hy fun a1 A1 hk1 hz1 => ?_)⟩
    have hl1 := (hk1.2 (W.heap.size + 1) (by omega) hlt).trans hl
    have hd1 := (hk1.2 W.heap.size (Nat.le_refl _) (by omega)).trans hd
    have hlt1 : W.heap.size + 1 < A1.heap.size := (Array.getElem?_eq_some_iff.1 hl1).1
    refine ⟨_, run_beginRound hl1 (by rw [hrec]), ?_⟩
    obtain ⟨A2, hA2⟩ : ∃ A2, A1.putObj (W.heap.size + 1) (.loop { rec .ready none with state := .busy }) = A2 := ⟨_, rfl⟩
    have hl2 : A2.heap[W.heap.size + 1]? = some (.loop { rec .ready none with state := .busy }) := by rw [← hA2]; exact World.putObj_heap_same hlt1
    have hd2 : A2.heap[W.heap.size]? = some (.deferred (some [])) := by rw [← hA2]; exact (World.putObj_heap_other (by omega)).trans hd1
    have hz' : Z i a1 A2 := by rw [← hA2]; exact hZ2 i a1 A1 _ _ _ (by omega) hl1 rfl rfl hz1
    have hs2 : A2.heap.size = A1.heap.size := by rw [← hA2]; simp [World.putObj]
    have hs1A := hk1.1
    have hk2 : Kept W1.heap.size A A2 := ⟨by omega, fun k hk hlt => by rw [← hA2]; exact (World.putObj_heap_other (by omega)).trans (hk1.2 k (by omega) hlt)⟩
    rw [hA2]
    refine wpIn_mono (hbody _ i a1 A2 hiN (by omega) hz') ?_
    have fin : ∀ (jump : Option Code) (A3 : World), Kept W.heap.size A2 A3 →
        (Instr.endRound (W.heap.size + 1) jump).run P A3 = .ok (.bool jump.isNone) (A3.putObj (W.heap.size + 1) (.loop (rec (if jump.isNone then .ready else .done) jump))) ∧
        A3.heap[W.heap.size + 1]? = some (.loop { rec .ready none with state := .busy }) ∧
        (A3.putObj (W.heap.size + 1) (.loop (rec (if jump.isNone then .ready else .done) jump))).heap[W.heap.size + 1]? = some (.loop (rec (if jump.isNone then .ready else .done) jump)) ∧
        (A3.putObj (W.heap.size + 1) (.loop (rec (if jump.isNone then .ready else .done) jump))).heap[W.heap.size]? = some (.deferred (some [])) ∧
        Kept W1.heap.size A (A3.putObj (W.heap.size + 1) (.loop (rec (if jump.isNone then .ready else .done) jump))) := fun jump A3 hk3 => by
      have hl3 := (hk3.2 (W.heap.size + 1) (by omega) (by omega)).trans hl2
      have hd3 := (hk3.2 W.heap.size (Nat.le_refl _) (by omega)).trans hd2
      have hlt3 : W.heap.size + 1 < A3.heap.size := (Array.getElem?_eq_some_iff.1 hl3).1
      have := run_endRound (P := P) jump hl3
      rw [hrec] at this ⊢
      refine ⟨this, by rw [hrec] at hl3; exact hl3, World.putObj_heap_same hlt3, (World.putObj_heap_other (by omega)).trans hd3, ?_, fun k hk hlt => ?_⟩
      · have := hk3.1; simp [World.putObj]; omega
      · have h1 : k ≠ W.heap.size + 1 := by omega
        rw [World.putObj_heap_other h1, hk3.2 k (by omega) (by omega)]
        exact hk2.2 k hk hlt
    rintro e a3 A3 hp
    cases e with
    | normal =>
      obtain ⟨hk3, hi3⟩ := hp
      obtain ⟨hr, hl3, hl4, hd4, hk4⟩ := fin none A3 hk3
      exact ⟨_, _, hr, .inl ⟨rfl, ⟨hI2 _ _ _ _ _ (by omega) hl3 rfl rfl hi3, hl4, hd4⟩, hk4⟩⟩
    | exit id =>
      obtain ⟨hk3, hi3⟩ := hp
      obtain ⟨hr, hl3, hl4, hd4, _⟩ := fin (some (.exit id)) A3 hk3
      exact ⟨_, _, hr, .inr ⟨rfl, .exit id, hX2 _ _ _ _ _ (by omega) hl3 rfl rfl hi3, hl4, hd4⟩⟩
    | ret =>
      obtain ⟨hk3, hi3⟩ := hp
      obtain ⟨hr, hl3, hl4, hd4, _⟩ := fin (some .ret) A3 hk3
      exact ⟨_, _, hr, .inr ⟨rfl, .ret, hX2 _ _ _ _ _ (by omega) hl3 rfl rfl hi3, hl4, hd4⟩⟩
    | goto t => exact hp.elim
    | panic ch => exact hp.elim
    | outgrown => exact hp.elim
  · rintro e B ⟨⟨v, rfl⟩, ⟨hi, hl, hd⟩ | ⟨c, hi, hl, hd⟩⟩
    · exact ⟨none, _, by have := run_endLoop (P := P) hl (by rw [hrec]; simp); rw [hrec] at this; exact this, hdone _ (hI2 _ _ _ _ _ (by omega) hl rfl rfl hi) ((World.putObj_heap_other (by omega)).trans hd)⟩
    · refine ⟨some c, _, by have := run_endLoop (P := P) hl (by rw [hrec]; simp); rw [hrec] at this; exact this, hstop c _ (hX2 _ _ _ _ _ (by omega) hl rfl rfl hi) ((World.putObj_heap_other (by omega)).trans hd)⟩
end Go.Proofs.YtbgeemjnhkinaaaGreatDoor
/-
  Realm: Allowed, at one name that is a host and one that is permitted.
-/
namespace Go.Proofs.YtbgeemjnhkinaaaGreatDoor
open Go.RowKit
attribute [local go_sem] Oper.semAt_some run_store_func
set_option maxHeartbeats 1000000 in
theorem ruled_any {w : World} (a : Option Addr) (n c : Nat) : Calls Tryz.prog 19 #[.slice a n c] w fun e w' => e = .returned (.func (.func 26) #[] #[.pointer (some ⟨w.heap.size, 0, none⟩)]) ∧ w' = w.alloc (.cells #[.slice a n c] 28) := by
  go_enter Tryz.func19, Tryz.ntmps19
  go_wp2
  go_ret
  exact ⟨by simp, rfl⟩
/-- What Allowed has in memory. -/
def AI (w : World) (g bn bp : Nat) (N M : List Value) (W : World) : Prop :=
  g + 4 ≤ W.heap.size ∧ Blk 28 W g [.slice (some ⟨bp, 0, none⟩) 1 1] ∧ Blk 28 W (g + 1) [.slice none 0 0] ∧ Blk 4 W (g + 2) [.bool false] ∧ Blk 28 W (g + 3) [.slice (some ⟨bn, 0, none⟩) 1 1] ∧ Blk 27 W bn N ∧ Blk 27 W bp M ∧ Below g w W
theorem AI.below {w : World} {g bn bp : Nat} {N M : List Value} {W W' : World} (h : AI w g bn bp N M W) (hb : Below W.heap.size W W') : AI w g bn bp N M W' :=
  ⟨Nat.le_trans h.1 hb.size, below_blk hb h.2.1.lt h.2.1, below_blk hb h.2.2.1.lt h.2.2.1, below_blk hb h.2.2.2.1.lt h.2.2.2.1, below_blk hb h.2.2.2.2.1.lt h.2.2.2.2.1, below_blk hb h.2.2.2.2.2.1.lt h.2.2.2.2.2.1, below_blk hb h.2.2.2.2.2.2.1.lt h.2.2.2.2.2.2.1, h.2.2.2.2.2.2.2.trans (hb.mono (by have := h.1; omega))⟩
theorem blk_ne {A : World} {T : TypeId} {b k : Nat} {cs : List Value} {o : Obj} (h : Blk T A b cs) (ho : A.heap[k]? = some o) (hc : o.isCells = false) : b ≠ k := by
  rintro rfl
  unfold Blk at h
  rw [h] at ho
  cases ho
  cases hc
theorem AI.put {w : World} {g bn bp : Nat} {N M : List Value} {A : World} (h : AI w g bn bp N M A) {k : Nat} {o : Obj} (o' : Obj) (hk : g ≤ k) (ho : A.heap[k]? = some o) (hc : o.isCells = false) : AI w g bn bp N M (A.putObj k o') :=
  ⟨by simpa [World.putObj] using h.1, blk_put o' (blk_ne h.2.1 ho hc) h.2.1, blk_put o' (blk_ne h.2.2.1 ho hc) h.2.2.1, blk_put o' (blk_ne h.2.2.2.1 ho hc) h.2.2.2.1, blk_put o' (blk_ne h.2.2.2.2.1 ho hc) h.2.2.2.2.1, blk_put o' (blk_ne h.2.2.2.2.2.1 ho hc) h.2.2.2.2.2.1, blk_put o' (blk_ne h.2.2.2.2.2.2.1 ho hc) h.2.2.2.2.2.2.1, below_putW' o' hk h.2.2.2.2.2.2.2⟩
theorem kept_below {B : Nat} {A A' : World} (h : Below A.heap.size A A') : Kept B A A' := ⟨h.size, fun k _ hlt => h.block k hlt⟩
set_option maxRecDepth 20000 in
set_option maxHeartbeats 8000000 in
theorem Allowed2_any {w : World} (X Y : List Int) (uX : U8s X) (uY : U8s Y) (lX : X.length ≤ 1125899906842624) (lY : Y.length ≤ 1125899906842624) (kb : Int) (a1 a2 d1 d2 : Option Addr) (n1 c1 n2 c2 m1 e1 m2 e2 bn bp : Nat) (hbn : Blk 27 w bn (gen 2 X a1 d1 n1 c1 m1 e1)) (hbp : Blk 27 w bp (gen kb Y a2 d2 n2 c2 m2 e2)) :
    Calls Tryz.prog 10 #[.slice (some ⟨bn, 0, none⟩) 1 1, .slice (some ⟨bp, 0, none⟩) 1 1, .slice none 0 0] w fun e w' => e = .returned (.bool (!decide (kb = 2) || hostB X Y)) ∧ Below w.heap.size w w' := by
  obtain ⟨R, hR⟩ : ∃ R, (!decide (kb = 2) || hostB X Y) = R := ⟨_, rfl⟩
  obtain ⟨g, hg⟩ : ∃ g, w.heap.size = g := ⟨_, rfl⟩
  have HR : Hid ((!decide (kb = 2) || hostB X Y) = R) := hR
  rw [hR, hg]
  have HX : Hid (U8s X ∧ U8s Y ∧ X.length ≤ 1125899906842624 ∧ Y.length ≤ 1125899906842624 ∧ bn < g ∧ bp < g) := ⟨uX, uY, lX, lY, hg ▸ hbn.lt, hg ▸ hbp.lt⟩
  have HB : Hid (Blk 27 w bn (gen 2 X a1 d1 n1 c1 m1 e1) ∧ Blk 27 w bp (gen kb Y a2 d2 n2 c2 m2 e2)) := ⟨hbn, hbp⟩
  clear hR uX uY lX lY hbn hbp
  refine (callsIn_wide (n := 10)).1 (callsIn_of_wp_marks Tryz.func10 rfl trivial (wpIn_wide.2 ?_) rfl)
  simp only [Tryz.ntmps10, List.size_toArray, List.length_cons, List.length_nil, Nat.reduceAdd, Nat.reduceSub, Array.replicate_succ, Array.replicate_zero, List.push_toArray, List.append_toArray, List.nil_append, List.cons_append]
  go_wp2_with (go_at_call 19; refine (ruled_any _ _ _).mono ?_; rintro e w1 ⟨rfl, rfl⟩)
  try simp only [World.size_alloc, hg]
  refine wp_gen (fun W => W.heap.size = g + 4 ∧ AI w g bn bp (gen 2 X a1 d1 n1 c1 m1 e1) (gen kb Y a2 d2 n2 c2 m2 e2) W) ?_ ?_
  · have k0 := (((Blk.new 28 w [.slice (some ⟨bp, 0, none⟩) 1 1]).alloc (.cells #[.slice none 0 0] 28)).alloc (.cells #[.bool false] 4)).alloc (.cells #[.slice (some ⟨bn, 0, none⟩) 1 1] 28)
    have k1 := ((Blk.new 28 (w.alloc (.cells #[.slice (some ⟨bp, 0, none⟩) 1 1] 28)) [.slice none 0 0]).alloc (.cells #[.bool false] 4)).alloc (.cells #[.slice (some ⟨bn, 0, none⟩) 1 1] 28)
    have k2 := (Blk.new 4 ((w.alloc (.cells #[.slice (some ⟨bp, 0, none⟩) 1 1] 28)).alloc (.cells #[.slice none 0 0] 28)) [.bool false]).alloc (.cells #[.slice (some ⟨bn, 0, none⟩) 1 1] 28)
    have k3 := Blk.new 28 (((w.alloc (.cells #[.slice (some ⟨bp, 0, none⟩) 1 1] 28)).alloc (.cells #[.slice none 0 0] 28)).alloc (.cells #[.bool false] 4)) [.slice (some ⟨bn, 0, none⟩) 1 1]
    have hb1 := al1 (w := w) (.cells #[.slice (some ⟨bp, 0, none⟩) 1 1] 28)
    have hb2 := hb1.alloc hb1.size (.cells #[.slice none 0 0] 28)
    have hb3 := hb2.alloc hb2.size (.cells #[.bool false] 4)
    have hb4 := hb3.alloc hb3.size (.cells #[.slice (some ⟨bn, 0, none⟩) 1 1] 28)
    have j1 := below_blk hb4 HB.out.1.lt HB.out.1
    have j2 := below_blk hb4 HB.out.2.lt HB.out.2
    simp only [World.size_alloc, hg] at k0 k1 k2 k3 hb4
    exact ⟨by simp [hg], by simp [hg], k0, k1, k2, k3, j1, j2, hb4⟩
  rintro V ⟨hVs, hVI⟩
  have HV : Hid (AI w g bn bp (gen 2 X a1 d1 n1 c1 m1 e1) (gen kb Y a2 d2 n2 c2 m2 e2) V) := hVI
  clear hVI
  refine (wpIn_wide (n := 10)).1 ?_
  refine range_lay (n := 5) (N := 1) (gf := 26) (lb := #[.pointer (some ⟨g + 3, 0, none⟩)]) (by simp [Act.eval]) (enters_of Tryz.func26 (by kernel_rfl) rfl)
    (fun i A => AI w g bn bp (gen 2 X a1 d1 n1 c1 m1 e1) (gen kb Y a2 d2 n2 c2 m2 e2) A ∧ (i = 1 → R = true)) (fun c A => c = .ret ∧ (Blk 4 A (g + 2) [.bool false] ∧ Below g w A) ∧ R = false) (fun i v _ => v = #[.agg #[.int .i64 2, .string (strOfNums X), .slice a1 n1 c1, .slice d1 m1 e1], .agg #[.int .i64 2, .func (.func 31) #[] #[]]])
    ?_ ?_ ?_ ?_ ?_ ?_ (fun i b A => ∃ h k, b = { tmps := #[.slice (some ⟨bn, 0, none⟩) 1 1, .slice (some ⟨bp, 0, none⟩) 1 1, .slice none 0 0, undef, .pointer (some ⟨g, 0, none⟩), .pointer (some ⟨g + 1, 0, none⟩), .pointer (some ⟨g + 2, 0, none⟩), .pointer (some ⟨h, 0, none⟩), .pointer (some ⟨k, 0, none⟩), .slice (some ⟨bn, 0, none⟩) 1 1, .func (.func 26) #[] #[.pointer (some ⟨g + 3, 0, none⟩)], .agg #[.int .i64 2, .string (strOfNums X), .slice a1 n1 c1, .slice d1 m1 e1], .agg #[.int .i64 2, .func (.func 31) #[] #[]], undef, undef, undef, undef, undef, undef, undef, undef, undef, undef, undef, undef, undef, undef], defers := [] } ∧ AI w g bn bp (gen 2 X a1 d1 n1 c1 m1 e1) (gen kb Y a2 d2 n2 c2 m2 e2) A ∧ Blk 27 A h [.int .i64 2, .string (strOfNums X), .slice a1 n1 c1, .slice d1 m1 e1] ∧ Blk 43 A k [.int .i64 2, .func (.func 31) #[] #[]]) ?_ ?_ ?_ ?_ ?_
  · rintro i v A rfl; rfl
  · rintro i A A' ⟨h1, h2⟩ hb
    exact ⟨h1.below hb, h2⟩
  · rintro i A k o o' hk ho hc hwk ⟨h1, h2⟩
    exact ⟨h1.put o' (by omega) ho hc, h2⟩
  · rintro c A k o o' hk ho hc hwk ⟨rfl, ⟨h1, h6⟩, hr⟩
    exact ⟨rfl, ⟨blk_put o' (by omega) h1, below_putW' o' (by omega) h6⟩, hr⟩
  · intro l W1 J Jx hs1 hb1 h0 hJI hJb hY
    exact ruled1_any l (g + 3) bn X a1 d1 n1 c1 m1 e1 5 J Jx (fun i A hJ => ⟨(hJI i A hJ).1.2.2.2.2.1.cell 0, (hJI i A hJ).1.2.2.2.2.2.1⟩) hJb W1 h0 (fun A hJ hsz => hY 0 _ A (by omega) hJ hsz rfl)
  · exact ⟨HV.out, fun e => by omega⟩
  · rintro i b A k o o' hk ho hc hwk ⟨h, k', rfl, h1, h2, h3⟩
    exact ⟨h, k', rfl, h1.put o' (by omega) ho hc, blk_put o' (blk_ne h2 ho hc) h2, blk_put o' (blk_ne h3 ho hc) h3⟩
  · rintro l i v A K hi hI hsA rfl hK
    gi_wp2
    have b1 := al1 (w := A) (.cells #[.int .i64 2, .string (strOfNums X), .slice a1 n1 c1, .slice d1 m1 e1] 27)
    have b2 := b1.alloc b1.size (.cells #[.int .i64 2, .func (.func 31) #[] #[]] 43)
    have k1 := (Blk.new 27 A [.int .i64 2, .string (strOfNums X), .slice a1 n1 c1, .slice d1 m1 e1]).alloc (.cells #[.int .i64 2, .func (.func 31) #[] #[]] 43)
    have k2 := Blk.new 43 (A.alloc (.cells #[.int .i64 2, .string (strOfNums X), .slice a1 n1 c1, .slice d1 m1 e1] 27)) [.int .i64 2, .func (.func 31) #[] #[]]
    simp only [World.size_alloc] at k2
    exact hK _ _ (kept_below b2) ⟨A.heap.size, A.heap.size + 1, rfl, hI.1.below b2, k1, k2⟩
  · rintro l i b A hi hsA ⟨h, k, rfl, hAI, hh, hk⟩
    have HM0 : Hid (∀ W : World, Calls Tryz.prog 20 #[.agg #[.int .i64 2, .func (.func 31) #[] #[]], .agg #[.int .i64 2, .string (strOfNums X), .slice a1 n1 c1, .slice d1 m1 e1], .slice none 0 0] W fun e w' => e = .returned (.bool false) ∧ Below W.heap.size W w') := fun W => matches0_any 2 2 X a1 d1 n1 c1 m1 e1
    have HMB : Hid (∀ W : World, Blk 27 W bp (gen kb Y a2 d2 n2 c2 m2 e2) → Calls Tryz.prog 21 #[.agg #[.int .i64 2, .func (.func 31) #[] #[]], .slice (some ⟨bp, 0, none⟩) 1 1] W fun e w' => e = .returned (.bool (decide (kb = 2))) ∧ Below W.heap.size W w') := fun W hB => bounds1_any 2 kb Y a2 d2 n2 c2 m2 e2 bp hB
    have HM1 : Hid (∀ W : World, Blk 27 W bp (gen kb Y a2 d2 n2 c2 m2 e2) → Calls Tryz.prog 20 #[.agg #[.int .i64 2, .func (.func 31) #[] #[]], .agg #[.int .i64 2, .string (strOfNums X), .slice a1 n1 c1, .slice d1 m1 e1], .slice (some ⟨bp, 0, none⟩) 1 1] W fun e w' => e = .returned (.bool (decide (kb = 2) && hostB X Y)) ∧ Below W.heap.size W w') := fun W hB => matches1_any 2 2 kb X Y HX.out.1 HX.out.2.1 HX.out.2.2.1 HX.out.2.2.2.1 a1 a2 d1 d2 n1 c1 n2 c2 m1 e1 m2 e2 bp hB
    have HZA : Hid (AI w g bn bp (gen 2 X a1 d1 n1 c1 m1 e1) (gen kb Y a2 d2 n2 c2 m2 e2) A ∧ Blk 27 A h [.int .i64 2, .string (strOfNums X), .slice a1 n1 c1, .slice d1 m1 e1] ∧ Blk 43 A k [.int .i64 2, .func (.func 31) #[] #[]] ∧ Below A.heap.size A A) := ⟨hAI, hh, hk, Below.refl _ _⟩; have zAg : A.cell? ⟨g, 0, none⟩ = some (.slice (some ⟨bp, 0, none⟩) 1 1) := HZA.out.1.2.1.cell 0; have zAe : A.cell? ⟨g + 1, 0, none⟩ = some (.slice none 0 0) := HZA.out.1.2.2.1.cell 0; have zA0 : A.cell? ⟨h, 0, none⟩ = some (.int .i64 2) := HZA.out.2.1.cell 0; have zA1 : A.cell? ⟨h, 1, none⟩ = some (.string (strOfNums X)) := HZA.out.2.1.cell 1; have zA2 : A.cell? ⟨h, 2, none⟩ = some (.slice a1 n1 c1) := HZA.out.2.1.cell 2; have zA3 : A.cell? ⟨h, 3, none⟩ = some (.slice d1 m1 e1) := HZA.out.2.1.cell 3; have zA4 : A.cell? ⟨k, 0, none⟩ = some (.int .i64 2) := HZA.out.2.2.1.cell 0; have zA5 : A.cell? ⟨k, 1, none⟩ = some (.func (.func 31) #[] #[]) := HZA.out.2.2.1.cell 1
    clear hAI hh hk
    obtain ⟨D, hD⟩ : ∃ D, decide (kb = 2) = D := ⟨_, rfl⟩
    obtain ⟨T, hT⟩ : ∃ T, hostB X Y = T := ⟨_, rfl⟩
    have HRR : Hid ((!D || T) = R) := hD ▸ hT ▸ HR.out
    simp only [hD] at HMB HM1
    simp only [hT] at HM1
    clear hD hT HR HX HB HV
    cases D with
    | false =>
      obtain rfl : R = true := HRR.out.symm
      gi_wp2
      refine ⟨trivial, ?_⟩
      refine (CallsIn.inRound l (callsIn_wide.2 (HM0.out A))).mono ?_
      rintro e A1 ⟨rfl, hb1⟩
      have HZA1 : Hid (AI w g bn bp (gen 2 X a1 d1 n1 c1 m1 e1) (gen kb Y a2 d2 n2 c2 m2 e2) A1 ∧ Blk 27 A1 h [.int .i64 2, .string (strOfNums X), .slice a1 n1 c1, .slice d1 m1 e1] ∧ Blk 43 A1 k [.int .i64 2, .func (.func 31) #[] #[]] ∧ Below A.heap.size A A1) := ⟨HZA.out.1.below hb1, below_blk hb1 HZA.out.2.1.lt HZA.out.2.1, below_blk hb1 HZA.out.2.2.1.lt HZA.out.2.2.1, HZA.out.2.2.2.trans (hb1.mono HZA.out.2.2.2.size)⟩
      have zA1g : A1.cell? ⟨g, 0, none⟩ = some (.slice (some ⟨bp, 0, none⟩) 1 1) := HZA1.out.1.2.1.cell 0
      have zA1e : A1.cell? ⟨g + 1, 0, none⟩ = some (.slice none 0 0) := HZA1.out.1.2.2.1.cell 0
      have zA10 : A1.cell? ⟨h, 0, none⟩ = some (.int .i64 2) := HZA1.out.2.1.cell 0
      have zA11 : A1.cell? ⟨h, 1, none⟩ = some (.string (strOfNums X)) := HZA1.out.2.1.cell 1
      have zA12 : A1.cell? ⟨h, 2, none⟩ = some (.slice a1 n1 c1) := HZA1.out.2.1.cell 2
      have zA13 : A1.cell? ⟨h, 3, none⟩ = some (.slice d1 m1 e1) := HZA1.out.2.1.cell 3
      have zA14 : A1.cell? ⟨k, 0, none⟩ = some (.int .i64 2) := HZA1.out.2.2.1.cell 0
      have zA15 : A1.cell? ⟨k, 1, none⟩ = some (.func (.func 31) #[] #[]) := HZA1.out.2.2.1.cell 1
      clear hb1
      gi_wp2
      refine ⟨trivial, ?_⟩
      refine (CallsIn.inRound l (callsIn_wide.2 (HMB.out A1 HZA1.out.1.2.2.2.2.2.2.1))).mono ?_
      rintro e A2 ⟨rfl, hb2⟩
      have HZA2 : Hid (AI w g bn bp (gen 2 X a1 d1 n1 c1 m1 e1) (gen kb Y a2 d2 n2 c2 m2 e2) A2 ∧ Blk 27 A2 h [.int .i64 2, .string (strOfNums X), .slice a1 n1 c1, .slice d1 m1 e1] ∧ Blk 43 A2 k [.int .i64 2, .func (.func 31) #[] #[]] ∧ Below A.heap.size A A2) := ⟨HZA1.out.1.below hb2, below_blk hb2 HZA1.out.2.1.lt HZA1.out.2.1, below_blk hb2 HZA1.out.2.2.1.lt HZA1.out.2.2.1, HZA1.out.2.2.2.trans (hb2.mono HZA1.out.2.2.2.size)⟩
      have zA2g : A2.cell? ⟨g, 0, none⟩ = some (.slice (some ⟨bp, 0, none⟩) 1 1) := HZA2.out.1.2.1.cell 0
      have zA2e : A2.cell? ⟨g + 1, 0, none⟩ = some (.slice none 0 0) := HZA2.out.1.2.2.1.cell 0
      have zA20 : A2.cell? ⟨h, 0, none⟩ = some (.int .i64 2) := HZA2.out.2.1.cell 0
      have zA21 : A2.cell? ⟨h, 1, none⟩ = some (.string (strOfNums X)) := HZA2.out.2.1.cell 1
      have zA22 : A2.cell? ⟨h, 2, none⟩ = some (.slice a1 n1 c1) := HZA2.out.2.1.cell 2
      have zA23 : A2.cell? ⟨h, 3, none⟩ = some (.slice d1 m1 e1) := HZA2.out.2.1.cell 3
      have zA24 : A2.cell? ⟨k, 0, none⟩ = some (.int .i64 2) := HZA2.out.2.2.1.cell 0
      have zA25 : A2.cell? ⟨k, 1, none⟩ = some (.func (.func 31) #[] #[]) := HZA2.out.2.2.1.cell 1
      clear hb2
      gi_wp2
      refine ⟨trivial, ?_⟩
      gi_wp2
      exact ⟨kept_below HZA2.out.2.2.2, HZA2.out.1⟩
    | true =>
      simp only [Bool.true_and] at HM1
      cases T with
      | true =>
        obtain rfl : R = true := HRR.out.symm
        gi_wp2
        refine ⟨trivial, ?_⟩
        refine (CallsIn.inRound l (callsIn_wide.2 (HM0.out A))).mono ?_
        rintro e A1 ⟨rfl, hb1⟩
        have HZA1 : Hid (AI w g bn bp (gen 2 X a1 d1 n1 c1 m1 e1) (gen kb Y a2 d2 n2 c2 m2 e2) A1 ∧ Blk 27 A1 h [.int .i64 2, .string (strOfNums X), .slice a1 n1 c1, .slice d1 m1 e1] ∧ Blk 43 A1 k [.int .i64 2, .func (.func 31) #[] #[]] ∧ Below A.heap.size A A1) := ⟨HZA.out.1.below hb1, below_blk hb1 HZA.out.2.1.lt HZA.out.2.1, below_blk hb1 HZA.out.2.2.1.lt HZA.out.2.2.1, HZA.out.2.2.2.trans (hb1.mono HZA.out.2.2.2.size)⟩
        have zA1g : A1.cell? ⟨g, 0, none⟩ = some (.slice (some ⟨bp, 0, none⟩) 1 1) := HZA1.out.1.2.1.cell 0
        have zA1e : A1.cell? ⟨g + 1, 0, none⟩ = some (.slice none 0 0) := HZA1.out.1.2.2.1.cell 0
        have zA10 : A1.cell? ⟨h, 0, none⟩ = some (.int .i64 2) := HZA1.out.2.1.cell 0
        have zA11 : A1.cell? ⟨h, 1, none⟩ = some (.string (strOfNums X)) := HZA1.out.2.1.cell 1
        have zA12 : A1.cell? ⟨h, 2, none⟩ = some (.slice a1 n1 c1) := HZA1.out.2.1.cell 2
        have zA13 : A1.cell? ⟨h, 3, none⟩ = some (.slice d1 m1 e1) := HZA1.out.2.1.cell 3
        have zA14 : A1.cell? ⟨k, 0, none⟩ = some (.int .i64 2) := HZA1.out.2.2.1.cell 0
        have zA15 : A1.cell? ⟨k, 1, none⟩ = some (.func (.func 31) #[] #[]) := HZA1.out.2.2.1.cell 1
        clear hb1
        gi_wp2
        refine ⟨trivial, ?_⟩
        refine (CallsIn.inRound l (callsIn_wide.2 (HMB.out A1 HZA1.out.1.2.2.2.2.2.2.1))).mono ?_
        rintro e A2 ⟨rfl, hb2⟩
        have HZA2 : Hid (AI w g bn bp (gen 2 X a1 d1 n1 c1 m1 e1) (gen kb Y a2 d2 n2 c2 m2 e2) A2 ∧ Blk 27 A2 h [.int .i64 2, .string (strOfNums X), .slice a1 n1 c1, .slice d1 m1 e1] ∧ Blk 43 A2 k [.int .i64 2, .func (.func 31) #[] #[]] ∧ Below A.heap.size A A2) := ⟨HZA1.out.1.below hb2, below_blk hb2 HZA1.out.2.1.lt HZA1.out.2.1, below_blk hb2 HZA1.out.2.2.1.lt HZA1.out.2.2.1, HZA1.out.2.2.2.trans (hb2.mono HZA1.out.2.2.2.size)⟩
        have zA2g : A2.cell? ⟨g, 0, none⟩ = some (.slice (some ⟨bp, 0, none⟩) 1 1) := HZA2.out.1.2.1.cell 0
        have zA2e : A2.cell? ⟨g + 1, 0, none⟩ = some (.slice none 0 0) := HZA2.out.1.2.2.1.cell 0
        have zA20 : A2.cell? ⟨h, 0, none⟩ = some (.int .i64 2) := HZA2.out.2.1.cell 0
        have zA21 : A2.cell? ⟨h, 1, none⟩ = some (.string (strOfNums X)) := HZA2.out.2.1.cell 1
        have zA22 : A2.cell? ⟨h, 2, none⟩ = some (.slice a1 n1 c1) := HZA2.out.2.1.cell 2
        have zA23 : A2.cell? ⟨h, 3, none⟩ = some (.slice d1 m1 e1) := HZA2.out.2.1.cell 3
        have zA24 : A2.cell? ⟨k, 0, none⟩ = some (.int .i64 2) := HZA2.out.2.2.1.cell 0
        have zA25 : A2.cell? ⟨k, 1, none⟩ = some (.func (.func 31) #[] #[]) := HZA2.out.2.2.1.cell 1
        clear hb2
        gi_wp2
        refine ⟨trivial, ?_⟩
        refine (CallsIn.inRound l (callsIn_wide.2 (HM1.out A2 HZA2.out.1.2.2.2.2.2.2.1))).mono ?_
        rintro e A3 ⟨rfl, hb3⟩
        have HZA3 : Hid (AI w g bn bp (gen 2 X a1 d1 n1 c1 m1 e1) (gen kb Y a2 d2 n2 c2 m2 e2) A3 ∧ Blk 27 A3 h [.int .i64 2, .string (strOfNums X), .slice a1 n1 c1, .slice d1 m1 e1] ∧ Blk 43 A3 k [.int .i64 2, .func (.func 31) #[] #[]] ∧ Below A.heap.size A A3) := ⟨HZA2.out.1.below hb3, below_blk hb3 HZA2.out.2.1.lt HZA2.out.2.1, below_blk hb3 HZA2.out.2.2.1.lt HZA2.out.2.2.1, HZA2.out.2.2.2.trans (hb3.mono HZA2.out.2.2.2.size)⟩
        have zA3g : A3.cell? ⟨g, 0, none⟩ = some (.slice (some ⟨bp, 0, none⟩) 1 1) := HZA3.out.1.2.1.cell 0
        have zA3e : A3.cell? ⟨g + 1, 0, none⟩ = some (.slice none 0 0) := HZA3.out.1.2.2.1.cell 0
        have zA30 : A3.cell? ⟨h, 0, none⟩ = some (.int .i64 2) := HZA3.out.2.1.cell 0
        have zA31 : A3.cell? ⟨h, 1, none⟩ = some (.string (strOfNums X)) := HZA3.out.2.1.cell 1
        have zA32 : A3.cell? ⟨h, 2, none⟩ = some (.slice a1 n1 c1) := HZA3.out.2.1.cell 2
        have zA33 : A3.cell? ⟨h, 3, none⟩ = some (.slice d1 m1 e1) := HZA3.out.2.1.cell 3
        have zA34 : A3.cell? ⟨k, 0, none⟩ = some (.int .i64 2) := HZA3.out.2.2.1.cell 0
        have zA35 : A3.cell? ⟨k, 1, none⟩ = some (.func (.func 31) #[] #[]) := HZA3.out.2.2.1.cell 1
        have zA3q : A3.cell? ⟨g + 2, 0, none⟩ = some (.bool false) := HZA3.out.1.2.2.2.1.cell 0
        have zA3r : A3.frozen? ⟨g + 2, 0, none⟩ = false := HZA3.out.1.2.2.2.1.frozen 0
        clear hb3
        gi_wp2
        exact ⟨kept_below HZA3.out.2.2.2, HZA3.out.1⟩
      | false =>
        obtain rfl : R = false := HRR.out.symm
        gi_wp2
        refine ⟨trivial, ?_⟩
        refine (CallsIn.inRound l (callsIn_wide.2 (HM0.out A))).mono ?_
        rintro e A1 ⟨rfl, hb1⟩
        have HZA1 : Hid (AI w g bn bp (gen 2 X a1 d1 n1 c1 m1 e1) (gen kb Y a2 d2 n2 c2 m2 e2) A1 ∧ Blk 27 A1 h [.int .i64 2, .string (strOfNums X), .slice a1 n1 c1, .slice d1 m1 e1] ∧ Blk 43 A1 k [.int .i64 2, .func (.func 31) #[] #[]] ∧ Below A.heap.size A A1) := ⟨HZA.out.1.below hb1, below_blk hb1 HZA.out.2.1.lt HZA.out.2.1, below_blk hb1 HZA.out.2.2.1.lt HZA.out.2.2.1, HZA.out.2.2.2.trans (hb1.mono HZA.out.2.2.2.size)⟩
        have zA1g : A1.cell? ⟨g, 0, none⟩ = some (.slice (some ⟨bp, 0, none⟩) 1 1) := HZA1.out.1.2.1.cell 0
        have zA1e : A1.cell? ⟨g + 1, 0, none⟩ = some (.slice none 0 0) := HZA1.out.1.2.2.1.cell 0
        have zA10 : A1.cell? ⟨h, 0, none⟩ = some (.int .i64 2) := HZA1.out.2.1.cell 0
        have zA11 : A1.cell? ⟨h, 1, none⟩ = some (.string (strOfNums X)) := HZA1.out.2.1.cell 1
        have zA12 : A1.cell? ⟨h, 2, none⟩ = some (.slice a1 n1 c1) := HZA1.out.2.1.cell 2
        have zA13 : A1.cell? ⟨h, 3, none⟩ = some (.slice d1 m1 e1) := HZA1.out.2.1.cell 3
        have zA14 : A1.cell? ⟨k, 0, none⟩ = some (.int .i64 2) := HZA1.out.2.2.1.cell 0
        have zA15 : A1.cell? ⟨k, 1, none⟩ = some (.func (.func 31) #[] #[]) := HZA1.out.2.2.1.cell 1
        clear hb1
        gi_wp2
        refine ⟨trivial, ?_⟩
        refine (CallsIn.inRound l (callsIn_wide.2 (HMB.out A1 HZA1.out.1.2.2.2.2.2.2.1))).mono ?_
        rintro e A2 ⟨rfl, hb2⟩
        have HZA2 : Hid (AI w g bn bp (gen 2 X a1 d1 n1 c1 m1 e1) (gen kb Y a2 d2 n2 c2 m2 e2) A2 ∧ Blk 27 A2 h [.int .i64 2, .string (strOfNums X), .slice a1 n1 c1, .slice d1 m1 e1] ∧ Blk 43 A2 k [.int .i64 2, .func (.func 31) #[] #[]] ∧ Below A.heap.size A A2) := ⟨HZA1.out.1.below hb2, below_blk hb2 HZA1.out.2.1.lt HZA1.out.2.1, below_blk hb2 HZA1.out.2.2.1.lt HZA1.out.2.2.1, HZA1.out.2.2.2.trans (hb2.mono HZA1.out.2.2.2.size)⟩
        have zA2g : A2.cell? ⟨g, 0, none⟩ = some (.slice (some ⟨bp, 0, none⟩) 1 1) := HZA2.out.1.2.1.cell 0
        have zA2e : A2.cell? ⟨g + 1, 0, none⟩ = some (.slice none 0 0) := HZA2.out.1.2.2.1.cell 0
        have zA20 : A2.cell? ⟨h, 0, none⟩ = some (.int .i64 2) := HZA2.out.2.1.cell 0
        have zA21 : A2.cell? ⟨h, 1, none⟩ = some (.string (strOfNums X)) := HZA2.out.2.1.cell 1
        have zA22 : A2.cell? ⟨h, 2, none⟩ = some (.slice a1 n1 c1) := HZA2.out.2.1.cell 2
        have zA23 : A2.cell? ⟨h, 3, none⟩ = some (.slice d1 m1 e1) := HZA2.out.2.1.cell 3
        have zA24 : A2.cell? ⟨k, 0, none⟩ = some (.int .i64 2) := HZA2.out.2.2.1.cell 0
        have zA25 : A2.cell? ⟨k, 1, none⟩ = some (.func (.func 31) #[] #[]) := HZA2.out.2.2.1.cell 1
        clear hb2
        gi_wp2
        refine ⟨trivial, ?_⟩
        refine (CallsIn.inRound l (callsIn_wide.2 (HM1.out A2 HZA2.out.1.2.2.2.2.2.2.1))).mono ?_
        rintro e A3 ⟨rfl, hb3⟩
        have HZA3 : Hid (AI w g bn bp (gen 2 X a1 d1 n1 c1 m1 e1) (gen kb Y a2 d2 n2 c2 m2 e2) A3 ∧ Blk 27 A3 h [.int .i64 2, .string (strOfNums X), .slice a1 n1 c1, .slice d1 m1 e1] ∧ Blk 43 A3 k [.int .i64 2, .func (.func 31) #[] #[]] ∧ Below A.heap.size A A3) := ⟨HZA2.out.1.below hb3, below_blk hb3 HZA2.out.2.1.lt HZA2.out.2.1, below_blk hb3 HZA2.out.2.2.1.lt HZA2.out.2.2.1, HZA2.out.2.2.2.trans (hb3.mono HZA2.out.2.2.2.size)⟩
        have zA3g : A3.cell? ⟨g, 0, none⟩ = some (.slice (some ⟨bp, 0, none⟩) 1 1) := HZA3.out.1.2.1.cell 0
        have zA3e : A3.cell? ⟨g + 1, 0, none⟩ = some (.slice none 0 0) := HZA3.out.1.2.2.1.cell 0
        have zA30 : A3.cell? ⟨h, 0, none⟩ = some (.int .i64 2) := HZA3.out.2.1.cell 0
        have zA31 : A3.cell? ⟨h, 1, none⟩ = some (.string (strOfNums X)) := HZA3.out.2.1.cell 1
        have zA32 : A3.cell? ⟨h, 2, none⟩ = some (.slice a1 n1 c1) := HZA3.out.2.1.cell 2
        have zA33 : A3.cell? ⟨h, 3, none⟩ = some (.slice d1 m1 e1) := HZA3.out.2.1.cell 3
        have zA34 : A3.cell? ⟨k, 0, none⟩ = some (.int .i64 2) := HZA3.out.2.2.1.cell 0
        have zA35 : A3.cell? ⟨k, 1, none⟩ = some (.func (.func 31) #[] #[]) := HZA3.out.2.2.1.cell 1
        have zA3q : A3.cell? ⟨g + 2, 0, none⟩ = some (.bool false) := HZA3.out.1.2.2.2.1.cell 0
        have zA3r : A3.frozen? ⟨g + 2, 0, none⟩ = false := HZA3.out.1.2.2.2.1.frozen 0
        clear hb3
        gi_wp2
        have hu := Upd.set A3 (g + 2) 0 (.bool false)
        have hs3 := HZA3.out.2.2.2.size
        refine ⟨⟨Nat.le_trans hs3 hu.size, fun j hj hlt => (hu.block j (by omega) (by simp; omega)).trans (HZA3.out.2.2.2.block j hlt)⟩, ?_⟩
        have q1 := HZA3.out.1.2.2.2.1.set 0 (.bool false)
        have q2 := hu.below HZA3.out.1.2.2.2.2.2.2.2 (by have := HZA3.out.1.1; omega) (by omega)
        first | exact ⟨rfl, q1, q2⟩ | exact ⟨q1, q2⟩
  · intro A hI hd
    have HI : Hid (AI w g bn bp (gen 2 X a1 d1 n1 c1 m1 e1) (gen kb Y a2 d2 n2 c2 m2 e2) A) := hI.1
    have q4 : A.cell? ⟨g + 2, 0, none⟩ = some (.bool false) := hI.1.2.2.2.1.cell 0
    have q5 : A.frozen? ⟨g + 2, 0, none⟩ = false := hI.1.2.2.2.1.frozen 0
    obtain rfl : R = true := hI.2 rfl
    clear hI
    go_wp2
    have hu := Upd.set A (g + 2) 0 (.bool true)
    have hd' : (A.setCell ⟨g + 2, 0, none⟩ (.bool true)).heap[V.heap.size]? = some (.deferred (some [])) := (hu.block _ (Array.getElem?_eq_some_iff.1 hd).1 (by simp; omega)).trans hd
    refine ⟨by simp, .inl ⟨_, _, rfl, run_takeDeferred hd', ?_⟩⟩
    have hbb : Below g w ((A.setCell ⟨g + 2, 0, none⟩ (.bool true)).putObj V.heap.size (.deferred none)) := below_putW' _ (by omega) (hu.below HI.out.2.2.2.2.2.2.2 (by have := HI.out.1; omega) (by omega))
    exact ⟨_, results_cell1 (b := g + 2) (q := true) rfl _ _ rfl ((blk_put _ (by omega) (HI.out.2.2.2.1.set 0 (.bool true))).cell 0), rfl, hbb⟩
  · rintro c A ⟨rfl, hX, hRf⟩ hd
    have HXX : Hid (Blk 4 A (g + 2) [.bool false] ∧ Below g w A) := hX
    subst hRf
    refine wpIn_wide.2 ?_
    go_wp2
    refine ⟨by simp, .inl ⟨_, _, rfl, run_takeDeferred hd, ?_⟩⟩
    exact ⟨_, results_cell1 (b := g + 2) (q := false) rfl _ _ rfl ((blk_put _ (by omega) HXX.out.1).cell 0), rfl, below_putW' _ (by omega) HXX.out.2⟩
end Go.Proofs.YtbgeemjnhkinaaaGreatDoor
