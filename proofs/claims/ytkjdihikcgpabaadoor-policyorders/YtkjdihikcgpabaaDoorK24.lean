/-
  Policy: a list turned about; an append in a region that draws.
-/
import Derived.Test.YtkjdihikcgpabaaDoorK23
namespace Go.Proofs.YtkjdihikcgpabaaDoor
open Go.RowKit Go.Sort Go.Lib
set_option maxRecDepth 20000 in
set_option maxHeartbeats 4000000 in
theorem back_any {w : World} (v : Value) (L : List Tx) (hv : TxS w v L) (hL : L.length ≤ 1048576) :
    Calls Tryd.prog 16 #[v] w fun e w' => ∃ r, e = .returned r ∧ VRow 9 w.heap.size w' r (L.reverse.map encStr) ∧ Below w.heap.size w w' := by
  obtain ⟨n, hn⟩ : ∃ n, L.length = n := ⟨_, rfl⟩
  obtain ⟨a, c, rfl, hc⟩ := hv.form
  rw [hn] at hv hL hc ⊢
  have HX : Hid (TxS w (.slice a n c) L ∧ L.length = n) := ⟨hv, hn⟩
  have hwn : IntKind.i64.wrap ((n : Int) - 1) = (n : Int) - 1 := by rw [IntKind.wrap_i64]; omega
  clear hv hn
  go_enter Tryd.func16, Tryd.ntmps16
  go_wp2
  go_loopw [3, 4] (fun ov iv wr => ∃ k : Nat, iv = .int .i64 ((k : Int) - 1) ∧ k ≤ n ∧ VRow 9 w.heap.size wr ov ((L.drop k).reverse.map encStr) ∧ Below w.heap.size w wr) (fun _ iv _ => (intOf iv + 1).toNat)
  case atStart => exact ⟨n, rfl, Nat.le_refl _, by rw [List.drop_of_length_le (Nat.le_of_eq HX.out.2)]; exact VRow.nil _ _ _, Below.refl _ _⟩
  case round =>
    obtain ⟨k, rfl, hk, hR, hB⟩ := hrel
    cases k with
    | zero =>
      have hneg : ¬ (0 : Int) ≤ ((0 : Nat) : Int) - 1 := by omega
      have HB : Hid (VRow 9 w.heap.size wr u3 (L.reverse.map encStr) ∧ Below w.heap.size w wr) := ⟨hR, hB⟩
      clear hR hB
      go_wp2
      go_ret
      exact ⟨u3, rfl, by have h := HB.out.1; simpa using h, HB.out.2⟩
    | succ j =>
      have hjI : ((j + 1 : Nat) : Int) - 1 = (j : Int) := by omega
      have jA : j < L.length := by rw [HX.out.2]; omega
      obtain ⟨b1, o1, rfl, q1, hsl⟩ := (HX.out.1.below hB).at jA
      obtain ⟨x, hx⟩ : ∃ x, L[j] = x := ⟨_, rfl⟩
      rw [hx] at q1
      have hj0 : (0 : Int) ≤ (j : Int) := by omega
      have hjn : j < n := by omega
      have hjnI : (j : Int) < (n : Int) := by omega
      have hwj : IntKind.i64.wrap ((j : Int) - 1) = (j : Int) - 1 := by rw [IntKind.wrap_i64]; omega
      have HT : Hid ((L.drop j).reverse = (L.drop (j + 1)).reverse ++ [x]) := by show _ = _; rw [List.drop_eq_getElem_cons jA, List.reverse_cons, hx]
      have HS : Hid (VRow 9 w.heap.size (wr.alloc (.cells #[encStr x] 9)) u3 ((L.drop (j + 1)).reverse.map encStr) ∧ Below w.heap.size w (wr.alloc (.cells #[encStr x] 9)) ∧ (L.drop (j + 1)).length ≤ 1048576) := ⟨hR.alloc _, hB.alloc hB.size _, by rw [List.length_drop, HX.out.2]; omega⟩
      rw [hjI]
      clear hR hB hx hsl
      go_wp2_with (first
        | (at_builtin; refine wpList_apv rfl (.tmp 12) (.tmp 17) 23 23 rfl (.string ⟨#[]⟩) rfl 9 16 Tryd.undX Tryd.infoX (by decide) w.heap.size u3 ((L.drop (j + 1)).reverse.map encStr) rfl HS.out.1 _ [encStr x] rfl (src_oneP (T := 9) (blk_nwP rfl rfl) rfl) (by have := HS.out.2.2; simp at this ⊢; omega) HS.out.2.1.size ?_; intro v3 w3 hV3 hG3)
        | go_in)
      go_roundw
      case rel => exact ⟨j, by go_num, by omega, by rw [HT.out, List.map_append]; exact hV3, HS.out.2.1.trans (hG3.below HS.out.1 HS.out.2.1.size)⟩
      case measure => simp [intOf]
section
variable {P : Program} {ops : Array Oper} {Q : Exit → Act → World → Prop} {β : Type} {V : β → Nat → Value} {S : β → Array Bool → World → Prop} {i : Nat} {b : β} {L : Array Bool} {a : Act} {W : World}
/-- A value that comes with new memory, told when it comes. -/
theorem rg_newu {o : Oper} (ho : ops[i]? = some o) (hw : Region.wanted o (yielded ops a.tmps) = true) {v : Value} {W' : World} (hr : (execOp a.eval o).run P W = .ok (.value v) W') (b' : β) (hk : ∀ k, k ≠ i → Up L k → V b' k = V b k) (hv : V b' i = v) (hS : S b' (L.setIfInBounds i true) W') : DetOp P ops Q V S i b L a W :=
  rg_op ho hw (by
    unfold Oper.wp
    rw [hr]
    exact ⟨b', hk, by rw [hv]; exact put_dst ho, hS⟩)
end
/-- Texts in a row of their own stay where a row of another type is written. -/
theorem VRow.mgrew {B B2 : Nat} {w w' : World} {v ov : Value} {xs ys : List Value} {m n : Nat} {T U : TypeId} (h : VRow T B w v xs) (hr : MRow m U B2 w ov n ys) (hG : MGrew U w w' ov) (hTU : T ≠ U) : VRow T B w' v xs := by
  rcases hG with hG | ⟨b, n', c', S', rfl, hA', hU⟩
  · exact h.below hG
  · rcases h with h | ⟨b2, S, e, h1, hA, h2⟩
    · exact .inl h
    · refine .inr ⟨b2, S, e, h1, hU.blk hA (fun e2 => ?_), h2⟩
      subst e2
      unfold Blk at hA hA'
      rw [hA] at hA'
      injection hA' with hA'
      injection hA' with _ h5 _
      exact hTU h5
theorem up_me {F : Array Bool} {i : Nat} (h : i < F.size) : Up (F.setIfInBounds i true) i := by unfold Up; simp [Array.getD_eq_getD_getElem?, h]
theorem stepsO_ok : ∀ (l : List Ce) (p q : Po) (k : Nat), PoOk p k → (∀ c ∈ l, CeOk c) → stepsP p l = some q → PoOk q (k + 400 * l.length)
  | [], p, q, k, h, _, e => by
    have : p = q := Option.some.inj e
    subst this
    exact h
  | c :: l, p, q, k, h, hc, e => by
    have e' : (if (stepP p c l.isEmpty).2 = true then stepsP (stepP p c l.isEmpty).1 l else none) = some q := e
    by_cases h2 : (stepP p c l.isEmpty).2 = true
    · rw [if_pos h2] at e'
      have := stepsO_ok l _ q (k + 400) (stepP_ok l.isEmpty h (hc c List.mem_cons_self)) (fun c' hc' => hc c' (List.mem_cons_of_mem _ hc')) e'
      rw [List.length_cons, show k + 400 * (l.length + 1) = k + 400 + 400 * l.length by omega]
      exact this
    · rw [if_neg h2] at e'; cases e'
theorem grantO_len (S U : List Tx) : (grant S U).length ≤ S.length + U.length := by
  unfold grant
  split
  · have := srt_le S; omega
  · have h1 := srt_le (adm S U)
    have h2 := adm_len S U
    omega
theorem runO_len (l : List Ce) (U : List Tx) (ex inh : Bool) (hl : l.length ≤ 30) (hc : ∀ c ∈ l, CeOk c) : (runP l U ex inh).1.length ≤ 20000 + U.length := by
  unfold runP
  cases l.getLast? with
  | none => simp
  | some c =>
    simp only []
    cases hs : stepsP (startP l.length ex inh) l with
    | none => simp
    | some p =>
      have h1 := (stepsO_ok l _ p 1 (startP_ok l.length ex inh) hc hs).1
      have h2 := grantO_len p.S U
      show (if grant p.S U = [] ∧ (if c.r = 0 then (0 : Int) else less p.e) ≤ 0 then (([] : List Tx), false) else (grant p.S U, true)).1.length ≤ _
      by_cases h : grant p.S U = [] ∧ (if c.r = 0 then (0 : Int) else less p.e) ≤ 0
      · rw [if_pos h]; simp
      · rw [if_neg h]
        show (grant p.S U).length ≤ _
        omega
end Go.Proofs.YtkjdihikcgpabaaDoor
/-
  Policy: the law PolicyOrders.
-/
namespace Go.Proofs.YtkjdihikcgpabaaDoor
open Go.RowKit Go.Sort Go.Lib
theorem eg_back (args : Array Value) (w : World) : (callFunc 16 args).run Tryd.prog w = .ok (.enter 16 args) w := enters_of Tryd.func16 (by kernel_rfl) rfl args w
theorem undBs : Tryd.prog.underlying 32 = some (.slice 30) := by kernel_rfl
theorem infoBs : (Tryd.prog.info? 30).map (fun i => (i.zero, i.size, i.bytes)) = some (some (.agg #[.slice none 0 0, .int .i64 0, .int .i64 0, .bool false]), 4, 48) := by kernel_rfl
theorem neXB : (9 : TypeId) ≠ 30 := by decide
theorem frO8 {ops : Array Oper} {V : Nat → Value} {t : Array Value} {d0 d1 d2 d3 d4 d5 d6 : Nat} (hs : ops.size = 8) (h0 : dstOf ops 0 = some d0) (h1 : dstOf ops 1 = some d1) (h2 : dstOf ops 2 = some d2) (h3 : dstOf ops 3 = some d3) (h4 : dstOf ops 4 = some d4) (h5 : dstOf ops 5 = some d5) (h6 : dstOf ops 6 = some d6) (h7 : dstOf ops 7 = none) : frF ops V t ops.size = (((((((t.setIfInBounds d0 (V 0)).setIfInBounds d1 (V 1)).setIfInBounds d2 (V 2)).setIfInBounds d3 (V 3)).setIfInBounds d4 (V 4)).setIfInBounds d5 (V 5)).setIfInBounds d6 (V 6)) := by
  rw [hs]
  simp only [frF, h0, h1, h2, h3, h4, h5, h6, h7]
theorem VRow.updT {B : Nat} {w w' : World} {v : Value} {xs : List Value} {T U : TypeId} (h : VRow T B w v xs) {g : Nat} {cs : List Value} (hA' : Blk U w g cs) (hU : Upd w w' g) (hTU : T ≠ U) : VRow T B w' v xs := by
  rcases h with h | ⟨b2, S, e, h1, hA, h2⟩
  · exact .inl h
  · refine .inr ⟨b2, S, e, h1, hU.blk hA (fun e2 => ?_), h2⟩
    subst e2
    unfold Blk at hA hA'
    rw [hA] at hA'
    injection hA' with hA'
    injection hA' with _ h5 _
    exact hTU h5
theorem VGrew.blkT {w w' : World} {v : Value} {ys : List Value} {T U : TypeId} (h : VGrew T w w' v ys) {g : Nat} {cs : List Value} (hA' : Blk U w g cs) (hTU : T ≠ U) : Blk U w' g cs := by
  rcases h with h | ⟨b, n, S, _, hA, hU, _⟩
  · exact below_blk h hA'.lt hA'
  · refine hU.blk hA' (fun e => ?_)
    subst e
    unfold Blk at hA hA'
    rw [hA] at hA'
    injection hA' with hA'
    injection hA' with _ h5 _
    exact hTU h5
/-- The same, its policies turned about and said twice. -/
def Twice (B : Nat) (w : World) (z z' : Bt) : Prop := z'.P = z.P.reverse ++ z.P ∧ z'.r = z.r ∧ z'.i = z.i ∧ z'.own = z.own ∧ VRow 9 B w z'.v (z'.P.map encStr)
def TwiceAll (B : Nat) (w : World) (Z M : List Bt) : Prop := M.length = Z.length ∧ ∀ (k : Nat) (z z' : Bt), Z[k]? = some z → M[k]? = some z' → Twice B w z z'
theorem TwiceAll.map {B : Nat} {w w' : World} {Z M : List Bt} (h : TwiceAll B w Z M) (f : ∀ v xs, VRow 9 B w v xs → VRow 9 B w' v xs) : TwiceAll B w' Z M :=
  ⟨h.1, fun k z z' (h1 : Z[k]? = some z) (h2 : M[k]? = some z') => by
    obtain ⟨a1, a2, a3, a4, a5⟩ := h.2 k z z' h1 h2
    exact ⟨a1, a2, a3, a4, f _ _ a5⟩⟩
theorem TwiceAll.snoc {B : Nat} {w : World} {Z M : List Bt} {z z' : Bt} (h : TwiceAll B w Z M) (hz : Twice B w z z') : TwiceAll B w (Z ++ [z]) (M ++ [z']) := by
  refine ⟨by simp [h.1], fun k x y (h1 : (Z ++ [z])[k]? = some x) (h2 : (M ++ [z'])[k]? = some y) => ?_⟩
  by_cases hk : k < Z.length
  · rw [List.getElem?_append_left hk] at h1
    rw [List.getElem?_append_left (by rw [h.1]; exact hk)] at h2
    exact h.2 k x y h1 h2
  · have hk2 : k = Z.length := by
      have h3 := (List.getElem?_eq_some_iff.1 h1).1
      simp at h3
      omega
    subst hk2
    rw [List.getElem?_append_right (Nat.le_refl _)] at h1
    rw [List.getElem?_append_right (by rw [h.1]; exact Nat.le_refl _), h.1] at h2
    simp at h1 h2
    subst h1; subst h2
    exact hz
theorem flat4 (M : List Bt) : ∀ {i : Nat} {y : Bt}, M[i]? = some y → ∀ j, j < 4 → (M.flatMap bitC)[i * 4 + j]? = (bitC y)[j]? := by
  induction M with
  | nil => intro i y h; simp at h
  | cons q M ih =>
    intro i y h j hj
    have hl : (bitC q).length = 4 := rfl
    rw [List.flatMap_cons]
    cases i with
    | zero =>
      simp at h
      subst h
      rw [List.getElem?_append_left (by omega)]
      simp
    | succ i =>
      rw [List.getElem?_append_right (by omega), hl, show (i + 1) * 4 + j - 4 = i * 4 + j by omega]
      exact ih (by simpa using h) j hj
theorem MRow.bits {B : Nat} {w : World} {v : Value} {M : List Bt} (h : MRow 4 30 B w v M.length (M.flatMap bitC)) (hM : ∀ z ∈ M, TxS w z.v z.P ∧ (Lit.int .i64 z.r).wf = true ∧ (Lit.int .i64 z.i).wf = true) : BitS w v M := by
  obtain ⟨_, h⟩ := h
  refine ⟨?_, hM⟩
  rcases h with ⟨rfl, h0⟩ | ⟨b, S, c, rfl, _, hA, hS, hc, ht, _⟩
  · have : M = [] := List.eq_nil_of_length_eq_zero h0
    subst this
    exact ⟨none, 0, rfl, Nat.le_refl _, .inl rfl⟩
  · refine ⟨_, c, rfl, hc, .inr ⟨b, 0, rfl, hA.lt, fun i y hy j u hj => ?_⟩⟩
    have hi : i < M.length := (List.getElem?_eq_some_iff.1 hy).1
    have hj4 : j < 4 := (List.getElem?_eq_some_iff.1 hj).1
    rw [Nat.zero_add, hA.cell]
    have h1 := flat4 M hy j hj4
    rw [← ht, List.getElem?_take, if_pos (by omega)] at h1
    rw [h1, hj]
theorem src_o {P : Program} {tx e' T : TypeId} (hk : P.underlying tx = some (.slice e')) {w : World} {b : Nat} (m : Nat) {vs : List Value} (h : Blk T w b vs) (hl : vs.length = 1 * m) (ho : ∀ u ∈ vs, u.oneCell' = true) : Src P m tx (.slice (some ⟨b, 0, none⟩) 1 1) 1 vs w := by
  refine Src.ofSlice w hk _ _ _ _ hl (fun j u hj => ?_) ho
  have hadd : (⟨b, 0, none⟩ : Addr).add j = ⟨b, j, none⟩ := by simp [Addr.add] <;> omega
  rw [hadd, h.cell j, hj]
theorem one4 (a b : Int) (d : Bool) (s : Option Addr) (n k : Nat) : ∀ u ∈ [Value.slice s n k, .int .i64 a, .int .i64 b, .bool d], u.oneCell' = true := List.all_eq_true.1 rfl
theorem twice_ok {B : Nat} {w0 w : World} {v : Value} {Z M : List Bt} (hX : BitS w0 v Z) (hl : Z.length ≤ 30) (hs : ∀ z ∈ Z, z.P.length ≤ 200) (hT : TwiceAll B w Z M) : BtsOk w M := by
  refine ⟨by rw [hT.1]; exact hl, fun z' hz' => ?_⟩
  obtain ⟨k, hk, rfl⟩ := List.getElem_of_mem hz'
  have hkZ : k < Z.length := by rw [← hT.1]; exact hk
  obtain ⟨a1, a2, a3, a4, a5⟩ := hT.2 k Z[k] M[k] (List.getElem?_eq_getElem hkZ) (List.getElem?_eq_getElem hk)
  have hm : Z[k] ∈ Z := List.getElem_mem hkZ
  obtain ⟨x1, x2, x3⟩ := hX.2 _ hm
  refine ⟨a5.tx (fun s h => ?_), ?_, by rw [a2]; exact x2, by rw [a3]; exact x3⟩
  · rw [a1] at h
    rcases List.mem_append.1 h with h | h
    · exact x1.2 s (List.mem_reverse.1 h)
    · exact x1.2 s h
  · rw [a1]
    have := hs _ hm
    simp
    omega
theorem twice_run {B : Nat} {w : World} {Z M : List Bt} (hT : TwiceAll B w Z M) (U : List Tx) (ex inh : Bool) : runP (M.map ceOf) (U.reverse ++ U) ex inh = runP (Z.map ceOf) U ex inh := by
  refine (run_ext _ _ ex inh (by simp [hT.1]) (fun i c d hc hd => ?_) (fun x => by simp)).symm
  rw [List.getElem?_map] at hc hd
  cases hz : Z[i]? with
  | none => rw [hz] at hc; cases hc
  | some z =>
    cases hm : M[i]? with
    | none => rw [hm] at hd; cases hd
    | some z' =>
      rw [hz] at hc; rw [hm] at hd
      obtain rfl := Option.some.inj hc
      obtain rfl := Option.some.inj hd
      obtain ⟨a1, a2, a3, a4, _⟩ := hT.2 i z z' hz hm
      exact ⟨fun x => by show x ∈ z.P ↔ x ∈ z'.P; rw [a1]; simp, a2.symm, a3.symm, a4.symm⟩
section
variable {P : Program} {ops : Array Oper} {Q : Exit → Act → World → Prop} {β : Type} {V : β → Nat → Value} {S : β → Array Bool → World → Prop} {i : Nat} {b : β} {L : Array Bool} {a : Act} {W : World}
theorem rg_apv {o : Oper} (ho : ops[i]? = some o) (hw : Region.wanted o (yielded ops a.tmps) = true) (s x : Operand) (t tx : TypeId)
    (hop : o.op = .call { callee := .builtin .append, args := #[s, x], argTypes := #[t, tx] }) (z : Value) (hzc : Value.cells z = #[z]) (e : TypeId) (bytes : Nat) (ht : P.underlying t = some (.slice e))
    (hi : (P.info? e).map (fun i => (i.zero, i.size, i.bytes)) = some (some z, 1, bytes)) (hby : 0 < bytes)
    (B : Nat) (v : Value) (xs : List Value) (hs : a.eval s = v) (hr : VRow e B W v xs) (u : Value) (ys : List Value) (hx : a.eval x = u) (hy : Src P 1 tx u ys.length ys W)
    (hb : (xs.length + ys.length) * bytes ≤ 140737488355328) (hB : B ≤ W.heap.size)
    (h : ∀ v' w', VRow e B w' v' (xs ++ ys) → VGrew e W w' v ys → ∃ b', (∀ k, k ≠ i → Up L k → V b' k = V b k) ∧ V b' i = v' ∧ S b' (L.setIfInBounds i true) w') : DetOp P ops Q V S i b L a W := by
  obtain ⟨i0, hi0, hz0, hz1, hz2⟩ := info_parts hi
  obtain ⟨v', w', hrun, h2, h3⟩ := run_apv (P := P) W t tx o.type e i0 z hzc ht hi0 hz0 hz1 (by omega) hr hy (by rw [hz2]; exact hb) hB
  obtain ⟨b', hV, hv, hS⟩ := h v' w' h2 h3
  refine rg_newu ho hw (v := v') (W' := w') ?_ b' hV hv hS
  unfold execOp
  simp only [hop, resolve, invoke, builtin, Sem.run_bind, Sem.run_pure, Result.andThen_ok, List.map_toArray, List.map_cons, List.map_nil, hs, hx, hrun]
end
set_option maxRecDepth 20000 in
set_option maxHeartbeats 4000000 in
theorem PolicyOrders_any {w : World} (v : Value) (Z : List Bt) (u : Value) (U : List Tx) (ex inh : Bool) (hv : BitS w v Z) (hu : TxS w u U) (hT : TabK w) :
    Calls Tryd.prog 5 #[v, u, .bool ex, .bool inh] w fun e w' => e = .returned (.bool true) ∧ Below w.heap.size w w' := by
  have HL : Hid (∀ w1 : World, Calls Tryd.prog 10 #[] w1 fun e w' => e = .returned (.bool true) ∧ Below w1.heap.size w1 w') := fun w1 => live_any
  obtain ⟨g, hg⟩ : ∃ g, hugeB Z U = g := ⟨_, rfl⟩
  have hG := huge_any v u Z U hv hu
  rw [hg] at hG
  have HG : Hid (Calls Tryd.prog 11 #[v, u] w fun e w' => e = .returned (.bool g) ∧ Below w.heap.size w w') := hG
  cases g with
  | true =>
    clear hG hg hv hu hT
    go_enter Tryd.func5, Tryd.ntmps5
    go_wp2_with (first
      | (go_at_call 11; refine HG.out.mono ?_; rintro e w0 ⟨rfl, hb0⟩)
      | (go_at_call 10; refine (HL.out _).mono ?_; rintro e wl ⟨rfl, hbl⟩)
      | go_in)
    go_ret
    exact ⟨rfl, below_via hb0 hbl (Nat.le_refl _)⟩
  | false =>
    have hsm : Z.length ≤ 30 ∧ U.length ≤ 200 ∧ ∀ z ∈ Z, z.P.length ≤ 200 := by
      unfold hugeB at hg
      simp at hg
      exact ⟨by omega, by omega, fun z hz => by have := hg.2 z hz; omega⟩
    obtain ⟨n, hn⟩ : ∃ n, Z.length = n := ⟨_, rfl⟩
    obtain ⟨va, vc, rfl, hvc⟩ := hv.form
    obtain ⟨O, hO⟩ : ∃ O, runP (Z.map ceOf) U ex inh = O := ⟨_, rfl⟩
    rw [hn] at hv HG hG hvc ⊢
    have HX : Hid (BitS w (.slice va n vc) Z ∧ Z.length = n ∧ TxS w u U ∧ (Z.length ≤ 30 ∧ U.length ≤ 200 ∧ ∀ z ∈ Z, z.P.length ≤ 200) ∧ TabK w ∧ runP (Z.map ceOf) U ex inh = O) := ⟨hv, hn, hu, hsm, hT, hO⟩
    have hn30 : n ≤ 30 := by have := hsm.1; omega
    clear hv hn hu hsm hT hO hG hg
    go_enter Tryd.func5, Tryd.ntmps5
    go_wp2_with (first
      | (go_at_call 11; refine HG.out.mono ?_; rintro e w0 ⟨rfl, hb0⟩)
      | go_in)
    go_loopw [9, 10] (fun ov iv wr => ∃ (i : Nat) (M : List Bt), iv = .int .i64 (i : Int) ∧ i ≤ n ∧ MRow 4 30 w.heap.size wr ov i (M.flatMap bitC) ∧ TwiceAll w.heap.size wr (Z.take i) M ∧ Below w.heap.size w wr) (fun _ iv _ => n - (intOf iv).toNat)
    case atStart => exact ⟨0, [], rfl, Nat.zero_le _, MRow.nil _ _ _ _, ⟨by simp, fun k z y h => by simp at h⟩, hb0⟩
    case round =>
      obtain ⟨i, M, rfl, hi, hM, hR, hbl⟩ := hrel
      by_cases hlt : i < n
      · have hltI : (i : Int) < (n : Int) := by omega
        have hiZ : i < Z.length := by rw [HX.out.2.1]; exact hlt
        obtain ⟨z, hz⟩ : ∃ z, Z[i]? = some z := ⟨_, List.getElem?_eq_getElem hiZ⟩
        obtain ⟨b, off, rfl, q0⟩ := (HX.out.1.below hbl).at hz
        have hzm := (HX.out.1.below hbl).2 z (List.mem_of_getElem? hz)
        obtain ⟨zP, zr, zi, zo, zv⟩ := z
        obtain ⟨ca, cc, hzv, _⟩ := hzm.1.form
        simp only [] at hzv
        obtain ⟨l, hl⟩ : ∃ l, zP.length = l := ⟨_, rfl⟩
        rw [hl] at hzv
        subst hzv
        have c0 : wr.cell? ⟨b, off + i * 4, none⟩ = some (.slice ca l cc) := q0 0 _ rfl
        have c1 : wr.cell? ⟨b, off + i * 4 + 1, none⟩ = some (.int .i64 zr) := q0 1 _ rfl
        have c2 : wr.cell? ⟨b, off + i * 4 + 2, none⟩ = some (.int .i64 zi) := q0 2 _ rfl
        have c3 : wr.cell? ⟨b, off + i * 4 + 3, none⟩ = some (.bool zo) := q0 3 _ rfl
        have hP2 : zP.length ≤ 200 := HX.out.2.2.2.1.2.2 _ (List.mem_of_getElem? hz)
        have HT : Hid (Z.take (i + 1) = Z.take i ++ [⟨zP, zr, zi, zo, .slice ca l cc⟩]) := by show _ = _; rw [List.take_succ_eq_append_getElem hiZ, (List.getElem?_eq_some_iff.1 hz).2]
        have HS : Hid (MRow 4 30 w.heap.size wr u9 i (M.flatMap bitC) ∧ TwiceAll w.heap.size wr (Z.take i) M ∧ Below w.heap.size w wr ∧ TxS wr (.slice ca l cc) zP ∧ zP.length = l ∧ l ≤ 200) := ⟨hM, hR, hbl, hzm.1, hl, by omega⟩
        clear hM hR hbl q0 hzm hz hl hP2
        go_upto_region 8 with (fail)
        obtain ⟨W0, hW0⟩ : ∃ W0 : World, wr.alloc (.cells #[.slice ca l cc, .int .i64 zr, .int .i64 zi, .bool zo] 30) = W0 := ⟨_, rfl⟩
        have HW : Hid (Below wr.heap.size wr W0 ∧ Blk 30 W0 wr.heap.size [.slice ca l cc, .int .i64 zr, .int .i64 zi, .bool zo]) := by
          rw [← hW0]
          exact ⟨(Below.refl _ _).alloc (Nat.le_refl _) _, Blk.new 30 wr [.slice ca l cc, .int .i64 zr, .int .i64 zi, .bool zo]⟩
        have HBk : Hid (∀ W : World, Below wr.heap.size wr W → TxS W (.slice ca l cc) zP ∧ Calls Tryd.prog 16 #[.slice ca l cc] W fun e w' => ∃ r, e = .returned r ∧ VRow 9 W.heap.size w' r (zP.reverse.map encStr) ∧ Below W.heap.size W w') := fun W h => ⟨HS.out.2.2.2.1.below h, back_any _ zP (HS.out.2.2.2.1.below h) (by have := HS.out.2.2.2.2; omega)⟩
        rw [hW0]
        clear c0 c1 c2 c3 hW0
        refine wp_region_cl (β := Value × Value) (fun bv kk => ([.pointer (some ⟨wr.heap.size, 0, none⟩), .slice ca l cc, bv.1, .pointer (some ⟨wr.heap.size, 0, none⟩), .slice ca l cc, bv.2, .pointer (some ⟨wr.heap.size, 0, none⟩), undef] : List Value).getD kk undef) (fun bv LB W => Below wr.heap.size wr W ∧ (¬ Up LB 7 → Blk 30 W wr.heap.size [.slice ca l cc, .int .i64 zr, .int .i64 zi, .bool zo]) ∧ (Up LB 7 → Blk 30 W wr.heap.size [bv.2, .int .i64 zr, .int .i64 zi, .bool zo]) ∧ (Up LB 2 → ¬ Up LB 5 → VRow 9 wr.heap.size W bv.1 (zP.reverse.map encStr)) ∧ (Up LB 5 → VRow 9 wr.heap.size W bv.2 ((zP.reverse ++ zP).map encStr))) (undef, undef) rfl (by decide +kernel) (show dstB _ 73 = true by decide +kernel) ⟨HW.out.1.drew, fun _ => HW.out.2.drewN 1, fun u => absurd u not_up_new, fun u => absurd u not_up_new, fun u => absurd u not_up_new⟩ (fun bv LB W hup hS => ?_) (fun k9 bv LB W a hk hno hsz hdep hv h0 hcl hS => ?_)
        rotate_left
        · replace hk : k9 < 8 := hk
          have x11 : a.eval (.tmp 11) = .pointer (some ⟨wr.heap.size, 0, none⟩) := (h0 11 (by decide +kernel)).trans rfl
          have eU : ∀ j q, q ≠ j → Up (LB.setIfInBounds j true) q → Up LB q := fun j q hq u => by unfold Up at u ⊢; rwa [getD_setB hq] at u
          have eN : ∀ j q, q ≠ j → ¬ Up (LB.setIfInBounds j true) q → ¬ Up LB q := fun j q hq u => by unfold Up at u ⊢; rwa [getD_setB hq] at u
          have st : ∀ j : Nat, j ≠ 2 → j ≠ 5 → j ≠ 7 → Below wr.heap.size wr W ∧ (¬ Up (LB.setIfInBounds j true) 7 → Blk 30 W wr.heap.size [.slice ca l cc, .int .i64 zr, .int .i64 zi, .bool zo]) ∧ (Up (LB.setIfInBounds j true) 7 → Blk 30 W wr.heap.size [bv.2, .int .i64 zr, .int .i64 zi, .bool zo]) ∧ (Up (LB.setIfInBounds j true) 2 → ¬ Up (LB.setIfInBounds j true) 5 → VRow 9 wr.heap.size W bv.1 (zP.reverse.map encStr)) ∧ (Up (LB.setIfInBounds j true) 5 → VRow 9 wr.heap.size W bv.2 ((zP.reverse ++ zP).map encStr)) := fun j n2 n5 n7 => ⟨hS.1, fun u => hS.2.1 (eN j 7 (fun h => n7 h.symm) u), fun u => hS.2.2.1 (eU j 7 (fun h => n7 h.symm) u), fun u u5 => hS.2.2.2.1 (eU j 2 (fun h => n2 h.symm) u) (eN j 5 (fun h => n5 h.symm) u5), fun u => hS.2.2.2.2 (eU j 5 (fun h => n5 h.symm) u)⟩
          obtain rfl | rfl | rfl | rfl | rfl | rfl | rfl | rfl : k9 = 0 ∨ k9 = 1 ∨ k9 = 2 ∨ k9 = 3 ∨ k9 = 4 ∨ k9 = 5 ∨ k9 = 6 ∨ k9 = 7 := by omega
          · exact rg_val rfl (wn_any rfl) (run_fa (v := .pointer (some ⟨wr.heap.size, 0, none⟩)) rfl x11 (by simp [go_sem, Instr.fieldAt])) (st 0 (by decide) (by decide) (by decide))
          · have e30 : a.eval (.tmp 30) = .pointer (some ⟨wr.heap.size, 0, none⟩) := hv 0 _ (show 0 < 8 by decide) (hdep 0 (by decide +kernel)) rfl
            have q0 : W.cell? ⟨wr.heap.size, 0, none⟩ = some (.slice ca l cc) := (hS.2.1 (fun u => hno (hcl 7 u 1 (by decide +kernel)))).cell 0
            exact rg_val rfl (wn_any rfl) (run_ld (v := .slice ca l cc) rfl e30 (by simp [go_sem, Instr.loadAt, q0])) (st 1 (by decide) (by decide) (by decide))
          · have e31 : a.eval (.tmp 31) = .slice ca l cc := hv 1 _ (show 1 < 8 by decide) (hdep 1 (by decide +kernel)) rfl
            have n7 : ¬ Up LB 7 := fun u => hno (hcl 7 u 2 (by decide +kernel))
            refine rg_callu rfl (wn_any rfl) (run_cl1 rfl e31 eg_back) (R := fun v w' => VRow 9 W.heap.size w' v (zP.reverse.map encStr) ∧ Below W.heap.size W w') ((HBk.out W hS.1).2.mono ?_) (fun v => (v, bv.2)) (fun v => rfl) (fun v k2 hk hup => ?_) (fun v w' h => ⟨below_via hS.1 h.2 (Nat.le_refl _), fun _ => below_blk h.2 (hS.2.1 n7).lt (hS.2.1 n7), fun u => absurd (eU 2 7 (by decide) u) n7, fun _ _ => h.1.mono hS.1.size, fun u => absurd (hcl 5 (eU 2 5 (by decide) u) 2 (by decide +kernel)) hno⟩)
            · rintro e w' ⟨r, rfl, h1, h2⟩; exact ⟨_, rfl, h1, h2⟩
            · rcases k2 with _ | _ | _ | _ | _ | _ | _ | _ | k2
              all_goals first | rfl | exact absurd rfl hk
          · exact rg_val rfl (wn_any rfl) (run_fa (v := .pointer (some ⟨wr.heap.size, 0, none⟩)) rfl x11 (by simp [go_sem, Instr.fieldAt])) (st 3 (by decide) (by decide) (by decide))
          · have e33 : a.eval (.tmp 33) = .pointer (some ⟨wr.heap.size, 0, none⟩) := hv 3 _ (show 3 < 8 by decide) (hdep 3 (by decide +kernel)) rfl
            have q0 : W.cell? ⟨wr.heap.size, 0, none⟩ = some (.slice ca l cc) := (hS.2.1 (fun u => hno (hcl 7 u 4 (by decide +kernel)))).cell 0
            exact rg_val rfl (wn_any rfl) (run_ld (v := .slice ca l cc) rfl e33 (by simp [go_sem, Instr.loadAt, q0])) (st 4 (by decide) (by decide) (by decide))
          · have u2 : Up LB 2 := hdep 2 (by decide +kernel)
            have e32 : a.eval (.tmp 32) = bv.1 := hv 2 _ (show 2 < 8 by decide) u2 rfl
            have e34 : a.eval (.tmp 34) = .slice ca l cc := hv 4 _ (show 4 < 8 by decide) (hdep 4 (by decide +kernel)) rfl
            have n7 : ¬ Up LB 7 := fun u => hno (hcl 7 u 5 (by decide +kernel))
            have hR := hS.2.2.2.1 u2 hno
            refine rg_apv rfl (wn_any rfl) (.tmp 32) (.tmp 34) 23 23 rfl (.string ⟨#[]⟩) rfl 9 16 Tryd.undX Tryd.infoX (by decide) wr.heap.size bv.1 (zP.reverse.map encStr) e32 hR (.slice ca l cc) (zP.map encStr) e34 (by have h9 := (HBk.out W hS.1).1.src (t := 23) Tryd.undX; rw [List.length_map]; exact h9) (by have := HS.out.2.2.2.2; simp; omega) hS.1.size (fun v' w' hV hG => ⟨(bv.1, v'), fun k2 hk hup => ?_, rfl, hS.1.trans (hG.below hR hS.1.size), fun _ => hG.blkT (hS.2.1 n7) (by decide), fun u => absurd (eU 5 7 (by decide) u) n7, fun _ u5 => absurd (up_me (hsz _ (by decide))) u5, fun _ => by rw [List.map_append]; exact hV⟩)
            rcases k2 with _ | _ | _ | _ | _ | _ | _ | _ | k2
            all_goals first | rfl | exact absurd rfl hk
          · exact rg_val rfl (wn_any rfl) (run_fa (v := .pointer (some ⟨wr.heap.size, 0, none⟩)) rfl x11 (by simp [go_sem, Instr.fieldAt])) (st 6 (by decide) (by decide) (by decide))
          · have u5 : Up LB 5 := hdep 5 (by decide +kernel)
            have e36 : a.eval (.tmp 36) = .pointer (some ⟨wr.heap.size, 0, none⟩) := hv 6 _ (show 6 < 8 by decide) (hdep 6 (by decide +kernel)) rfl
            have e35 : a.eval (.tmp 35) = bv.2 := hv 5 _ (show 5 < 8 by decide) u5 rfl
            obtain ⟨na, nc, hb2⟩ := (hS.2.2.2.2 u5).ne
            have hA := hS.2.1 hno
            have q : W.cell? ⟨wr.heap.size, 0, none⟩ = some (.slice ca l cc) := hA.cell 0
            have f := hA.frozen 0
            exact rg_st1 (W' := W.setCell ⟨wr.heap.size, 0, none⟩ bv.2) rfl (wn_any rfl) rfl (run_s1 rfl e36 e35 (by rw [hb2]; simp [go_sem, Instr.storeAt, q, f])) ⟨(Upd.set W wr.heap.size 0 bv.2).below hS.1 hS.1.size (Nat.le_refl _), fun u => absurd (up_me (hsz _ (by decide))) u, fun _ => hA.set 0 bv.2, fun _ u => absurd (eN 7 5 (by decide) u) (fun h => h u5), fun _ => (hS.2.2.2.2 u5).updT hA (Upd.set W wr.heap.size 0 bv.2) (by decide)⟩
        rw [frO8 rfl rfl rfl rfl rfl rfl rfl rfl rfl]
        simp only [List.setIfInBounds_toArray, List.set_cons_succ, List.set_cons_zero, List.getD_cons_zero, List.getD_cons_succ]
        obtain ⟨nv, hnv⟩ : ∃ nv, bv.2 = nv := ⟨_, rfl⟩
        have H8 : Hid (Below wr.heap.size wr W ∧ Blk 30 W wr.heap.size [nv, .int .i64 zr, .int .i64 zi, .bool zo] ∧ VRow 9 wr.heap.size W nv ((zP.reverse ++ zP).map encStr)) := by
          rw [← hnv]
          exact ⟨hS.1, hS.2.2.1 (hup 7 (by decide)), hS.2.2.2.2 (hup 5 (by decide))⟩
        rw [hnv]
        clear hS hup hnv
        obtain ⟨na, nc, hne⟩ := H8.out.2.2.ne
        obtain ⟨nn, hnn⟩ : ∃ nn, ((zP.reverse ++ zP).map encStr).length = nn := ⟨_, rfl⟩
        rw [hnn] at hne
        subst hne
        have HM2 : Hid (MRow 4 30 w.heap.size W u9 i (M.flatMap bitC)) := HS.out.1.below H8.out.1
        have HB2 : Hid (Below w.heap.size w W) := below_via HS.out.2.2.1 H8.out.1 (Nat.le_refl _)
        have HS4 : Hid (Src Tryd.prog 4 32 (.slice (some ⟨W.heap.size, 0, none⟩) 1 1) 1 [.slice na nn nc, .int .i64 zr, .int .i64 zi, .bool zo] (W.alloc (.cells #[.slice na nn nc, .int .i64 zr, .int .i64 zi, .bool zo] 30))) := src_o (T := 30) undBs 4 (blk_nwP rfl rfl) rfl (one4 _ _ _ _ _ _)
        have HN4 : Hid ((i + 1) * 48 ≤ 140737488355328) := by show _ ≤ _; omega
        go_wp2_with (first
          | (refine wpList_load_midG rfl 30 (.tmp 11) rfl wr.heap.size 0 rfl [.slice na nn nc, .int .i64 zr, .int .i64 zi, .bool zo] _ H8.out.2.1.whole Tryd.underlying30 rfl szB4 ?_)
          | (at_builtin; refine wpList_apm rfl (.tmp 37) (.tmp 39) 32 32 rfl 4 (.agg #[.slice none 0 0, .int .i64 0, .int .i64 0, .bool false]) rfl 30 48 undBs infoBs (by decide) w.heap.size u9 i (M.flatMap bitC) rfl (HM2.out.alloc _) (.slice (some ⟨W.heap.size, 0, none⟩) 1 1) 1 [.slice na nn nc, .int .i64 zr, .int .i64 zi, .bool zo] rfl HS4.out HN4.out (HB2.out.alloc HB2.out.size _).size ?_; intro v3 w3 hM3 hG3)
          | go_in)
        go_roundw
        case rel =>
          have hB3 := (HB2.out.alloc HB2.out.size (.cells #[.slice na nn nc, .int .i64 zr, .int .i64 zi, .bool zo] 30)).trans (hG3.below (HM2.out.alloc _) (HB2.out.alloc HB2.out.size _).size)
          refine ⟨i + 1, M ++ [⟨zP.reverse ++ zP, zr, zi, zo, .slice na nn nc⟩], by go_num, by omega, by rw [List.flatMap_append, List.flatMap_singleton]; exact hM3, ?_, hB3⟩
          rw [HT.out]
          exact TwiceAll.snoc (HS.out.2.1.map fun v xs h => ((h.below H8.out.1).alloc _).mgrew (HM2.out.alloc _) hG3 neXB) ⟨rfl, rfl, rfl, rfl, ((H8.out.2.2.mono HS.out.2.2.1.size).alloc _).mgrew (HM2.out.alloc _) hG3 neXB⟩
        case measure => simp [intOf]; omega
      · obtain rfl : i = n := by omega
        have hltI : ¬ (i : Int) < (i : Int) := by omega
        rw [List.take_of_length_le (Nat.le_of_eq HX.out.2.1)] at hR
        have hok : BtsOk wr M := twice_ok HX.out.1 HX.out.2.2.2.1.1 HX.out.2.2.2.1.2.2 hR
        have hbm : BitS wr u9 M := MRow.bits (B := w.heap.size) (by rw [hR.1, HX.out.2.1]; exact hM) (fun z hz => ⟨(hok.2 z hz).1, (hok.2 z hz).2.2.1, (hok.2 z hz).2.2.2⟩)
        have hokZ : BtsOk w Z := ⟨HX.out.2.2.2.1.1, fun z hz => ⟨(HX.out.1.2 z hz).1, by have := HX.out.2.2.2.1.2.2 z hz; omega, (HX.out.1.2 z hz).2.1, (HX.out.1.2 z hz).2.2⟩⟩
        have hCe : ∀ c ∈ Z.map ceOf, CeOk c := fun c hc => by
          obtain ⟨z, hz, rfl⟩ := List.mem_map.1 hc
          exact ⟨show z.P.length ≤ 400 by have := HX.out.2.2.2.1.2.2 z hz; omega, wf_in (HX.out.1.2 z hz).2.1, wf_in (HX.out.1.2 z hz).2.2⟩
        have hrunM := twice_run hR U ex inh
        rw [HX.out.2.2.2.2.2] at hrunM
        have hLn := runO_len (Z.map ceOf) U ex inh (by rw [List.length_map]; exact HX.out.2.2.2.1.1) hCe
        rw [HX.out.2.2.2.2.2] at hLn
        have HLn : Hid (O.1.length ≤ 1048576) := by have := HX.out.2.2.2.1.2.1; show _ ≤ _; omega
        have HBl : Hid (Below w.heap.size w wr) := hbl
        have HUu : Hid (TxS wr u U) := HX.out.2.2.1.below hbl
        have HUs : Hid (∀ t ∈ U.reverse ++ U, t.length ≤ maxLen) := fun t ht => by
          rcases List.mem_append.1 ht with h | h
          · exact HX.out.2.2.1.2 t (List.mem_reverse.1 h)
          · exact HX.out.2.2.1.2 t h
        have HCh : Hid (Calls Tryd.prog 18 #[.slice va i vc] wr fun e w' => ∃ r, e = .returned r ∧ CAs w' r Z ∧ Below wr.heap.size wr w') := by
          refine (chain_any _ Z (HX.out.1.below hbl) (by have := HX.out.2.2.2.1.1; omega)).mono ?_
          rintro e w' ⟨r, Y, rfl, h1, h2, h3⟩
          exact ⟨r, rfl, ⟨Y, h1, h2⟩, h3⟩
        have HCm : Hid (∀ W : World, Below wr.heap.size wr W → Calls Tryd.prog 18 #[u9] W fun e w' => ∃ r, e = .returned r ∧ CAs w' r M ∧ Below W.heap.size W w') := fun W h => by
          refine (chain_any _ M (hbm.below h) (by have := hok.1; omega)).mono ?_
          rintro e w' ⟨r, Y, rfl, h1, h2, h3⟩
          exact ⟨r, rfl, ⟨Y, h1, h2⟩, h3⟩
        have HBu : Hid (∀ W : World, Below wr.heap.size wr W → Calls Tryd.prog 16 #[u] W fun e w' => ∃ r, e = .returned r ∧ VRow 9 W.heap.size w' r (U.reverse.map encStr) ∧ Below W.heap.size W w') := fun W h => back_any u U (HUu.out.below h) (by have := HX.out.2.2.2.1.2.1; omega)
        have HR1 : Hid (∀ (W : World) (r : Value), Below wr.heap.size wr W → CAs W r Z → Calls Tryd.prog 17 #[r, u, .bool ex, .bool inh] W fun ev w' => EndOut w' ev O ∧ Below W.heap.size W w') := fun W r h1 h2 => by
          have := Run_many r u Z U ex inh h2 ((hokZ.below hbl).below h1) (HUu.out.below h1) (by have := HX.out.2.2.2.1.2.1; omega) ((HX.out.2.2.2.2.1.below hbl).below h1)
          rwa [HX.out.2.2.2.2.2] at this
        have HR2 : Hid (∀ (W : World) (r u' : Value), Below wr.heap.size wr W → CAs W r M → TxS W u' (U.reverse ++ U) → Calls Tryd.prog 17 #[r, u', .bool ex, .bool inh] W fun ev w' => EndOut w' ev O ∧ Below W.heap.size W w') := fun W r u' h1 h2 h3 => by
          have := Run_many r u' M (U.reverse ++ U) ex inh h2 (hok.below h1) h3 (by have := HX.out.2.2.2.1.2.1; simp; omega) ((HX.out.2.2.2.2.1.below hbl).below h1)
          rwa [hrunM] at this
        clear hM hR hok hbm hokZ hCe hrunM hLn hbl
        obtain ⟨l1, b1⟩ := O
        simp only [] at HLn
        cases b1 with
        | true =>
          go_upto_region 10 with (fail)
          go_upto_region 11 with (first
            | (go_at_call 18; refine HCh.out.mono ?_; rintro e wc ⟨rc, rfl, hcc, hbc⟩)
            | (go_at_call 17; refine (HR1.out wc rc hbc hcc).mono ?_; rintro e w2 ⟨⟨r1, rfl, hrr⟩, hbr⟩)
            | go_in)
          have H1 : Hid (Below wr.heap.size wr w2 ∧ TxS w2 r1 l1) := ⟨hbc.trans (hbr.mono hbc.size), hrr⟩
          clear hcc hbc hrr hbr
          go_upto_region 12 with (first
            | (go_at_call 18; refine (HCm.out w2 H1.out.1).mono ?_; rintro e wc2 ⟨rc2, rfl, hcc2, hbc2⟩; have HC2 : Hid (Below wr.heap.size wr wc2 ∧ CAs wc2 rc2 M ∧ TxS wc2 r1 l1) := ⟨below_via H1.out.1 hbc2 (Nat.le_refl _), hcc2, H1.out.2.below hbc2⟩)
            | (go_at_call 16; refine (HBu.out wc2 HC2.out.1).mono ?_; rintro e wk ⟨rk, rfl, hrk, hbk⟩; have HK : Hid (VRow 9 wc2.heap.size wk rk (U.reverse.map encStr) ∧ Below wc2.heap.size wc2 wk) := ⟨hrk, hbk⟩)
            | (at_builtin; refine wpList_apv rfl (.tmp 54) (.tmp 55) 23 23 rfl (.string ⟨#[]⟩) rfl 9 16 Tryd.undX Tryd.infoX (by decide) wc2.heap.size rk (U.reverse.map encStr) rfl HK.out.1 u (U.map encStr) rfl (by have h9 := ((HUu.out.below HC2.out.1).below HK.out.2).src (t := 23) Tryd.undX; rw [List.length_map]; exact h9) (by have := HX.out.2.2.2.1.2.1; simp; omega) HK.out.2.size ?_; intro v5 w5 hV5 hG5; have HB5 : Hid (Below wc2.heap.size wc2 w5 ∧ VRow 9 wc2.heap.size w5 v5 ((U.reverse ++ U).map encStr)) := ⟨HK.out.2.trans (hG5.below HK.out.1 HK.out.2.size), by rw [List.map_append]; exact hV5⟩)
            | (go_at_call 17; refine (HR2.out w5 rc2 v5 (below_via HC2.out.1 HB5.out.1 (Nat.le_refl _)) (HC2.out.2.1.below HB5.out.1) (HB5.out.2.tx HUs.out)).mono ?_; rintro e w6 ⟨⟨r2, rfl, hrr2⟩, hbr2⟩)
            | go_in)
          have H2 : Hid (Below wr.heap.size wr w6 ∧ TxS w6 r1 l1 ∧ TxS w6 r2 l1) := ⟨below_via (below_via HC2.out.1 HB5.out.1 (Nat.le_refl _)) hbr2 (Nat.le_refl _), (HC2.out.2.2.below HB5.out.1).below hbr2, hrr2⟩
          have HTx : Hid (Calls Tryd.prog 15 #[r1, r2] w6 fun e w' => e = .returned (.bool true) ∧ Below w6.heap.size w6 w') := by
            have := Texts_any r1 r2 l1 l1 H2.out.2.1 H2.out.2.2 HLn.out HLn.out
            rwa [decide_eq_true rfl] at this
          clear H1 HC2 HK HB5 hV5 hG5 hrr2 hbr2 hcc2 hbc2 hrk hbk
          go_wp2_with (first
            | (go_at_call 15; refine HTx.out.mono ?_; rintro e w7 ⟨rfl, hb7⟩)
            | (go_at_call 10; refine (HL.out _).mono ?_; rintro e wl ⟨rfl, hbl⟩)
            | go_in)
          go_ret
          exact ⟨rfl, below_via (below_via HBl.out (below_via H2.out.1 hb7 (Nat.le_refl _)) (Nat.le_refl _)) hbl (Nat.le_refl _)⟩
        | false =>
          go_upto_region 10 with (fail)
          go_upto_region 11 with (first
            | (go_at_call 18; refine HCh.out.mono ?_; rintro e wc ⟨rc, rfl, hcc, hbc⟩)
            | (go_at_call 17; refine (HR1.out wc rc hbc hcc).mono ?_; rintro e w2 ⟨⟨r1, rfl, hrr⟩, hbr⟩)
            | go_in)
          have H1 : Hid (Below wr.heap.size wr w2 ∧ TxS w2 r1 l1) := ⟨hbc.trans (hbr.mono hbc.size), hrr⟩
          clear hcc hbc hrr hbr
          go_upto_region 12 with (first
            | (go_at_call 18; refine (HCm.out w2 H1.out.1).mono ?_; rintro e wc2 ⟨rc2, rfl, hcc2, hbc2⟩; have HC2 : Hid (Below wr.heap.size wr wc2 ∧ CAs wc2 rc2 M ∧ TxS wc2 r1 l1) := ⟨below_via H1.out.1 hbc2 (Nat.le_refl _), hcc2, H1.out.2.below hbc2⟩)
            | (go_at_call 16; refine (HBu.out wc2 HC2.out.1).mono ?_; rintro e wk ⟨rk, rfl, hrk, hbk⟩; have HK : Hid (VRow 9 wc2.heap.size wk rk (U.reverse.map encStr) ∧ Below wc2.heap.size wc2 wk) := ⟨hrk, hbk⟩)
            | (at_builtin; refine wpList_apv rfl (.tmp 54) (.tmp 55) 23 23 rfl (.string ⟨#[]⟩) rfl 9 16 Tryd.undX Tryd.infoX (by decide) wc2.heap.size rk (U.reverse.map encStr) rfl HK.out.1 u (U.map encStr) rfl (by have h9 := ((HUu.out.below HC2.out.1).below HK.out.2).src (t := 23) Tryd.undX; rw [List.length_map]; exact h9) (by have := HX.out.2.2.2.1.2.1; simp; omega) HK.out.2.size ?_; intro v5 w5 hV5 hG5; have HB5 : Hid (Below wc2.heap.size wc2 w5 ∧ VRow 9 wc2.heap.size w5 v5 ((U.reverse ++ U).map encStr)) := ⟨HK.out.2.trans (hG5.below HK.out.1 HK.out.2.size), by rw [List.map_append]; exact hV5⟩)
            | (go_at_call 17; refine (HR2.out w5 rc2 v5 (below_via HC2.out.1 HB5.out.1 (Nat.le_refl _)) (HC2.out.2.1.below HB5.out.1) (HB5.out.2.tx HUs.out)).mono ?_; rintro e w6 ⟨⟨r2, rfl, hrr2⟩, hbr2⟩)
            | go_in)
          have H2 : Hid (Below wr.heap.size wr w6 ∧ TxS w6 r1 l1 ∧ TxS w6 r2 l1) := ⟨below_via (below_via HC2.out.1 HB5.out.1 (Nat.le_refl _)) hbr2 (Nat.le_refl _), (HC2.out.2.2.below HB5.out.1).below hbr2, hrr2⟩
          have HTx : Hid (Calls Tryd.prog 15 #[r1, r2] w6 fun e w' => e = .returned (.bool true) ∧ Below w6.heap.size w6 w') := by
            have := Texts_any r1 r2 l1 l1 H2.out.2.1 H2.out.2.2 HLn.out HLn.out
            rwa [decide_eq_true rfl] at this
          clear H1 HC2 HK HB5 hV5 hG5 hrr2 hbr2 hcc2 hbc2 hrk hbk
          go_wp2_with (first
            | (go_at_call 15; refine HTx.out.mono ?_; rintro e w7 ⟨rfl, hb7⟩)
            | (go_at_call 10; refine (HL.out _).mono ?_; rintro e wl ⟨rfl, hbl⟩)
            | go_in)
          go_ret
          exact ⟨rfl, below_via (below_via HBl.out (below_via H2.out.1 hb7 (Nat.le_refl _)) (Nat.le_refl _)) hbl (Nat.le_refl _)⟩
end Go.Proofs.YtkjdihikcgpabaaDoor
