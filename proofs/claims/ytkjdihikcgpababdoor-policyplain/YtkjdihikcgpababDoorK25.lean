/-
  Policy: the law PolicyOrders.
-/
import Derived.Test.YtkjdihikcgpababDoorK24
namespace Go.Proofs.YtkjdihikcgpababDoor
open Go.RowKit Go.Sort Go.Lib
theorem undBs : Tryd.prog.underlying 24 = some (.slice 26) := by kernel_rfl
theorem infoBs : (Tryd.prog.info? 26).map (fun i => (i.zero, i.size, i.bytes)) = some (some (.agg #[.slice none 0 0, .int .i64 0, .int .i64 0, .bool false]), 4, 48) := by kernel_rfl
theorem neXB : (9 : TypeId) ≠ 26 := by decide
theorem frO8 {ops : Array Oper} {V : Nat → Value} {t : Array Value} {d0 d1 d2 d3 d4 d5 d6 : Nat} (hs : ops.size = 8) (h0 : dstOf ops 0 = some d0) (h1 : dstOf ops 1 = some d1) (h2 : dstOf ops 2 = some d2) (h3 : dstOf ops 3 = some d3) (h4 : dstOf ops 4 = some d4) (h5 : dstOf ops 5 = some d5) (h6 : dstOf ops 6 = some d6) (h7 : dstOf ops 7 = none) : frF ops V t ops.size = (((((((t.setIfInBounds d0 (V 0)).setIfInBounds d1 (V 1)).setIfInBounds d2 (V 2)).setIfInBounds d3 (V 3)).setIfInBounds d4 (V 4)).setIfInBounds d5 (V 5)).setIfInBounds d6 (V 6)) := by
  rw [hs]
  simp only [frF, h0, h1, h2, h3, h4, h5, h6, h7]
theorem VRow.updT {B : Nat} {w w' : World} {v : Value} {xs : List Value} {T U : TypeId} (h : VRow T B w v xs) {g : Nat} {cs : List Value} (hA' : Blk U w g cs) (hU : Upd w w' g) (hTU : T ≠ U) : VRow T B w' v xs := by
  rcases h with h | ⟨b2, S, e, h1, hA, h2⟩
  · exact .inl h
  · refine .inr ⟨b2, S, e, h1, hU.blk hA (fun e2 => ?_), h2⟩
    subst e2
    unfold Blk at hA hA'
    rw [hA] at hA'
    injection hA' with hA'
    injection hA' with _ h5 _
    exact hTU h5
theorem VGrew.blkT {w w' : World} {v : Value} {ys : List Value} {T U : TypeId} (h : VGrew T w w' v ys) {g : Nat} {cs : List Value} (hA' : Blk U w g cs) (hTU : T ≠ U) : Blk U w' g cs := by
  rcases h with h | ⟨b, n, S, _, hA, hU, _⟩
  · exact below_blk h hA'.lt hA'
  · refine hU.blk hA' (fun e => ?_)
    subst e
    unfold Blk at hA hA'
    rw [hA] at hA'
    injection hA' with hA'
    injection hA' with _ h5 _
    exact hTU h5
/-- The same, its policies turned about and said twice. -/
def Twice (B : Nat) (w : World) (z z' : Bt) : Prop := z'.P = z.P.reverse ++ z.P ∧ z'.r = z.r ∧ z'.i = z.i ∧ z'.own = z.own ∧ VRow 9 B w z'.v (z'.P.map encStr)
def TwiceAll (B : Nat) (w : World) (Z M : List Bt) : Prop := M.length = Z.length ∧ ∀ (k : Nat) (z z' : Bt), Z[k]? = some z → M[k]? = some z' → Twice B w z z'
theorem TwiceAll.map {B : Nat} {w w' : World} {Z M : List Bt} (h : TwiceAll B w Z M) (f : ∀ v xs, VRow 9 B w v xs → VRow 9 B w' v xs) : TwiceAll B w' Z M :=
  ⟨h.1, fun k z z' (h1 : Z[k]? = some z) (h2 : M[k]? = some z') => by
    obtain ⟨a1, a2, a3, a4, a5⟩ := h.2 k z z' h1 h2
    exact ⟨a1, a2, a3, a4, f _ _ a5⟩⟩
theorem TwiceAll.snoc {B : Nat} {w : World} {Z M : List Bt} {z z' : Bt} (h : TwiceAll B w Z M) (hz : Twice B w z z') : TwiceAll B w (Z ++ [z]) (M ++ [z']) := by
  refine ⟨by simp [h.1], fun k x y (h1 : (Z ++ [z])[k]? = some x) (h2 : (M ++ [z'])[k]? = some y) => ?_⟩
  by_cases hk : k < Z.length
  · rw [List.getElem?_append_left hk] at h1
    rw [List.getElem?_append_left (by rw [h.1]; exact hk)] at h2
    exact h.2 k x y h1 h2
  · have hk2 : k = Z.length := by
      have h3 := (List.getElem?_eq_some_iff.1 h1).1
      simp at h3
      omega
    subst hk2
    rw [List.getElem?_append_right (Nat.le_refl _)] at h1
    rw [List.getElem?_append_right (by rw [h.1]; exact Nat.le_refl _), h.1] at h2
    simp at h1 h2
    subst h1; subst h2
    exact hz
theorem flat4 (M : List Bt) : ∀ {i : Nat} {y : Bt}, M[i]? = some y → ∀ j, j < 4 → (M.flatMap bitC)[i * 4 + j]? = (bitC y)[j]? := by
  induction M with
  | nil => intro i y h; simp at h
  | cons q M ih =>
    intro i y h j hj
    have hl : (bitC q).length = 4 := rfl
    rw [List.flatMap_cons]
    cases i with
    | zero =>
      simp at h
      subst h
      rw [List.getElem?_append_left (by omega)]
      simp
    | succ i =>
      rw [List.getElem?_append_right (by omega), hl, show (i + 1) * 4 + j - 4 = i * 4 + j by omega]
      exact ih (by simpa using h) j hj
theorem MRow.bits {B : Nat} {w : World} {v : Value} {M : List Bt} (h : MRow 4 26 B w v M.length (M.flatMap bitC)) (hM : ∀ z ∈ M, TxS w z.v z.P ∧ (Lit.int .i64 z.r).wf = true ∧ (Lit.int .i64 z.i).wf = true) : BitS w v M := by
  obtain ⟨_, h⟩ := h
  refine ⟨?_, hM⟩
  rcases h with ⟨rfl, h0⟩ | ⟨b, S, c, rfl, _, hA, hS, hc, ht, _⟩
  · have : M = [] := List.eq_nil_of_length_eq_zero h0
    subst this
    exact ⟨none, 0, rfl, Nat.le_refl _, .inl rfl⟩
  · refine ⟨_, c, rfl, hc, .inr ⟨b, 0, rfl, hA.lt, fun i y hy j u hj => ?_⟩⟩
    have hi : i < M.length := (List.getElem?_eq_some_iff.1 hy).1
    have hj4 : j < 4 := (List.getElem?_eq_some_iff.1 hj).1
    rw [Nat.zero_add, hA.cell]
    have h1 := flat4 M hy j hj4
    rw [← ht, List.getElem?_take, if_pos (by omega)] at h1
    rw [h1, hj]
theorem src_o {P : Program} {tx e' T : TypeId} (hk : P.underlying tx = some (.slice e')) {w : World} {b : Nat} (m : Nat) {vs : List Value} (h : Blk T w b vs) (hl : vs.length = 1 * m) (ho : ∀ u ∈ vs, u.oneCell' = true) : Src P m tx (.slice (some ⟨b, 0, none⟩) 1 1) 1 vs w := by
  refine Src.ofSlice w hk _ _ _ _ hl (fun j u hj => ?_) ho
  have hadd : (⟨b, 0, none⟩ : Addr).add j = ⟨b, j, none⟩ := by simp [Addr.add] <;> omega
  rw [hadd, h.cell j, hj]
theorem one4 (a b : Int) (d : Bool) (s : Option Addr) (n k : Nat) : ∀ u ∈ [Value.slice s n k, .int .i64 a, .int .i64 b, .bool d], u.oneCell' = true := List.all_eq_true.1 rfl
theorem twice_ok {B : Nat} {w0 w : World} {v : Value} {Z M : List Bt} (hX : BitS w0 v Z) (hl : Z.length ≤ 30) (hs : ∀ z ∈ Z, z.P.length ≤ 200) (hT : TwiceAll B w Z M) : BtsOk w M := by
  refine ⟨by rw [hT.1]; exact hl, fun z' hz' => ?_⟩
  obtain ⟨k, hk, rfl⟩ := List.getElem_of_mem hz'
  have hkZ : k < Z.length := by rw [← hT.1]; exact hk
  obtain ⟨a1, a2, a3, a4, a5⟩ := hT.2 k Z[k] M[k] (List.getElem?_eq_getElem hkZ) (List.getElem?_eq_getElem hk)
  have hm : Z[k] ∈ Z := List.getElem_mem hkZ
  obtain ⟨x1, x2, x3⟩ := hX.2 _ hm
  refine ⟨a5.tx (fun s h => ?_), ?_, by rw [a2]; exact x2, by rw [a3]; exact x3⟩
  · rw [a1] at h
    rcases List.mem_append.1 h with h | h
    · exact x1.2 s (List.mem_reverse.1 h)
    · exact x1.2 s h
  · rw [a1]
    have := hs _ hm
    simp
    omega
theorem twice_run {B : Nat} {w : World} {Z M : List Bt} (hT : TwiceAll B w Z M) (U : List Tx) (ex inh : Bool) : runP (M.map ceOf) (U.reverse ++ U) ex inh = runP (Z.map ceOf) U ex inh := by
  refine (run_ext _ _ ex inh (by simp [hT.1]) (fun i c d hc hd => ?_) (fun x => by simp)).symm
  rw [List.getElem?_map] at hc hd
  cases hz : Z[i]? with
  | none => rw [hz] at hc; cases hc
  | some z =>
    cases hm : M[i]? with
    | none => rw [hm] at hd; cases hd
    | some z' =>
      rw [hz] at hc; rw [hm] at hd
      obtain rfl := Option.some.inj hc
      obtain rfl := Option.some.inj hd
      obtain ⟨a1, a2, a3, a4, _⟩ := hT.2 i z z' hz hm
      exact ⟨fun x => by show x ∈ z.P ↔ x ∈ z'.P; rw [a1]; simp, a2.symm, a3.symm, a4.symm⟩
section
variable {P : Program} {ops : Array Oper} {Q : Exit → Act → World → Prop} {β : Type} {V : β → Nat → Value} {S : β → Array Bool → World → Prop} {i : Nat} {b : β} {L : Array Bool} {a : Act} {W : World}
theorem rg_apv {o : Oper} (ho : ops[i]? = some o) (hw : Region.wanted o (yielded ops a.tmps) = true) (s x : Operand) (t tx : TypeId)
    (hop : o.op = .call { callee := .builtin .append, args := #[s, x], argTypes := #[t, tx] }) (z : Value) (hzc : Value.cells z = #[z]) (e : TypeId) (bytes : Nat) (ht : P.underlying t = some (.slice e))
    (hi : (P.info? e).map (fun i => (i.zero, i.size, i.bytes)) = some (some z, 1, bytes)) (hby : 0 < bytes)
    (B : Nat) (v : Value) (xs : List Value) (hs : a.eval s = v) (hr : VRow e B W v xs) (u : Value) (ys : List Value) (hx : a.eval x = u) (hy : Src P 1 tx u ys.length ys W)
    (hb : (xs.length + ys.length) * bytes ≤ 140737488355328) (hB : B ≤ W.heap.size)
    (h : ∀ v' w', VRow e B w' v' (xs ++ ys) → VGrew e W w' v ys → ∃ b', (∀ k, k ≠ i → Up L k → V b' k = V b k) ∧ V b' i = v' ∧ S b' (L.setIfInBounds i true) w') : DetOp P ops Q V S i b L a W := by
  obtain ⟨i0, hi0, hz0, hz1, hz2⟩ := info_parts hi
  obtain ⟨v', w', hrun, h2, h3⟩ := run_apv (P := P) W t tx o.type e i0 z hzc ht hi0 hz0 hz1 (by omega) hr hy (by rw [hz2]; exact hb) hB
  obtain ⟨b', hV, hv, hS⟩ := h v' w' h2 h3
  refine rg_newu ho hw (v := v') (W' := w') ?_ b' hV hv hS
  unfold execOp
  simp only [hop, resolve, invoke, builtin, Sem.run_bind, Sem.run_pure, Result.andThen_ok, List.map_toArray, List.map_cons, List.map_nil, hs, hx, hrun]
end
end Go.Proofs.YtkjdihikcgpababDoor
/-
  Policy: the law PolicyPlain.
-/
namespace Go.Proofs.YtkjdihikcgpababDoor
open Go.RowKit Go.Sort Go.Lib
theorem bldA (W : World) : (Instr.build 26 #[(1, .int .i64 (-1)), (2, .int .i64 (-1))]).run Tryd.prog W = .ok (.agg #[.slice none 0 0, .int .i64 (-1), .int .i64 (-1), .bool false]) W := by kernel_rfl
theorem bldB (W : World) (b : Nat) : (Instr.build 26 #[(0, .slice (some ⟨b, 0, none⟩) 1 1), (1, .int .i64 (-1)), (2, .int .i64 (-1))]).run Tryd.prog W = .ok (.agg #[.slice (some ⟨b, 0, none⟩) 1 1, .int .i64 (-1), .int .i64 (-1), .bool false]) W := by kernel_rfl
def noBt : Bt := { P := [], r := -1, i := -1, own := false, v := .slice none 0 0 }
def AnyBt (B : Nat) (w : World) (z : Bt) : Prop := z.P = [anyP] ∧ z.r = -1 ∧ z.i = -1 ∧ z.own = false ∧ VRow 9 B w z.v [encStr anyP]
theorem ce_no (k : Nat) : (List.replicate k noBt).map ceOf = List.replicate k noCe := by rw [List.map_replicate]; rfl
theorem ce_any {B : Nat} {w : World} {M : List Bt} {k : Nat} (hl : M.length = k) (h : ∀ z ∈ M, AnyBt B w z) : M.map ceOf = List.replicate k anyCe := by
  rw [List.eq_replicate_iff]
  refine ⟨by rw [List.length_map, hl], fun c hc => ?_⟩
  obtain ⟨z, hz, rfl⟩ := List.mem_map.1 hc
  obtain ⟨h1, h2, h3, h4, _⟩ := h z hz
  unfold ceOf anyCe
  rw [h1, h2, h3, h4]
theorem any_le : ∀ s ∈ [anyP], s.length ≤ maxLen := fun s hs => by rw [List.mem_singleton.1 hs]; unfold anyP maxLen; decide
theorem ok_no {w : World} {k : Nat} (hk : k ≤ 30) : BtsOk w (List.replicate k noBt) := ⟨by rw [List.length_replicate]; exact hk, fun z hz => by
  rw [(List.mem_replicate.1 hz).2]
  exact ⟨TxS.nil _, by show 0 ≤ 400; omega, by decide, by decide⟩⟩
theorem ok_any {B : Nat} {w : World} {M : List Bt} (hl : M.length ≤ 30) (h : ∀ z ∈ M, AnyBt B w z) : BtsOk w M := ⟨hl, fun z hz => by
  obtain ⟨h1, h2, h3, h4, h5⟩ := h z hz
  refine ⟨VRow.tx (L := z.P) (by rw [h1]; exact h5) (by rw [h1]; exact any_le), by rw [h1]; show 1 ≤ 400; omega, by rw [h2]; decide, by rw [h3]; decide⟩⟩
theorem AnyBt.map {B : Nat} {w w' : World} {M : List Bt} (h : ∀ z ∈ M, AnyBt B w z) (f : ∀ v xs, VRow 9 B w v xs → VRow 9 B w' v xs) : ∀ z ∈ M, AnyBt B w' z := fun z hz => by
  obtain ⟨h1, h2, h3, h4, h5⟩ := h z hz
  exact ⟨h1, h2, h3, h4, f _ _ h5⟩
theorem put_len (l : List Tx) (s : Tx) : (put l s).length ≤ l.length + 1 := by
  unfold put
  split
  · omega
  · rw [List.length_reverse, dwn_len, List.length_reverse]; omega
theorem fput_len (l : List Tx) : ∀ m, (l.foldl put m).length ≤ l.length + m.length := by
  induction l with
  | nil => intro m; simp
  | cons x l ih =>
    intro m
    rw [List.foldl_cons, List.length_cons]
    have h1 := ih (put m x)
    have h2 := put_len m x
    omega
theorem want_len (U : List Tx) (h : U.length ≤ 200) : (wantP U).length ≤ 1048576 := by
  unfold wantP
  split
  · simp
  · have := fput_len U []
    simp at this ⊢
    omega
set_option maxRecDepth 20000 in
set_option maxHeartbeats 4000000 in
theorem PolicyPlain_any {w : World} (a : Int) (u : Value) (U : List Tx) (ha : (Lit.int .u8 a).wf = true) (hu : TxS w u U) (hT : TabK w) :
    Calls Tryd.prog 3 #[.int .u8 a, u] w fun e w' => e = .returned (.bool true) ∧ Below w.heap.size w w' := by
  have HL : Hid (∀ w1 : World, Calls Tryd.prog 4 #[] w1 fun e w' => e = .returned (.bool true) ∧ Below w1.heap.size w1 w') := fun w1 => live_any
  have ha2 : 0 ≤ a ∧ a ≤ 255 := by simp [Lit.wf] at ha; exact ⟨ha.1, ha.2⟩
  obtain ⟨m, rfl⟩ : ∃ m : Nat, a = (m : Int) := ⟨a.toNat, by omega⟩
  obtain ⟨ua, uc, rfl, huc⟩ := hu.form
  obtain ⟨un, hun⟩ : ∃ un, U.length = un := ⟨_, rfl⟩
  obtain ⟨k, hk⟩ : ∃ k, 1 + m % 8 = k := ⟨_, rfl⟩
  have hk8 : 1 ≤ k ∧ k ≤ 8 := by have := Nat.mod_lt m (show 8 > 0 by decide); omega
  have hkk : (1 : Int) + (m : Int) % 8 = (k : Int) := by omega
  rw [hun] at hu ⊢
  have HX : Hid (TxS w (.slice ua un uc) U ∧ U.length = un ∧ TabK w) := ⟨hu, hun, hT⟩
  clear hu hun hT ha huc hk
  by_cases hbig : 200 < un
  · have hbI : (200 : Int) < (un : Int) := by omega
    go_enter Tryd.func3, Tryd.ntmps3
    go_wp2_with (first
      | (go_at_call 4; refine (HL.out _).mono ?_; rintro e wl ⟨rfl, hbl⟩)
      | go_in)
    go_ret
    exact ⟨rfl, hbl⟩
  · have hbI : ¬ (200 : Int) < (un : Int) := by omega
    go_enter Tryd.func3, Tryd.ntmps3
    go_upto_region 2 with (fail)
    clear hkk
    go_wp2
    go_loopw [6, 7, 8] (fun av bv iv wr => ∃ (i : Nat) (M : List Bt), iv = .int .i64 (i : Int) ∧ i ≤ k ∧ MRow 4 26 w.heap.size wr av i ((List.replicate i noBt).flatMap bitC) ∧ MRow 4 26 w.heap.size wr bv i (M.flatMap bitC) ∧ M.length = i ∧ (∀ z ∈ M, AnyBt w.heap.size wr z) ∧ Off av bv ∧ Below w.heap.size w wr) (fun _ _ iv _ => k - (intOf iv).toNat)
    case atStart => exact ⟨0, [], rfl, Nat.zero_le _, MRow.nil _ _ _ _, MRow.nil _ _ _ _, rfl, by simp, (show Off _ _ from fun b h => by simp [blkOf] at h), Below.refl _ _⟩
    case round =>
      obtain ⟨i, M, rfl, hi, hMa, hMb, hl, hA, hO, hbl⟩ := hrel
      by_cases hlt : i < k
      · have hltI : (i : Int) < (k : Int) := by omega
        have hN4 : (i + 1) * 48 ≤ 140737488355328 := by omega
        have HN4 : Hid ((i + 1) * 48 ≤ 140737488355328) := hN4
        have HS : Hid (MRow 4 26 w.heap.size wr u6 i ((List.replicate i noBt).flatMap bitC) ∧ MRow 4 26 w.heap.size wr u7 i (M.flatMap bitC) ∧ M.length = i ∧ (∀ z ∈ M, AnyBt w.heap.size wr z) ∧ Off u6 u7 ∧ Below w.heap.size w wr) := ⟨hMa, hMb, hl, hA, hO, hbl⟩
        have HB1 : Hid (Below w.heap.size w (wr.alloc (.cells #[.slice none 0 0, .int .i64 (-1), .int .i64 (-1), .bool false] 26))) := hbl.alloc hbl.size _
        have HS1 : Hid (Src Tryd.prog 4 24 (.slice (some ⟨wr.heap.size, 0, none⟩) 1 1) 1 [.slice none 0 0, .int .i64 (-1), .int .i64 (-1), .bool false] (wr.alloc (.cells #[.slice none 0 0, .int .i64 (-1), .int .i64 (-1), .bool false] 26))) := src_o (T := 26) undBs 4 (blk_nwP rfl rfl) rfl (one4 _ _ _ _ _ _)
        have HS2 : Hid (∀ w2 : World, Src Tryd.prog 4 24 (.slice (some ⟨w2.heap.size + 1, 0, none⟩) 1 1) 1 [.slice (some ⟨w2.heap.size, 0, none⟩) 1 1, .int .i64 (-1), .int .i64 (-1), .bool false] ((w2.alloc (.cells #[encStr anyP] 9)).alloc (.cells #[.slice (some ⟨w2.heap.size, 0, none⟩) 1 1, .int .i64 (-1), .int .i64 (-1), .bool false] 26))) := fun w2 => src_o (T := 26) undBs 4 (blk_nwP (by simp) rfl) rfl (one4 _ _ _ _ _ _)
        clear hMa hMb hl hA hO hbl
        go_wp2_with (first
          | (refine wpList_new rfl (run_bl rfl (bldA _)) ?_)
          | (refine wpList_new rfl (run_bl rfl (bldB _ _)) ?_)
          | (at_builtin; refine wpList_apmK rfl (.tmp 28) (.tmp 30) 24 24 rfl 4 (.agg #[.slice none 0 0, .int .i64 0, .int .i64 0, .bool false]) rfl 26 48 undBs infoBs (by decide) w.heap.size u6 i ((List.replicate i noBt).flatMap bitC) rfl (HS.out.1.alloc _) (.slice (some ⟨wr.heap.size, 0, none⟩) 1 1) 1 [.slice none 0 0, .int .i64 (-1), .int .i64 (-1), .bool false] rfl HS1.out HN4.out HB1.out.size ?_; intro v2 w2 hM2 hG2 hK2; have H2 : Hid (MRow 4 26 w.heap.size w2 v2 (i + 1) ((List.replicate i noBt).flatMap bitC ++ [.slice none 0 0, .int .i64 (-1), .int .i64 (-1), .bool false]) ∧ MRow 4 26 w.heap.size w2 u7 i (M.flatMap bitC) ∧ (∀ z ∈ M, AnyBt w.heap.size w2 z) ∧ Off v2 u7 ∧ Below w.heap.size w w2) := ⟨hM2, (HS.out.2.1.alloc _).off hG2 HS.out.2.2.2.2.1, AnyBt.map HS.out.2.2.2.1 (fun v xs h => (h.alloc _).mgrew (HS.out.1.alloc _) hG2 neXB), (HS.out.2.2.2.2.1.symm.grow (HS.out.2.1.alloc _) hK2).symm, HB1.out.trans (hG2.below (HS.out.1.alloc _) HB1.out.size)⟩; have HB4 : Hid (Below w.heap.size w ((w2.alloc (.cells #[encStr anyP] 9)).alloc (.cells #[.slice (some ⟨w2.heap.size, 0, none⟩) 1 1, .int .i64 (-1), .int .i64 (-1), .bool false] 26))) := (H2.out.2.2.2.2.alloc H2.out.2.2.2.2.size _).alloc (H2.out.2.2.2.2.alloc H2.out.2.2.2.2.size _).size _)
          | (at_builtin; refine wpList_apmK rfl (.tmp 32) (.tmp 35) 24 24 rfl 4 (.agg #[.slice none 0 0, .int .i64 0, .int .i64 0, .bool false]) rfl 26 48 undBs infoBs (by decide) w.heap.size u7 i (M.flatMap bitC) rfl ((H2.out.2.1.alloc _).alloc _) (.slice (some ⟨w2.heap.size + 1, 0, none⟩) 1 1) 1 [.slice (some ⟨w2.heap.size, 0, none⟩) 1 1, .int .i64 (-1), .int .i64 (-1), .bool false] rfl (HS2.out w2) HN4.out HB4.out.size ?_; intro v5 w5 hM5 hG5 hK5)
          | go_in)
        go_roundw
        case rel =>
          have hB5 := HB4.out.trans (hG5.below ((H2.out.2.1.alloc _).alloc _) HB4.out.size)
          have hV : VRow 9 w.heap.size (w2.alloc (.cells #[encStr anyP] 9)) (.slice (some ⟨w2.heap.size, 0, none⟩) 1 1) [encStr anyP] := .inr ⟨w2.heap.size, [encStr anyP], rfl, H2.out.2.2.2.2.size, Blk.new 9 w2 [encStr anyP], Nat.le_refl _, rfl, by unfold maxLen; decide⟩
          refine ⟨i + 1, M ++ [⟨[anyP], -1, -1, false, .slice (some ⟨w2.heap.size, 0, none⟩) 1 1⟩], by go_num, by omega, ?_, by rw [List.flatMap_append, List.flatMap_singleton]; exact hM5, by rw [List.length_append, HS.out.2.2.1]; rfl, ?_, H2.out.2.2.2.1.grow ((H2.out.1.alloc _).alloc _) hK5, hB5⟩
          · rw [List.replicate_succ', List.flatMap_append, List.flatMap_singleton]
            exact ((H2.out.1.alloc _).alloc _).off hG5 H2.out.2.2.2.1.symm
          · intro z hz
            rcases List.mem_append.1 hz with h | h
            · exact AnyBt.map H2.out.2.2.1 (fun v xs h => ((h.alloc _).alloc _).mgrew ((H2.out.2.1.alloc _).alloc _) hG5 neXB) z h
            · rw [List.mem_singleton.1 h]
              exact ⟨rfl, rfl, rfl, rfl, (hV.alloc _).mgrew ((H2.out.2.1.alloc _).alloc _) hG5 neXB⟩
        case measure => simp [intOf]; omega
      · obtain rfl : i = k := by omega
        have hltI : ¬ (i : Int) < (i : Int) := by omega
        have hokA : BtsOk wr (List.replicate i noBt) := ok_no (by omega)
        have hokB : BtsOk wr M := ok_any (by omega) hA
        have hbA : BitS wr u6 (List.replicate i noBt) := MRow.bits (B := w.heap.size) (by rw [List.length_replicate]; exact hMa) (fun z hz => ⟨(hokA.2 z hz).1, (hokA.2 z hz).2.2.1, (hokA.2 z hz).2.2.2⟩)
        have hbB : BitS wr u7 M := MRow.bits (B := w.heap.size) (by rw [hl]; exact hMb) (fun z hz => ⟨(hokB.2 z hz).1, (hokB.2 z hz).2.2.1, (hokB.2 z hz).2.2.2⟩)
        have hceB := ce_any hl hA
        have HBl : Hid (Below w.heap.size w wr) := hbl
        have HU : Hid (TxS wr (.slice ua un uc) U ∧ U.length = un ∧ un ≤ 200 ∧ TabK wr) := ⟨HX.out.1.below hbl, HX.out.2.1, by omega, HX.out.2.2.below hbl⟩
        have HCa : Hid (Calls Tryd.prog 6 #[u6] wr fun e w' => ∃ r, e = .returned r ∧ CAs w' r (List.replicate i noBt) ∧ Below wr.heap.size wr w') := by
          refine (chain_any _ _ hbA (by rw [List.length_replicate]; omega)).mono ?_
          rintro e w' ⟨r, Y, rfl, h1, h2, h3⟩
          exact ⟨r, rfl, ⟨Y, h1, h2⟩, h3⟩
        have HCb : Hid (∀ W : World, Below wr.heap.size wr W → Calls Tryd.prog 6 #[u7] W fun e w' => ∃ r, e = .returned r ∧ CAs w' r M ∧ Below W.heap.size W w') := fun W h => by
          refine (chain_any _ M (hbB.below h) (by omega)).mono ?_
          rintro e w' ⟨r, Y, rfl, h1, h2, h3⟩
          exact ⟨r, rfl, ⟨Y, h1, h2⟩, h3⟩
        have HR1 : Hid (∀ (W : World) (r : Value), Below wr.heap.size wr W → CAs W r (List.replicate i noBt) → Calls Tryd.prog 5 #[r, .slice none 0 0, .bool false, .bool false] W fun ev w' => (∃ xa xc, ev = .returned (.tuple #[.slice xa 0 xc, .bool true])) ∧ Below W.heap.size W w') := fun W r h1 h2 => by
          have := Run_many r (.slice none 0 0) _ [] false false h2 (hokA.below h1) (TxS.nil _) (by simp) (HU.out.2.2.2.below h1)
          rw [ce_no, plainA i (by omega) (by omega)] at this
          refine this.mono ?_
          rintro e w' ⟨⟨r, rfl, h⟩, hb⟩
          obtain ⟨xa, xc, rfl, _⟩ := h.form
          exact ⟨⟨xa, xc, rfl⟩, hb⟩
        have HR2 : Hid (∀ (W : World) (r : Value), Below wr.heap.size wr W → CAs W r M → Calls Tryd.prog 5 #[r, .slice ua un uc, .bool true, .bool false] W fun ev w' => (∃ y, ev = .returned (.tuple #[y, .bool true]) ∧ TxS w' y (wantP U)) ∧ Below W.heap.size W w') := fun W r h1 h2 => by
          have := Run_many r (.slice ua un uc) M U true false h2 (hokB.below h1) (HU.out.1.below h1) (by have := HU.out; omega) (HU.out.2.2.2.below h1)
          rw [hceB, plainB i (by omega) (by omega)] at this
          exact this
        have HHas : Hid (∀ W : World, Below wr.heap.size wr W → Calls Tryd.prog 7 #[.slice ua un uc, encStr anyP] W fun e w' => e = .returned (.bool (decide (anyP ∈ U))) ∧ Below W.heap.size W w') := fun W h => hasL_any (w := W) _ U anyP (HU.out.1.below h) (by have := HU.out; omega)
        have HWl : Hid ((wantP U).length ≤ 1048576) := want_len U (by have := HU.out; omega)
        clear hMa hMb hl hA hO hbl hokA hokB hbA hbB hceB hltI
        go_upto_region 11 with (first
          | (go_at_call 6; refine HCa.out.mono ?_; rintro e wc ⟨rc, rfl, hcc, hbc⟩)
          | (go_at_call 5; refine (HR1.out wc rc hbc hcc).mono ?_; rintro e w2 ⟨⟨xa, xc, rfl⟩, hbr⟩)
          | go_in)
        have H1 : Hid (Below wr.heap.size wr w2) := hbc.trans (hbr.mono hbc.size)
        clear hcc hbc hbr
        go_upto_region 12 with (first
          | (go_at_call 6; refine (HCb.out w2 H1.out).mono ?_; rintro e wc2 ⟨rc2, rfl, hcc2, hbc2⟩; have HC2 : Hid (Below wr.heap.size wr wc2) := below_via H1.out hbc2 (Nat.le_refl _))
          | (go_at_call 5; refine (HR2.out wc2 rc2 HC2.out hcc2).mono ?_; rintro e w3 ⟨⟨y, rfl, hy⟩, hbr2⟩)
          | go_in)
        have H3 : Hid (Below wr.heap.size wr (w3.alloc (.cells #[encStr anyP] 9)) ∧ TxS (w3.alloc (.cells #[encStr anyP] 9)) y (wantP U) ∧ TxS (w3.alloc (.cells #[encStr anyP] 9)) (.slice (some ⟨w3.heap.size, 0, none⟩) 1 1) [anyP]) := ⟨(below_via HC2.out hbr2 (Nat.le_refl _)).alloc (below_via HC2.out hbr2 (Nat.le_refl _)).size _, hy.below ((Below.refl _ _).alloc (Nat.le_refl _) _), TxS.ofBlk (T := 9) (Blk.new 9 w3 [encStr anyP]) 1 1 rfl (Nat.le_refl _) rfl any_le⟩
        clear H1 HC2 hcc2 hbc2 hbr2 hy HCa HCb HR1 HR2
        by_cases hn : un = 0
        · subst hn
          have hw : wantP U = [anyP] := if_pos (.inl (List.eq_nil_of_length_eq_zero HU.out.2.1))
          have HTx : Hid (Calls Tryd.prog 9 #[y, .slice (some ⟨w3.heap.size, 0, none⟩) 1 1] (w3.alloc (.cells #[encStr anyP] 9)) fun e w' => e = .returned (.bool true) ∧ Below (w3.alloc (.cells #[encStr anyP] 9)).heap.size (w3.alloc (.cells #[encStr anyP] 9)) w') := by
            have := Texts_any y _ (wantP U) [anyP] H3.out.2.1 H3.out.2.2 HWl.out (by simp)
            rwa [decide_eq_true hw] at this
          go_wp2_with (first
            | (go_at_call 9; refine HTx.out.mono ?_; rintro e w7 ⟨rfl, hb7⟩)
            | (go_at_call 4; refine (HL.out _).mono ?_; rintro e wl ⟨rfl, hbl⟩)
            | go_in)
          go_ret
          exact ⟨rfl, below_via (below_via HBl.out (below_via H3.out.1 hb7 (Nat.le_refl _)) (Nat.le_refl _)) hbl (Nat.le_refl _)⟩
        · have hnp : (0 : Int) < (un : Int) := by omega
          have hnN : 0 < un := by omega
          by_cases hm : anyP ∈ U
          · have hw : wantP U = [anyP] := if_pos (.inr hm)
            have hd : decide (anyP ∈ U) = true := decide_eq_true hm
            have HTx : Hid (∀ W : World, Below (w3.alloc (.cells #[encStr anyP] 9)).heap.size (w3.alloc (.cells #[encStr anyP] 9)) W → Calls Tryd.prog 9 #[y, .slice (some ⟨w3.heap.size, 0, none⟩) 1 1] W fun e w' => e = .returned (.bool true) ∧ Below W.heap.size W w') := fun W h => by
              have := Texts_any y _ (wantP U) [anyP] (H3.out.2.1.below h) (H3.out.2.2.below h) HWl.out (by simp)
              rwa [decide_eq_true hw] at this
            clear hm
            go_wp2_with (first
              | (go_at_call 7; refine (HHas.out _ H3.out.1).mono ?_; rintro e wh ⟨rfl, hbh⟩; rw [hd]; have HBh : Hid (Below (w3.alloc (.cells #[encStr anyP] 9)).heap.size (w3.alloc (.cells #[encStr anyP] 9)) wh) := hbh)
              | (go_at_call 9; refine (HTx.out wh HBh.out).mono ?_; rintro e w7 ⟨rfl, hb7⟩)
              | (go_at_call 4; refine (HL.out _).mono ?_; rintro e wl ⟨rfl, hbl⟩)
              | go_in)
            go_ret
            exact ⟨rfl, below_via (below_via HBl.out (below_via (below_via H3.out.1 HBh.out (Nat.le_refl _)) hb7 (Nat.le_refl _)) (Nat.le_refl _)) hbl (Nat.le_refl _)⟩
          · have hw : wantP U = U.foldl put [] := if_neg (fun h => h.elim (fun h => by have := HU.out.2.1; rw [h] at this; simp at this; omega) hm)
            have hd : decide (anyP ∈ U) = false := decide_eq_false hm
            clear hm
            go_wp2_with (first
              | (go_at_call 7; refine (HHas.out _ H3.out.1).mono ?_; rintro e wh ⟨rfl, hbh⟩; rw [hd]; have HBh : Hid (Below wr.heap.size wr wh ∧ TxS wh y (wantP U)) := ⟨below_via H3.out.1 hbh (Nat.le_refl _), H3.out.2.1.below hbh⟩)
              | go_in)
            obtain ⟨ws, hws⟩ : ∃ ws, ws = wr := ⟨_, rfl⟩
            subst hws
            go_loopw [13, 14] (fun mv iv wl => ∃ j : Nat, iv = .int .i64 (j : Int) ∧ j ≤ un ∧ TxS wl mv ((U.take j).foldl put []) ∧ Below ws.heap.size ws wl ∧ TxS wl y (wantP U)) (fun _ iv _ => un - (intOf iv).toNat)
            case atStart => exact ⟨0, rfl, Nat.zero_le _, TxS.nil _, HBh.out.1, HBh.out.2⟩
            case round =>
              obtain ⟨j, rfl, hj, hR, hbq, hyq⟩ := hrel
              by_cases hjt : j < un
              · have hjtI : (j : Int) < (un : Int) := by omega
                have hjU : j < U.length := by rw [HU.out.2.1]; exact hjt
                obtain ⟨b', off, rfl, q0, hsl⟩ := (HU.out.1.below hbq).at hjU
                obtain ⟨x, hx⟩ : ∃ x, U[j] = x := ⟨_, rfl⟩
                rw [hx] at q0 hsl
                have HPt : Hid (Calls Tryd.prog 8 #[u13, encStr x] wr fun e w' => ∃ r, e = .returned r ∧ TxS w' r ((U.take (j + 1)).foldl put []) ∧ Below wr.heap.size wr w') := by
                  have := Put_any (w := wr) u13 ((U.take j).foldl put []) x hR (by have := fput_len (U.take j) []; have := HU.out.2.2.1; simp at *; omega) hsl
                  rw [List.take_succ_eq_append_getElem hjU, List.foldl_append, hx]
                  exact this
                have HQ : Hid (Below ws.heap.size ws wr ∧ TxS wr y (wantP U)) := ⟨hbq, hyq⟩
                clear hR hbq hyq hx hsl
                go_wp2_with (first
                  | (go_at_call 8; refine HPt.out.mono ?_; rintro e w8 ⟨r8, rfl, hr8, hb8⟩)
                  | go_in)
                go_roundw
                case rel => exact ⟨j + 1, by go_num, by omega, hr8, below_via HQ.out.1 hb8 (Nat.le_refl _), HQ.out.2.below hb8⟩
                case measure => simp [intOf]; omega
              · obtain rfl : j = un := by omega
                have hjtI : ¬ (j : Int) < (j : Int) := by omega
                rw [List.take_of_length_le (Nat.le_of_eq HU.out.2.1), ← hw] at hR
                have HQ : Hid (Below ws.heap.size ws wr ∧ TxS wr y (wantP U) ∧ TxS wr u13 (wantP U)) := ⟨hbq, hyq, hR⟩
                have HTx : Hid (Calls Tryd.prog 9 #[y, u13] wr fun e w' => e = .returned (.bool true) ∧ Below wr.heap.size wr w') := by
                  have := Texts_any y u13 (wantP U) (wantP U) HQ.out.2.1 HQ.out.2.2 HWl.out HWl.out
                  rwa [decide_eq_true rfl] at this
                clear hR hbq hyq
                go_wp2_with (first
                  | (go_at_call 9; refine HTx.out.mono ?_; rintro e w7 ⟨rfl, hb7⟩)
                  | (go_at_call 4; refine (HL.out _).mono ?_; rintro e wl ⟨rfl, hbl⟩)
                  | go_in)
                go_ret
                exact ⟨rfl, below_via (below_via HBl.out (below_via HQ.out.1 hb7 (Nat.le_refl _)) (Nat.le_refl _)) hbl (Nat.le_refl _)⟩
end Go.Proofs.YtkjdihikcgpababDoor
