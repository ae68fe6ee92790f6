/-
  Ber: encode, Encode.
-/
import Derived.Test.YtefebamomdcaaaaGreatDoorK20
namespace Go.Proofs.YtefebamomdcaaaaGreatDoor
open Go.RowKit
/-- 'make([]T, 0, n)': room for n in a block of its own. -/
theorem wpList_mk0 {P : Program} (w : World) {ops : Array Oper} {rest : List Oper} {o : Oper} {a : Act} {Q : Exit → Act → World → Prop} (hg : o.guard = none) (l c : Operand) (t : TypeId) (hop : o.op = .makeSlice t l c)
    (k : IntKind) (e : TypeId) (bytes : Nat) (ht : P.underlying t = some (.slice e)) (hi : (P.info? e).map (fun i => (i.zero, i.size, i.bytes)) = some (some (.int k 0), 1, bytes))
    (C : Int) (n : Nat) (hl : a.eval l = .int .i64 0) (hc : a.eval c = .int .i64 C) (hC : C = n) (hb : bytes * n ≤ 281474976710656) (hm : n ≤ 1152921504606846976)
    (hK : ∀ w', Row k e w.heap.size w' (.slice (some ⟨w.heap.size, 0, none⟩) 0 n) [] → Below w.heap.size w w' → wpList P ops Q rest (a.put o.dst (.slice (some ⟨w.heap.size, 0, none⟩) 0 n)) w') :
    wpList P ops Q (o :: rest) a w := by
  obtain ⟨i0, hi0, hz0, hz1, hz2⟩ := info_parts hi
  subst hC
  refine wpList_plain hg fun K hK' => ?_
  have hb' : (i0.bytes : Int) * (n : Int) ≤ 281474976710656 := by
    have h : ((i0.bytes * n : Nat) : Int) ≤ 281474976710656 := by rw [hz2]; omega
    rwa [Int.natCast_mul] at h
  have hr := run_make (P := P) w t e i0 (.int k 0) ht hi0 hz0 .i64 .i64 0 n (Int.le_refl _) (by omega) hb' (by omega)
  simp only [Int.toNat_zero, Int.toNat_natCast, hz1] at hr
  have hA : Arr k e (w.alloc (.cells (madeCells (Value.int k 0).cells (n * 1)) e)) w.heap.size (List.replicate n 0) := arr_nw rfl (by
    have e1 : (madeCells (Value.int k 0).cells (n * 1)).toList = List.replicate n (.int k 0) := by rw [Nat.mul_one]; exact toList_madeCells_one (.int k 0) n
    rw [toArray_of_toList e1]; simp)
  unfold Oper.wp
  simp [execOp, hop, hl, hc, hr, Result.andThen]
  refine hK' _ _ (hK _ (.inr ⟨w.heap.size, List.replicate n 0, by simp, Nat.le_refl _, ?_, by simp, by simp, by simp [maxLen]; omega⟩) (al1 _))
  simpa using hA
/-- An append of numbers leaves blocks of another type. -/
theorem Grew.blk {k : IntKind} {e T : TypeId} {w w' : World} {v : Value} {ys : List Int} {c : Nat} {cs : List Value} (hg : Grew k e w w' v ys) (hB : Blk T w c cs) (hne : T ≠ e) : Blk T w' c cs := by
  rcases hg with hg | ⟨b, n, S, rfl, hA, hU, _⟩
  · exact below_blk hg hB.lt hB
  · refine hU.blk hB (fun e0 => hne ?_)
    subst e0
    have hA' : Blk e w c _ := hA
    unfold Blk at hA' hB
    rw [hA'] at hB
    simp only [Option.some.injEq, Obj.cells.injEq] at hB
    exact hB.2.1.symm
/-- What encode, Encode answer. -/
def EncOut (B : Nat) (w : World) (e : Ending) : Int ⊕ List Int → Prop
  | .inl er => e = .returned (.tuple #[.slice none 0 0, flV er])
  | .inr M => ∃ a n c, e = .returned (.tuple #[.slice a n c, .nilIface]) ∧ Row .u8 5 B w (.slice a n c) M
def EnOut (B : Nat) (w : World) (e : Ending) : Int ⊕ List Int → Prop
  | .inl er => e = .returned (.tuple #[.slice none 0 0, .int .i64 er])
  | .inr M => ∃ a n c, e = .returned (.tuple #[.slice a n c, .int .i64 0]) ∧ Row .u8 5 B w (.slice a n c) M
theorem bytesOf_snoc (Z : List Nv) {i : Nat} {z : Nv} (h : Z[i]? = some z) : bytesOf ((Z.take (i + 1)).map (·.nd)) = bytesOf ((Z.take i).map (·.nd)) ++ z.nd.2 ++ z.nd.1.d := by
  have hi : i < Z.length := by
    rcases Nat.lt_or_ge i Z.length with h' | h'
    · exact h'
    · rw [List.getElem?_eq_none h'] at h; cases h
  rw [List.getElem?_eq_getElem hi] at h
  rw [List.take_succ_eq_append_getElem hi, List.map_append, Option.some.inj h]
  unfold bytesOf
  rw [List.flatMap_append]
  simp
theorem byt_take (Z : List Nv) (i : Nat) : byt ((Z.take i).map (·.nd)) ≤ byt (Z.map (·.nd)) := by
  conv => rhs; rw [← List.take_append_drop i Z, List.map_append, byt_app]
  omega
theorem MeasZ.at : ∀ {Y : List Tv} {Z : List Nv}, MeasZ Y Z → ∀ {i : Nat} {z : Nv}, Z[i]? = some z → ∃ y, y ∈ Y ∧ z.s = y.2 ∧ z.nd.1 = y.1
  | [], [], _, _, _, hz => by simp at hz
  | y :: r, z' :: Z, h, i, z, hz => by
    cases i with
    | zero => simp at hz; subst hz; exact ⟨y, List.mem_cons_self .., h.2.1, by rw [h.2.2.1]⟩
    | succ i =>
      obtain ⟨y', h1, h2⟩ := MeasZ.at (Y := r) (Z := Z) h.1 (i := i) (z := z) (by simpa using hz)
      exact ⟨y', List.mem_cons_of_mem _ h1, h2⟩
  | [], _ :: _, h, _, _, _ => h.elim
  | _ :: _, [], h, _, _, _ => h.elim
set_option maxRecDepth 20000 in
set_option maxHeartbeats 8000000 in
theorem encode_any {w : World} (v : Value) (L : List Te) (hv : ElS w v L) (hD : datL L ≤ 1099511627776) (hn : L.length ≤ 1152921504606846976) :
    Calls Tryz.prog 36 #[v] w fun e w' => EncOut w.heap.size w' e (encS L) ∧ Below w.heap.size w w' := by
  obtain ⟨O, hO⟩ : ∃ O, encS L = O := ⟨_, rfl⟩
  have HO : Hid (encS L = O) := hO
  rw [hO]
  clear hO
  have hdl : ∀ x ∈ L, x.d.length ≤ 9223372036854775807 := fun x hx => by have := datL_mem hx; omega
  have HX : Hid (ElS w v L ∧ datL L ≤ 1099511627776 ∧ ∀ x ∈ L, x.d.length ≤ 9223372036854775807) := ⟨hv, hD, hdl⟩
  obtain ⟨a, n, c, rfl, hnn⟩ : ∃ a n c, v = .slice a n c ∧ n = L.length := by obtain ⟨a, c, Y, h, _⟩ := hv; exact ⟨a, _, c, h, rfl⟩
  have HNN : Hid (n = L.length ∧ L.length ≤ 1152921504606846976) := ⟨hnn, hn⟩
  clear hv hD hdl hnn hn
  have hI := isTree_any (w := w) (.slice a n c) L HX.out.1 HX.out.2.2 (by have := HNN.out; omega)
  cases hT : treeB L with
  | false =>
    rw [hT] at hI
    have HI : Hid (Calls Tryz.prog 65 #[.slice a n c] w fun e w' => e = .returned (.bool false) ∧ Below w.heap.size w w') := hI
    have HE : Hid (.inl 35 = O) := by rw [← HO.out]; show _ = _; unfold encS; rw [hT]; rfl
    clear hT hI
    go_enter Tryz.func36, Tryz.ntmps36
    go_wp2_with fail
    refine HI.out.mono ?_
    rintro ev w1 ⟨rfl, hb1⟩
    have H1 : Hid (Below w.heap.size w w1) := hb1
    clear hb1
    go_wp2
    go_ret2
    rw [← HE.out]
    exact ⟨rfl, H1.out⟩
  | true =>
    rw [hT] at hI
    have HI : Hid (Calls Tryz.prog 65 #[.slice a n c] w fun e w' => e = .returned (.bool true) ∧ Below w.heap.size w w') := hI
    clear hI
    go_enter Tryz.func36, Tryz.ntmps36
    go_wp2_with fail
    refine HI.out.mono ?_
    rintro ev w1 ⟨rfl, hb1⟩
    have H1 : Hid (Below w.heap.size w w1) := hb1
    clear hb1
    obtain ⟨Y, hY, hYs⟩ := (HX.out.1.below H1.out).y
    have HT : Hid (treeB L = true ∧ Y.map (·.1) = L ∧ ElY w1 (.slice a n c) Y) := ⟨hT, hY, hYs⟩
    have hYn : n = Y.length := by rw [HNN.out.1, ← hY, List.length_map]
    have HYN : Hid (n = Y.length ∧ n = L.length) := ⟨hYn, HNN.out.1⟩
    clear hT hY hYs hYn
    go_wp2_with fail
    refine (measured_any (.slice a n c) Y HT.out.2.2 (by rw [HT.out.2.1]; exact HT.out.1) (by rw [HT.out.2.1]; exact HX.out.2.1)).mono ?_
    rintro ev w2 ⟨⟨Z, hZ, rfl, hB2, hf2⟩, hb2⟩
    rw [← HYN.out.1]
    obtain ⟨g, hg⟩ : ∃ g, w1.heap.size = g := ⟨_, rfl⟩
    have H2 : Hid (MeasZ Y Z ∧ Blk 122 w2 g (ndCells Z) ∧ (∀ z ∈ Z, Row .u8 5 (g + 3) w2 z.f z.nd.2) ∧ Below g w1 w2 ∧ w1.heap.size = g) := by
      rw [← hg]; exact ⟨hZ, hB2, hf2, hb2, rfl⟩
    have hgl : g < w2.heap.size := by rw [← hg]; exact hB2.lt
    rw [hg]
    clear hZ hB2 hf2 hb2 hg
    have hZl : Z.length = n := by rw [MeasZ.len H2.out.1, ← HYN.out.1]
    have hn0 : 0 < n := by
      have h1 := HT.out.1
      rw [HYN.out.2]
      cases hL : L with
      | nil => rw [hL] at h1; cases h1
      | cons x r => simp
    have hn6 : n ≤ 65536 := by
      have h1 := HT.out.1
      rw [HYN.out.2]
      cases hL : L with
      | nil => simp
      | cons x r => rw [hL] at h1; simp only [treeB, Bool.and_eq_true, decide_eq_true_eq] at h1; exact h1.1.1.1
    obtain ⟨z0, hz0⟩ : ∃ z0, Z[0]? = some z0 := ⟨_, List.getElem?_eq_getElem (by omega)⟩
    have hsz0 : z0.sz = byt (nds L) := by
      have h1 := H2.out.1
      have h2 := HT.out.2.1
      have h3 := HT.out.1
      cases Y with
      | nil => cases Z with
        | nil => simp at hz0
        | cons z Z => exact h1.elim
      | cons y r => cases Z with
        | nil => exact h1.elim
        | cons z Z =>
          simp at hz0
          subst hz0
          rw [h1.2.2.2.1, h1.2.2.1]
          simp only [List.map_cons] at h2
          subst h2
          rw [tree_byt h3]
          simp only [nds, byt]
          rw [tree_byt h3]
    obtain ⟨Tt, hTt⟩ : ∃ Tt, byt (nds L) = Tt := ⟨_, rfl⟩
    rw [hTt] at hsz0
    have hTb : Tt ≤ 1099512414208 := by
      have := meas_bd HT.out.1 HX.out.2.1 (by have := HYN.out.2; omega) 0
      rw [List.drop_zero, hTt] at this; exact this
    have q6 : w2.cell? ⟨g, 6, none⟩ = some (.int .i64 (Tt : Int)) := by
      rw [H2.out.2.1.cell 6, show 6 = 0 * 8 + 6 from rfl, ndCells_at (by omega) 6 (by omega)]
      have : Z[0]'(by omega) = z0 := by rw [List.getElem?_eq_getElem (by omega)] at hz0; exact Option.some.inj hz0
      rw [this]; simp [cellN, hsz0]
    have hn0I : (0 : Int) < (n : Int) := by omega
    have HTT : Hid (byt (nds L) = Tt) := hTt
    clear hsz0 hz0 hTt
    by_cases hbig : 16777216 < Tt
    · have hbI : (16777216 : Int) < (Tt : Int) := by omega
      have HE : Hid (.inl 3 = O) := by rw [← HO.out]; show _ = _; unfold encS; rw [HT.out.1, HTT.out, if_pos rfl, if_pos hbig]
      go_wp2
      go_ret2
      rw [← HE.out]
      exact ⟨rfl, H1.out.trans (H2.out.2.2.2.1.mono (by have := H2.out.2.2.2.2; have := H1.out.size; omega))⟩
    · have hbI : ¬ (16777216 : Int) < (Tt : Int) := by omega
      have HE : Hid (.inr (bytesOf (nds L)) = O) := by rw [← HO.out]; show _ = _; unfold encS; rw [HT.out.1, HTT.out, if_pos rfl, if_neg hbig]
      go_upto_region 7 with (refine wpList_mk0 _ rfl _ _ 22 rfl .u8 5 1 Tryz.und8 Tryz.info8 (Tt : Int) Tt rfl rfl rfl (by omega) (by omega) ?_; intro w3 hr3 hb3)
      have H3 : Hid (Blk 122 w3 g (ndCells Z) ∧ (∀ z ∈ Z, Row .u8 5 (g + 3) w3 z.f z.nd.2) ∧ Below w.heap.size w w3 ∧ Row .u8 5 w2.heap.size w3 (.slice (some ⟨w2.heap.size, 0, none⟩) 0 Tt) [] ∧ Below w2.heap.size w2 w3) := ⟨below_blk hb3 hgl H2.out.2.1, fun z hz => (H2.out.2.2.1 z hz).below hb3, (H1.out.trans (H2.out.2.2.2.1.mono (by have := H2.out.2.2.2.2; have := H1.out.size; omega))).trans (hb3.mono (by have := H2.out.2.2.2.1.size; have := H2.out.2.2.2.2; have := H1.out.size; omega)), hr3, hb3⟩
      clear hr3 hb3 q6
      go_wp2_with fail
      go_loopw [5, 29] (fun bv iv wr => ∃ (i : Nat) (b0 : Value), b0 = bv ∧ iv = .int .i64 i ∧ i ≤ n ∧ Row .u8 5 w2.heap.size wr b0 (bytesOf ((Z.take i).map (·.nd))) ∧ Below w2.heap.size w2 wr) (fun _ iv _ => n - (intOf iv).toNat)
      case atStart => exact ⟨0, _, rfl, rfl, Nat.zero_le _, H3.out.2.2.2.1, H3.out.2.2.2.2⟩
      case round =>
        obtain ⟨i, b0, rfl, rfl, hi, hr, hbl⟩ := hrel
        have hZt : Z.map (·.nd) = nds L := by rw [MeasZ.row H2.out.1, HT.out.2.1]
        by_cases hlt : i < n
        · have hltI : (i : Int) < (n : Int) := by omega
          obtain ⟨z, hz⟩ : ∃ z, Z[i]? = some z := ⟨_, List.getElem?_eq_getElem (by omega)⟩
          have hzm : z ∈ Z := List.mem_of_getElem? hz
          have hg2 : g < wr.heap.size := Nat.lt_of_lt_of_le hgl hbl.size
          have hBr : Blk 122 wr g (ndCells Z) := below_blk hbl hgl H2.out.2.1
          have hcs : ∀ k, k < 8 → wr.cell? ⟨g, i * 8 + k, none⟩ = (cellN z)[k]? := fun k hk => by
            rw [hBr.cell (i * 8 + k), ndCells_at (by omega) k hk]
            have : Z[i]'(by omega) = z := by rw [List.getElem?_eq_getElem (by omega)] at hz; exact Option.some.inj hz
            rw [this]
          obtain ⟨y, hyY, hys, hyd⟩ := MeasZ.at H2.out.1 hz
          have hS0 : Sl .u8 w1 y.2 y.1.d := by obtain ⟨_, _, _, _, _, h⟩ := HT.out.2.2; exact h y hyY
          have hS1 : Sl .u8 wr z.s z.nd.1.d := by
            rw [hys, hyd]
            refine below_sl (w := w1) ?_ hS0
            have h1 := H2.out.2.2.2.1
            rw [← H2.out.2.2.2.2] at h1
            exact h1.trans (hbl.mono h1.size)
          have hf1 : Row .u8 5 (g + 3) wr z.f z.nd.2 := (H2.out.2.2.1 z hzm).below hbl
          have hS2 : Sl .u8 w2 z.s z.nd.1.d := by
            rw [hys, hyd]
            refine below_sl (w := w1) ?_ hS0
            have h1 := H2.out.2.2.2.1
            rwa [← H2.out.2.2.2.2] at h1
          obtain ⟨fa, fc, hfv⟩ := hf1.ne
          obtain ⟨sa, sc, hsv, hsc, hsr⟩ := hS1
          have hS1' : Sl .u8 wr (.slice sa z.nd.1.d.length sc) z.nd.1.d := ⟨sa, sc, rfl, hsc, hsr⟩
          obtain ⟨fl, hfl⟩ : ∃ fl, z.nd.2.length = fl := ⟨_, rfl⟩
          obtain ⟨sl, hsl⟩ : ∃ sl, z.nd.1.d.length = sl := ⟨_, rfl⟩
          obtain ⟨X, hX⟩ : ∃ X, bytesOf ((Z.take i).map (·.nd)) = X := ⟨_, rfl⟩
          have hXl : X.length + fl + sl ≤ 16777216 := by
            have h1 := bytesOf_len ((Z.take (i + 1)).map (·.nd))
            rw [bytesOf_snoc Z hz, hX, List.length_append, List.length_append, hfl, hsl] at h1
            have h2 := byt_take Z (i + 1)
            rw [hZt, HTT.out] at h2
            omega
          rw [hX] at hr
          rw [hfv] at hf1
          rw [hfl] at hf1 hfv
          rw [hsl] at hS1' hsv
          rw [hsv] at hS2
          have HS2 : Hid (Sl .u8 w2 (.slice sa sl sc) z.nd.1.d) := hS2
          clear hS2
          have c0 := hcs 0 (by omega)
          have c1 := hcs 1 (by omega)
          have c2 := hcs 2 (by omega)
          have c3 := hcs 3 (by omega)
          have c4 := hcs 4 (by omega)
          have c5 := hcs 5 (by omega)
          have c6 := hcs 6 (by omega)
          have c7 := hcs 7 (by omega)
          simp only [cellN, hfv, hsv, Nat.add_zero, List.getElem?_cons_zero, List.getElem?_cons_succ] at c0 c1 c2 c3 c4 c5 c6 c7
          obtain ⟨v0, hv0⟩ : ∃ v0, z.nd.1.dp = v0 := ⟨_, rfl⟩
          obtain ⟨v1, hv1⟩ : ∃ v1, z.nd.1.cl = v1 := ⟨_, rfl⟩
          obtain ⟨v2, hv2⟩ : ∃ v2, z.nd.1.tg = v2 := ⟨_, rfl⟩
          obtain ⟨v3, hv3⟩ : ∃ v3, z.nd.1.co = v3 := ⟨_, rfl⟩
          obtain ⟨v6, hv6⟩ : ∃ v6 : Int, (z.sz : Int) = v6 := ⟨_, rfl⟩
          obtain ⟨v7, hv7⟩ : ∃ v7 : Int, (z.ct : Int) = v7 := ⟨_, rfl⟩
          rw [hv0] at c0
          rw [hv1] at c1
          rw [hv2] at c2
          rw [hv3] at c3
          rw [hv6] at c6
          rw [hv7] at c7
          have H4 : Hid (Row .u8 5 w2.heap.size wr b0 X ∧ Below w2.heap.size w2 wr ∧ Sl .u8 wr (.slice fa fl fc) z.nd.2 ∧ Sl .u8 wr (.slice sa sl sc) z.nd.1.d ∧ bytesOf ((Z.take (i + 1)).map (·.nd)) = X ++ z.nd.2 ++ z.nd.1.d ∧ z.nd.2.length = fl ∧ z.nd.1.d.length = sl) := ⟨hr, hbl, hf1.sl, hS1', by rw [bytesOf_snoc Z hz, hX], hfl, hsl⟩
          have hsz3 : w2.heap.size ≤ wr.heap.size := hbl.size
          clear hr hbl hz hzm hBr hcs hyY hys hyd hS0 hf1 hS1' hfv hsv hsc hsr hfl hsl hX hv0 hv1 hv2 hv3 hv6 hv7 hZt
          go_upto_region 10 with (fail)
          refine wp_gen (fun W => Below wr.heap.size wr W ∧ Blk 122 W wr.heap.size [.int .i64 v0, .int .i64 v1, .int .i64 v2, .bool v3, .slice sa sl sc, .slice fa fl fc, .int .i64 v6, .int .i64 v7]) ⟨al1 _, Blk.new _ wr _⟩ ?_
          rintro w4 ⟨hb4, hB4⟩
          have d4 : w4.cell? ⟨wr.heap.size, 4, none⟩ = some (.slice sa sl sc) := hB4.cell 4
          have d5 : w4.cell? ⟨wr.heap.size, 5, none⟩ = some (.slice fa fl fc) := hB4.cell 5
          have H5 : Hid (Row .u8 5 w2.heap.size w4 b0 X ∧ Below wr.heap.size wr w4 ∧ Blk 122 w4 wr.heap.size [.int .i64 v0, .int .i64 v1, .int .i64 v2, .bool v3, .slice sa sl sc, .slice fa fl fc, .int .i64 v6, .int .i64 v7] ∧ Sl .u8 w4 (.slice fa fl fc) z.nd.2 ∧ Sl .u8 w4 (.slice sa sl sc) z.nd.1.d) := ⟨H4.out.1.below hb4, hb4, hB4, below_sl hb4 H4.out.2.2.1, below_sl hb4 H4.out.2.2.2.1⟩
          have hsz4 : w2.heap.size ≤ w4.heap.size := Nat.le_trans hsz3 hb4.size
          clear c0 c1 c2 c3 c4 c5 c6 c7 hb4 hB4
          go_upto_region 11 with (at_builtin; refine wpList_ap rfl (.tmp 33) (.tmp 35) 22 22 rfl .u8 5 1 Tryz.und8 Tryz.info8 (by decide) w2.heap.size _ X rfl H5.out.1 _ z.nd.2 rfl (src_sl Tryz.und8 H5.out.2.2.2.1) (by have := H4.out.2.2.2.2.2.1; omega) hsz4 ?_; intro v5 w5 hr5 hg5)
          obtain ⟨va, vc, hv5⟩ := hr5.ne
          obtain ⟨vl, hvl⟩ : ∃ vl, (X ++ z.nd.2).length = vl := ⟨_, rfl⟩
          rw [hvl] at hv5
          subst hv5
          have hb5 : Below w2.heap.size w2 w5 := (H4.out.2.1.trans (H5.out.2.1.mono hsz3)).trans (hg5.below H5.out.1 hsz4)
          have hB5 := hg5.blk H5.out.2.2.1 (by decide)
          have e4 : w5.cell? ⟨wr.heap.size, 4, none⟩ = some (.slice sa sl sc) := hB5.cell 4
          have H6 : Hid (Row .u8 5 w2.heap.size w5 (.slice va vl vc) (X ++ z.nd.2) ∧ Below w2.heap.size w2 w5 ∧ Sl .u8 w5 (.slice sa sl sc) z.nd.1.d) := ⟨hr5, hb5, below_sl hb5 HS2.out⟩
          have hsz5 : w2.heap.size ≤ w5.heap.size := hb5.size
          clear d4 d5 hr5 hg5 hb5 hB5 hvl
          go_upto_region 12 with (at_builtin; refine wpList_ap rfl (.tmp 37) (.tmp 40) 22 22 rfl .u8 5 1 Tryz.und8 Tryz.info8 (by decide) w2.heap.size _ (X ++ z.nd.2) rfl H6.out.1 _ z.nd.1.d rfl (src_sl Tryz.und8 H6.out.2.2) (by have := H4.out.2.2.2.2.2.1; have := H4.out.2.2.2.2.2.2; rw [List.length_append]; omega) hsz5 ?_; intro v6' w6 hr6 hg6)
          have H7 : Hid (Row .u8 5 w2.heap.size w6 v6' (bytesOf ((Z.take (i + 1)).map (·.nd))) ∧ Below w2.heap.size w2 w6) := ⟨by rw [H4.out.2.2.2.2.1]; exact hr6, H6.out.2.1.trans (hg6.below H6.out.1 hsz5)⟩
          clear hr6 hg6
          go_wp2
          go_roundw
          case rel => exact ⟨i + 1, _, rfl, by go_num, by omega, H7.out.1, H7.out.2⟩
          case measure => simp [intOf]; omega
        · obtain rfl : i = n := by omega
          have hltI : ¬ (i : Int) < (i : Int) := by omega
          have H4 : Hid (Row .u8 5 w2.heap.size wr b0 (bytesOf (nds L)) ∧ Below w2.heap.size w2 wr) := by
            rw [List.take_of_length_le (by omega), hZt] at hr
            exact ⟨hr, hbl⟩
          obtain ⟨ra, rc, hrv⟩ := hr.ne
          obtain ⟨rl, hrl⟩ : ∃ rl, (bytesOf ((Z.take i).map (·.nd))).length = rl := ⟨_, rfl⟩
          rw [hrl] at hrv
          subst hrv
          clear hr hbl hZt hrl
          go_wp2
          go_ret2
          rw [← HE.out]
          refine ⟨⟨ra, rl, rc, rfl, H4.out.1.mono ?_⟩, (H1.out.trans (H2.out.2.2.2.1.mono (by have := H2.out.2.2.2.2; have := H1.out.size; omega))).trans (H4.out.2.mono ?_)⟩
          · have := H2.out.2.2.2.1.size; have := H2.out.2.2.2.2; have := H1.out.size; omega
          · have := H2.out.2.2.2.1.size; have := H2.out.2.2.2.2; have := H1.out.size; omega
set_option maxHeartbeats 1000000 in
theorem Encode_any {w : World} (hG : GlbE w) (v : Value) (L : List Te) (hv : ElS w v L) (hD : datL L ≤ 1099511627776) (hn : L.length ≤ 1152921504606846976) :
    Calls Tryz.prog 18 #[v] w fun e w' => EnOut w.heap.size w' e (encS L) ∧ Below w.heap.size w w' := by
  have HX : Hid (GlbE w ∧ ElS w v L ∧ datL L ≤ 1099511627776 ∧ L.length ≤ 1152921504606846976) := ⟨hG, hv, hD, hn⟩
  obtain ⟨O, hO⟩ : ∃ O, encS L = O := ⟨_, rfl⟩
  have HO : Hid (encS L = O) := hO
  rw [hO]
  clear hG hv hD hn hO
  go_enter Tryz.func18, Tryz.ntmps18
  go_wp2_with fail
  refine (encode_any v L HX.out.2.1 HX.out.2.2.1 HX.out.2.2.2).mono ?_
  rintro ev w1 ⟨h1, hb⟩
  have HB : Hid (Below w.heap.size w w1) := hb
  rw [HO.out] at h1
  clear hb HO
  cases O with
  | inl er =>
    have h1' : ev = .returned (.tuple #[.slice none 0 0, flV er]) := h1
    subst h1'
    clear h1
    go_wp2_with fail
    refine (told_flaw (HX.out.1.below HB.out) er).mono ?_
    rintro ev w2 ⟨rfl, hb⟩
    have H2 : Hid (Below w.heap.size w w2) := HB.out.trans (hb.mono HB.out.size)
    clear hb
    go_wp2
    go_ret2
    exact ⟨rfl, H2.out⟩
  | inr M =>
    obtain ⟨a, n, c, rfl, hr⟩ := h1
    have HR : Hid (Row .u8 5 w.heap.size w1 (.slice a n c) M) := hr
    clear hr
    go_wp2_with fail
    refine told_nil.mono ?_
    rintro ev w2 ⟨rfl, hb⟩
    have H2 : Hid (Below w.heap.size w w2 ∧ Row .u8 5 w.heap.size w2 (.slice a n c) M) := ⟨HB.out.trans (hb.mono HB.out.size), HR.out.below hb⟩
    clear hb
    go_wp2
    go_ret2
    exact ⟨⟨a, n, c, rfl, H2.out.2⟩, H2.out.1⟩
end Go.Proofs.YtefebamomdcaaaaGreatDoor
/-
  Ber: kinds of tags, forms: walked.
-/
namespace Go.Proofs.YtefebamomdcaaaaGreatDoor
open Go.RowKit
theorem retI {a b : Int} (h : a = b) : Ending.returned (.int .i64 a) = .returned (.int .i64 b) := by rw [h]
set_option maxHeartbeats 1000000 in
theorem kind_any {w : World} (t : Int) : Calls Tryz.prog 116 #[.int .i64 t] w fun e w' => e = .returned (.int .i64 (kdB t)) ∧ w = w' := by
  by_cases h1 : t = 1
  · subst h1
    go_enter Tryz.func116, Tryz.ntmps116
    go_wp2
    go_ret
    exact ⟨rfl, rfl⟩
  by_cases h2 : t = 2
  · subst h2
    go_enter Tryz.func116, Tryz.ntmps116
    go_wp2
    go_ret
    exact ⟨rfl, rfl⟩
  by_cases h5 : t = 5
  · subst h5
    go_enter Tryz.func116, Tryz.ntmps116
    go_wp2
    go_ret
    exact ⟨rfl, rfl⟩
  by_cases h6 : t = 6
  · subst h6
    go_enter Tryz.func116, Tryz.ntmps116
    go_wp2
    go_ret
    exact ⟨rfl, rfl⟩
  by_cases h10 : t = 10
  · subst h10
    go_enter Tryz.func116, Tryz.ntmps116
    go_wp2
    go_ret
    exact ⟨rfl, rfl⟩
  by_cases h16 : t = 16
  · subst h16
    go_enter Tryz.func116, Tryz.ntmps116
    go_wp2
    go_ret
    exact ⟨rfl, rfl⟩
  by_cases h17 : t = 17
  · subst h17
    go_enter Tryz.func116, Tryz.ntmps116
    go_wp2
    go_ret
    exact ⟨rfl, rfl⟩
  by_cases h3 : t = 3
  · subst h3
    go_enter Tryz.func116, Tryz.ntmps116
    go_wp2
    go_ret
    exact ⟨rfl, rfl⟩
  by_cases h4 : t = 4
  · subst h4
    go_enter Tryz.func116, Tryz.ntmps116
    go_wp2
    go_ret
    exact ⟨rfl, rfl⟩
  by_cases h12 : t = 12
  · subst h12
    go_enter Tryz.func116, Tryz.ntmps116
    go_wp2
    go_ret
    exact ⟨rfl, rfl⟩
  by_cases h18 : t = 18
  · subst h18
    go_enter Tryz.func116, Tryz.ntmps116
    go_wp2
    go_ret
    exact ⟨rfl, rfl⟩
  by_cases h19 : t = 19
  · subst h19
    go_enter Tryz.func116, Tryz.ntmps116
    go_wp2
    go_ret
    exact ⟨rfl, rfl⟩
  by_cases h22 : t = 22
  · subst h22
    go_enter Tryz.func116, Tryz.ntmps116
    go_wp2
    go_ret
    exact ⟨rfl, rfl⟩
  by_cases h23 : t = 23
  · subst h23
    go_enter Tryz.func116, Tryz.ntmps116
    go_wp2
    go_ret
    exact ⟨rfl, rfl⟩
  by_cases h24 : t = 24
  · subst h24
    go_enter Tryz.func116, Tryz.ntmps116
    go_wp2
    go_ret
    exact ⟨rfl, rfl⟩
  by_cases h26 : t = 26
  · subst h26
    go_enter Tryz.func116, Tryz.ntmps116
    go_wp2
    go_ret
    exact ⟨rfl, rfl⟩
  by_cases h30 : t = 30
  · subst h30
    go_enter Tryz.func116, Tryz.ntmps116
    go_wp2
    go_ret
    exact ⟨rfl, rfl⟩
  have b1 : (t == 1) = false := by simpa using h1
  have b2 : (t == 2) = false := by simpa using h2
  have b5 : (t == 5) = false := by simpa using h5
  have b6 : (t == 6) = false := by simpa using h6
  have b10 : (t == 10) = false := by simpa using h10
  have b16 : (t == 16) = false := by simpa using h16
  have b17 : (t == 17) = false := by simpa using h17
  have b3 : (t == 3) = false := by simpa using h3
  have b4 : (t == 4) = false := by simpa using h4
  have b12 : (t == 12) = false := by simpa using h12
  have b18 : (t == 18) = false := by simpa using h18
  have b19 : (t == 19) = false := by simpa using h19
  have b22 : (t == 22) = false := by simpa using h22
  have b23 : (t == 23) = false := by simpa using h23
  have b24 : (t == 24) = false := by simpa using h24
  have b26 : (t == 26) = false := by simpa using h26
  have b30 : (t == 30) = false := by simpa using h30
  have HK : Hid (0 = kdB t) := by
    show _ = _
    unfold kdB
    rw [if_neg (by omega), if_neg (by omega), if_neg (by omega)]
  clear h1 h2 h5 h6 h10 h16 h17 h3 h4 h12 h18 h19 h22 h23 h24 h26 h30
  go_enter Tryz.func116, Tryz.ntmps116
  go_wp2
  go_ret
  exact ⟨retI HK.out, rfl⟩
theorem is_any {w : World} (x : Te) (s : Value) (t : Int) : Calls Tryz.prog 100 #[elV x s, .int .i64 t] w fun e w' => e = .returned (.bool (isB x t)) ∧ Below w.heap.size w w' := by
  obtain ⟨r, hr⟩ : ∃ r, isB x t = r := ⟨_, rfl⟩
  rw [hr]
  obtain ⟨dp, cl, tg, co, d⟩ := x
  unfold isB at hr
  by_cases h1 : cl = 0
  · subst h1
    by_cases h2 : tg = t
    · subst h2
      have HR : Hid (true = r) := by show _ = _; rw [← hr]; simp
      clear hr
      go_enter Tryz.func100, Tryz.ntmps100
      go_wp2
      go_ret
      exact ⟨retB HR.out, al1 _⟩
    · have h3 : (tg == t) = false := by simpa using h2
      have HR : Hid (false = r) := by show _ = _; rw [← hr]; simp [h2]
      clear hr h2
      go_enter Tryz.func100, Tryz.ntmps100
      go_wp2
      go_ret
      exact ⟨retB HR.out, al1 _⟩
  · have h3 : (cl == 0) = false := by simpa using h1
    have HR : Hid (false = r) := by show _ = _; rw [← hr]; simp [h1]
    clear hr h1
    go_enter Tryz.func100, Tryz.ntmps100
    go_wp2
    go_ret
    exact ⟨retB HR.out, al1 _⟩
theorem cstr_any {w : World} (x : Te) (s : Value) : Calls Tryz.prog 97 #[elV x s] w fun e w' => e = .returned (.bool (cstr x)) ∧ Below w.heap.size w w' := by
  obtain ⟨r, hr⟩ : ∃ r, cstr x = r := ⟨_, rfl⟩
  rw [hr]
  obtain ⟨dp, cl, tg, co, d⟩ := x
  unfold cstr at hr
  obtain ⟨k, hk⟩ : ∃ k, kdB tg = k := ⟨_, rfl⟩
  simp only [hk] at hr
  have HK : Hid (∀ W : World, Calls Tryz.prog 116 #[.int .i64 tg] W fun e w' => e = .returned (.int .i64 k) ∧ W = w') := fun W => by have := kind_any (w := W) tg; rwa [hk] at this
  clear hk
  by_cases h1 : cl = 0
  · subst h1
    by_cases h2 : k = 3
    · subst h2
      have HR : Hid (co = r) := by show _ = _; rw [← hr]; simp
      clear hr
      cases co with
      | true =>
        go_enter Tryz.func97, Tryz.ntmps97
        go_wp2_with (go_at_call 116; refine (HK.out _).mono ?_; rintro e w1 ⟨rfl, rfl⟩)
        go_ret
        exact ⟨retB HR.out, al1 _⟩
      | false =>
        go_enter Tryz.func97, Tryz.ntmps97
        go_wp2_with (go_at_call 116; refine (HK.out _).mono ?_; rintro e w1 ⟨rfl, rfl⟩)
        go_ret
        exact ⟨retB HR.out, al1 _⟩
    · have h3 : (k == 3) = false := by simpa using h2
      have HR : Hid (false = r) := by show _ = _; rw [← hr]; simp [h2]
      clear hr h2
      go_enter Tryz.func97, Tryz.ntmps97
      go_wp2_with (go_at_call 116; refine (HK.out _).mono ?_; rintro e w1 ⟨rfl, rfl⟩)
      go_ret
      exact ⟨retB HR.out, al1 _⟩
  · have h3 : (cl == 0) = false := by simpa using h1
    have HR : Hid (false = r) := by show _ = _; rw [← hr]; simp [h1]
    clear hr h1
    go_enter Tryz.func97, Tryz.ntmps97
    go_wp2
    go_ret
    exact ⟨retB HR.out, al1 _⟩
theorem sgT_any {w : World} (t : Int) : Calls Tryz.prog 115 #[.int .i64 t] w fun e w' => e = .returned (.int .i64 (sgT t)) ∧ w = w' := by
  by_cases h : t = 3
  · subst h
    go_enter Tryz.func115, Tryz.ntmps115
    go_wp2
    go_ret
    exact ⟨rfl, rfl⟩
  · have h2 : (t == 3) = false := by simpa using h
    have HR : Hid (4 = sgT t) := by show _ = _; unfold sgT; rw [if_neg h]
    clear h
    go_enter Tryz.func115, Tryz.ntmps115
    go_wp2
    go_ret
    exact ⟨retI HR.out, rfl⟩
/-- The first bytes of a slice. -/
theorem Sl.first {w : World} {v : Value} {d : List Int} (h : Sl .u8 w v d) (h0 : 0 < d.length) : ∃ b o c, v = .slice (some ⟨b, o, none⟩) d.length c ∧ b < w.heap.size ∧ ∀ i, i < d.length → w.cell? ⟨b, o + i, none⟩ = some (.int .u8 (d.getD i 0)) := by
  obtain ⟨a, c, rfl, hc, h⟩ := h
  rcases h with rfl | ⟨b, off, rfl, hb, hr⟩
  · simp at h0
  · exact ⟨b, off, c, rfl, hb, hr⟩
end Go.Proofs.YtefebamomdcaaaaGreatDoor
/-
  Ber: settle walked.
-/
namespace Go.Proofs.YtefebamomdcaaaaGreatDoor
open Go.RowKit
/-- A byte of a row of one's own is written, read. -/
theorem Row.put {e : TypeId} {B : Nat} {w : World} {b n c : Nat} {xs : List Int} (h : Row .u8 e B w (.slice (some ⟨b, 0, none⟩) n c) xs) (i : Nat) (x : Int) : Row .u8 e B (w.setCell ⟨b, i, none⟩ (.int .u8 x)) (.slice (some ⟨b, 0, none⟩) n c) (xs.set i x) ∧ B ≤ b := by
  rcases h with ⟨h, _⟩ | ⟨b', S, he, hB, hA, hl, ht, hm⟩
  · cases h
  · simp only [Value.slice.injEq, Option.some.injEq, Addr.mk.injEq, and_true] at he
    obtain ⟨rfl, rfl, rfl⟩ := he
    refine ⟨.inr ⟨b, S.set i x, by simp, hB, hA.set i x, by simpa using hl, ?_, by simpa using hm⟩, hB⟩
    rw [List.length_set, List.take_set, ht]
theorem Row.cells {e : TypeId} {B : Nat} {w : World} {v : Value} {xs : List Int} (h : Row .u8 e B w v xs) (h0 : 0 < xs.length) : ∃ b c, v = .slice (some ⟨b, 0, none⟩) xs.length c ∧ B ≤ b ∧ b < w.heap.size ∧ (∀ i, i < xs.length → w.cell? ⟨b, i, none⟩ = some (.int .u8 (xs.getD i 0))) ∧ ∀ i, w.frozen? ⟨b, i, none⟩ = false := by
  obtain ⟨b, S, rfl, hB, hA, hl, ht, hm⟩ := h.open xs.length rfl h0
  refine ⟨b, S.length, rfl, hB, hA.lt, fun i hi => ?_, fun i => hA.frozen i⟩
  rw [hA.cell i (by omega)]
  congr 2
  conv => rhs; rw [← ht]
  simp [List.getD_eq_getElem?_getD, hi]
/-- Blocks below B stand where a block from B on is written. -/
theorem bel_put {B b : Nat} {w w' : World} (h : Below w.heap.size w w') (hB : B ≤ w.heap.size) (hb : B ≤ b) (i : Nat) (v : Value) : Below B w (w'.setCell ⟨b, i, none⟩ v) := (h.mono hB).setCell hb _
set_option maxRecDepth 20000 in
set_option maxHeartbeats 2000000 in
theorem settle_any {w : World} (x : Te) (B : Nat) (s : Value) (hr : Row .u8 5 B w s x.d) (uD : U8s x.d) (hB : B ≤ w.heap.size) (hlen : x.d.length ≤ 1152921504606846976) (h1 : isB x 1 = true → 0 < x.d.length) (h3 : isB x 3 = true → 0 < x.d.length ∧ x.d.getD 0 0 ≤ 7) :
    Calls Tryz.prog 99 #[elV x s] w fun e w' => e = .returned (.tuple #[]) ∧ Row .u8 5 B w' s (setD x) ∧ Below B w w' := by
  obtain ⟨R, hR⟩ : ∃ R, setD x = R := ⟨_, rfl⟩
  rw [hR]
  unfold setD at hR
  have HI : Hid (∀ t q, isB x t = q → ∀ W : World, Calls Tryz.prog 100 #[elV x s, .int .i64 t] W fun e w' => e = .returned (.bool q) ∧ Below W.heap.size W w') := fun t q hq W => by have := is_any (w := W) x s t; rwa [hq] at this
  obtain ⟨dp, cl, tg, co, d⟩ := x
  simp only [] at hr uD h1 h3 hR hlen
  by_cases hb1 : isB ⟨dp, cl, tg, co, d⟩ 1 = true
  · rw [if_pos hb1] at hR
    have hl := h1 hb1
    obtain ⟨b, m, hsv, hBb, hbl, hcs, hfs⟩ := hr.cells hl
    obtain ⟨n, hn⟩ : ∃ n, d.length = n := ⟨_, rfl⟩
    rw [hn] at hsv
    subst hsv
    obtain ⟨z, hz⟩ : ∃ z, d.getD 0 0 = z := ⟨_, rfl⟩
    have c0 := hcs 0 hl
    have f0 := hfs 0
    rw [hz] at c0 hR
    have HC : Hid (∀ W : World, Calls Tryz.prog 100 #[.agg #[.int .i64 dp, .int .i64 cl, .int .i64 tg, .bool co, .slice (some ⟨b, 0, none⟩) n m], .int .i64 1] W fun e w' => e = .returned (.bool true) ∧ Below W.heap.size W w') := HI.out 1 true hb1
    have HRR : Hid (Row .u8 5 B w (.slice (some ⟨b, 0, none⟩) n m) d ∧ d.length = n ∧ B ≤ b) := ⟨hr, hn, hBb⟩
    rw [hn] at hl
    have hn0 : (0 : Int) < (n : Int) := by omega
    clear h1 h3 HI hcs hfs hr hn hb1 hz hlen
    go_enter Tryz.func99, Tryz.ntmps99
    go_upto_region 1 with (fail)
    refine wp_gen (fun W => Below w.heap.size w W ∧ Blk 59 W w.heap.size [.int .i64 dp, .int .i64 cl, .int .i64 tg, .bool co, .slice (some ⟨b, 0, none⟩) n m]) ⟨al1 _, Blk.new _ w _⟩ ?_
    rintro w1 ⟨hb, hBx⟩
    have e0 : w1.cell? ⟨w.heap.size, 0, none⟩ = some (.int .i64 dp) := hBx.cell 0
    have e1 : w1.cell? ⟨w.heap.size, 1, none⟩ = some (.int .i64 cl) := hBx.cell 1
    have e2 : w1.cell? ⟨w.heap.size, 2, none⟩ = some (.int .i64 tg) := hBx.cell 2
    have e3 : w1.cell? ⟨w.heap.size, 3, none⟩ = some (.bool co) := hBx.cell 3
    have e4 : w1.cell? ⟨w.heap.size, 4, none⟩ = some (.slice (some ⟨b, 0, none⟩) n m) := hBx.cell 4
    have H1 : Hid (Below w.heap.size w w1 ∧ Blk 59 w1 w.heap.size [.int .i64 dp, .int .i64 cl, .int .i64 tg, .bool co, .slice (some ⟨b, 0, none⟩) n m]) := ⟨hb, hBx⟩
    have hl1 : w.heap.size < w1.heap.size := hBx.lt
    have hbl1 : b < w1.heap.size := by omega
    clear hb hBx
    go_wp2_with fail
    refine (HC.out _).mono ?_
    rintro ev w2 ⟨rfl, hb2⟩
    have d0 : w2.cell? ⟨w.heap.size, 0, none⟩ = some (.int .i64 dp) := (hb2.cell (p := ⟨w.heap.size, 0, none⟩) hl1).trans e0
    have d1 : w2.cell? ⟨w.heap.size, 1, none⟩ = some (.int .i64 cl) := (hb2.cell (p := ⟨w.heap.size, 1, none⟩) hl1).trans e1
    have d2 : w2.cell? ⟨w.heap.size, 2, none⟩ = some (.int .i64 tg) := (hb2.cell (p := ⟨w.heap.size, 2, none⟩) hl1).trans e2
    have d3 : w2.cell? ⟨w.heap.size, 3, none⟩ = some (.bool co) := (hb2.cell (p := ⟨w.heap.size, 3, none⟩) hl1).trans e3
    have d4 : w2.cell? ⟨w.heap.size, 4, none⟩ = some (.slice (some ⟨b, 0, none⟩) n m) := (hb2.cell (p := ⟨w.heap.size, 4, none⟩) hl1).trans e4
    have H2 : Hid (Below w.heap.size w w2) := H1.out.1.trans (hb2.mono H1.out.1.size)
    have c2 : w2.cell? ⟨b, 0, none⟩ = some (.int .u8 z) := (hb2.cell (p := ⟨b, 0, none⟩) hbl1).trans ((H1.out.1.cell (p := ⟨b, 0, none⟩) hbl).trans c0)
    have g2 : w2.frozen? ⟨b, 0, none⟩ = false := (hb2.frozen (p := ⟨b, 0, none⟩) hbl1).trans ((H1.out.1.frozen (p := ⟨b, 0, none⟩) hbl).trans f0)
    clear hb2 e0 e1 e2 e3 e4 c0 f0 d0 d1 d2 d3
    by_cases hz0 : z = 0
    · have hzb : (z != 0) = false := by simpa using hz0
      have HE : Hid (d = R) := by show _ = _; rw [← hR, if_neg (by simpa using hz0)]
      clear hR hz0
      go_wp2
      exact bodyPost_end (v := .tuple #[]) (results_none rfl _ _ _) rfl ⟨rfl, by rw [← HE.out]; exact HRR.out.1.below H2.out, H2.out.mono hB⟩
    · have hzb : (z != 0) = true := by simpa using hz0
      have HE : Hid (d.set 0 255 = R) := by show _ = _; rw [← hR, if_pos hz0]
      clear hR hz0
      go_wp2
      exact bodyPost_end (v := .tuple #[]) (results_none rfl _ _ _) rfl ⟨rfl, by rw [← HE.out]; exact ((HRR.out.1.below H2.out).put 0 255).1, bel_put H2.out hB HRR.out.2.2 _ _⟩
  · have hb1f : isB ⟨dp, cl, tg, co, d⟩ 1 = false := by simpa using hb1
    rw [if_neg hb1] at hR
    by_cases hb3 : isB ⟨dp, cl, tg, co, d⟩ 3 = true
    · rw [if_pos hb3] at hR
      obtain ⟨hl, h7⟩ := h3 hb3
      obtain ⟨b, m, hsv, hBb, hbl, hcs, hfs⟩ := hr.cells hl
      obtain ⟨n, hn⟩ : ∃ n, d.length = n := ⟨_, rfl⟩
      rw [hn] at hsv
      subst hsv
      obtain ⟨z, hz⟩ : ∃ z, d.getD 0 0 = z := ⟨_, rfl⟩
      obtain ⟨e, he⟩ : ∃ e, d.length - 1 = e := ⟨_, rfl⟩
      obtain ⟨y, hy⟩ : ∃ y, d.getD e 0 = y := ⟨_, rfl⟩
      have c0 := hcs 0 hl
      have ce := hcs e (by omega)
      have f0 := hfs e
      have uy := uD.at e
      have uz := uD.at 0
      rw [hy] at ce uy
      rw [hz] at c0 h7 uz
      rw [he, hy, hz] at hR
      have hcl := clr_and y z uy uz.1 h7
      obtain ⟨M, hM⟩ : ∃ M : Int, (255 * 2 ^ z.toNat) % 256 = M := ⟨_, rfl⟩
      have hM2 : IntKind.u8.wrap (255 * 2 ^ z.toNat) = M := by rw [IntKind.wrap_u8]; exact hM
      rw [hM] at hcl
      obtain ⟨v, hv⟩ : ∃ v, clr y z = v := ⟨_, rfl⟩
      rw [hv] at hcl hR
      have HC1 : Hid (∀ W : World, Calls Tryz.prog 100 #[.agg #[.int .i64 dp, .int .i64 cl, .int .i64 tg, .bool co, .slice (some ⟨b, 0, none⟩) n m], .int .i64 1] W fun e w' => e = .returned (.bool false) ∧ Below W.heap.size W w') := HI.out 1 false hb1f
      have HC3 : Hid (∀ W : World, Calls Tryz.prog 100 #[.agg #[.int .i64 dp, .int .i64 cl, .int .i64 tg, .bool co, .slice (some ⟨b, 0, none⟩) n m], .int .i64 3] W fun e w' => e = .returned (.bool true) ∧ Below W.heap.size W w') := HI.out 3 true hb3
      have HRR : Hid (Row .u8 5 B w (.slice (some ⟨b, 0, none⟩) n m) d ∧ d.length = n ∧ B ≤ b) := ⟨hr, hn, hBb⟩
      rw [hn] at hl he hlen
      have hn0 : (0 : Int) < (n : Int) := by omega
      have hnM : (n : Int) ≤ 1152921504606846976 := by omega
      have heI : (n : Int) - 1 = (e : Int) := by omega
      have hen : (e : Int) < (n : Int) := by omega
      have z0 := uz.1
      have z7 : z ≤ 7 := h7
      clear h1 h3 HI hcs hfs hr hn hb1 hb3 hb1f hz hy he hM hv hlen uD uy uz
      go_enter Tryz.func99, Tryz.ntmps99
      go_upto_region 1 with (fail)
      refine wp_gen (fun W => Below w.heap.size w W ∧ Blk 59 W w.heap.size [.int .i64 dp, .int .i64 cl, .int .i64 tg, .bool co, .slice (some ⟨b, 0, none⟩) n m]) ⟨al1 _, Blk.new _ w _⟩ ?_
      rintro w1 ⟨hb, hBx⟩
      have e0 : w1.cell? ⟨w.heap.size, 0, none⟩ = some (.int .i64 dp) := hBx.cell 0
      have e1 : w1.cell? ⟨w.heap.size, 1, none⟩ = some (.int .i64 cl) := hBx.cell 1
      have e2 : w1.cell? ⟨w.heap.size, 2, none⟩ = some (.int .i64 tg) := hBx.cell 2
      have e3 : w1.cell? ⟨w.heap.size, 3, none⟩ = some (.bool co) := hBx.cell 3
      have e4 : w1.cell? ⟨w.heap.size, 4, none⟩ = some (.slice (some ⟨b, 0, none⟩) n m) := hBx.cell 4
      have H1 : Hid (Below w.heap.size w w1) := hb
      have hl1 : w.heap.size < w1.heap.size := hBx.lt
      have HBx : Hid (Blk 59 w1 w.heap.size [.int .i64 dp, .int .i64 cl, .int .i64 tg, .bool co, .slice (some ⟨b, 0, none⟩) n m]) := hBx
      clear hb hBx
      go_wp2_with fail
      refine (HC1.out _).mono ?_
      rintro ev w2 ⟨rfl, hb2⟩
      have hBx2 := below_blk hb2 hl1 HBx.out
      have d0 : w2.cell? ⟨w.heap.size, 0, none⟩ = some (.int .i64 dp) := hBx2.cell 0
      have d1 : w2.cell? ⟨w.heap.size, 1, none⟩ = some (.int .i64 cl) := hBx2.cell 1
      have d2 : w2.cell? ⟨w.heap.size, 2, none⟩ = some (.int .i64 tg) := hBx2.cell 2
      have d3 : w2.cell? ⟨w.heap.size, 3, none⟩ = some (.bool co) := hBx2.cell 3
      have d4 : w2.cell? ⟨w.heap.size, 4, none⟩ = some (.slice (some ⟨b, 0, none⟩) n m) := hBx2.cell 4
      have H2 : Hid (Below w.heap.size w w2 ∧ Blk 59 w2 w.heap.size [.int .i64 dp, .int .i64 cl, .int .i64 tg, .bool co, .slice (some ⟨b, 0, none⟩) n m]) := ⟨H1.out.trans (hb2.mono H1.out.size), hBx2⟩
      have hl2 : w.heap.size < w2.heap.size := hBx2.lt
      clear hb2 hBx2 e0 e1 e2 e3 e4
      go_wp2_with fail
      refine (HC3.out _).mono ?_
      rintro ev w3 ⟨rfl, hb3⟩
      have hw3 : Below w.heap.size w w3 := H2.out.1.trans (hb3.mono H2.out.1.size)
      have g4 : w3.cell? ⟨w.heap.size, 4, none⟩ = some (.slice (some ⟨b, 0, none⟩) n m) := (below_blk hb3 hl2 H2.out.2).cell 4
      have k0 : w3.cell? ⟨b, 0, none⟩ = some (.int .u8 z) := (hw3.cell (p := ⟨b, 0, none⟩) hbl).trans c0
      have ke : w3.cell? ⟨b, e, none⟩ = some (.int .u8 y) := (hw3.cell (p := ⟨b, e, none⟩) hbl).trans ce
      have kf : w3.frozen? ⟨b, e, none⟩ = false := (hw3.frozen (p := ⟨b, e, none⟩) hbl).trans f0
      have H3 : Hid (Below w.heap.size w w3) := hw3
      clear hb3 hw3 d0 d1 d2 d3 d4 c0 ce f0
      by_cases hz0 : z = 0
      · have hzb : (z != 0) = false := by simpa using hz0
        have HE : Hid (d = R) := by show _ = _; rw [← hR, if_neg (by simpa using hz0)]
        clear hR hz0
        go_wp2
        exact bodyPost_end (v := .tuple #[]) (results_none rfl _ _ _) rfl ⟨rfl, by rw [← HE.out]; exact HRR.out.1.below H3.out, H3.out.mono hB⟩
      · have hzb : (z != 0) = true := by simpa using hz0
        have HE : Hid (d.set e v = R) := by show _ = _; rw [← hR, if_pos hz0]
        clear hR hz0
        go_wp2
        exact bodyPost_end (v := .tuple #[]) (results_none rfl _ _ _) rfl ⟨rfl, by rw [← HE.out]; exact ((HRR.out.1.below H3.out).put e v).1, bel_put H3.out hB HRR.out.2.2 _ _⟩
    · have hb3f : isB ⟨dp, cl, tg, co, d⟩ 3 = false := by simpa using hb3
      rw [if_neg hb3] at hR
      subst hR
      obtain ⟨sa, sc, hs⟩ := hr.ne
      obtain ⟨n, hn⟩ : ∃ n, d.length = n := ⟨_, rfl⟩
      rw [hn] at hs
      subst hs
      have HC1 : Hid (∀ W : World, Calls Tryz.prog 100 #[.agg #[.int .i64 dp, .int .i64 cl, .int .i64 tg, .bool co, .slice sa n sc], .int .i64 1] W fun e w' => e = .returned (.bool false) ∧ Below W.heap.size W w') := HI.out 1 false hb1f
      have HC3 : Hid (∀ W : World, Calls Tryz.prog 100 #[.agg #[.int .i64 dp, .int .i64 cl, .int .i64 tg, .bool co, .slice sa n sc], .int .i64 3] W fun e w' => e = .returned (.bool false) ∧ Below W.heap.size W w') := HI.out 3 false hb3f
      have HRR : Hid (Row .u8 5 B w (.slice sa n sc) d) := hr
      clear h1 h3 HI hr hn hb1 hb3 hb1f hb3f hlen uD
      go_enter Tryz.func99, Tryz.ntmps99
      go_upto_region 1 with (fail)
      refine wp_gen (fun W => Below w.heap.size w W ∧ Blk 59 W w.heap.size [.int .i64 dp, .int .i64 cl, .int .i64 tg, .bool co, .slice sa n sc]) ⟨al1 _, Blk.new _ w _⟩ ?_
      rintro w1 ⟨hb, hBx⟩
      have e0 : w1.cell? ⟨w.heap.size, 0, none⟩ = some (.int .i64 dp) := hBx.cell 0
      have e1 : w1.cell? ⟨w.heap.size, 1, none⟩ = some (.int .i64 cl) := hBx.cell 1
      have e2 : w1.cell? ⟨w.heap.size, 2, none⟩ = some (.int .i64 tg) := hBx.cell 2
      have e3 : w1.cell? ⟨w.heap.size, 3, none⟩ = some (.bool co) := hBx.cell 3
      have e4 : w1.cell? ⟨w.heap.size, 4, none⟩ = some (.slice sa n sc) := hBx.cell 4
      have H1 : Hid (Below w.heap.size w w1) := hb
      have hl1 : w.heap.size < w1.heap.size := hBx.lt
      have HBx : Hid (Blk 59 w1 w.heap.size [.int .i64 dp, .int .i64 cl, .int .i64 tg, .bool co, .slice sa n sc]) := hBx
      clear hb hBx
      go_wp2_with fail
      refine (HC1.out _).mono ?_
      rintro ev w2 ⟨rfl, hb2⟩
      have hBx2 := below_blk hb2 hl1 HBx.out
      have d0 : w2.cell? ⟨w.heap.size, 0, none⟩ = some (.int .i64 dp) := hBx2.cell 0
      have d1 : w2.cell? ⟨w.heap.size, 1, none⟩ = some (.int .i64 cl) := hBx2.cell 1
      have d2 : w2.cell? ⟨w.heap.size, 2, none⟩ = some (.int .i64 tg) := hBx2.cell 2
      have d3 : w2.cell? ⟨w.heap.size, 3, none⟩ = some (.bool co) := hBx2.cell 3
      have d4 : w2.cell? ⟨w.heap.size, 4, none⟩ = some (.slice sa n sc) := hBx2.cell 4
      have H2 : Hid (Below w.heap.size w w2) := H1.out.trans (hb2.mono H1.out.size)
      clear hb2 hBx2 e0 e1 e2 e3 e4
      go_wp2_with fail
      refine (HC3.out _).mono ?_
      rintro ev w3 ⟨rfl, hb3⟩
      have H3 : Hid (Below w.heap.size w w3) := H2.out.trans (hb3.mono H2.out.size)
      clear hb3 d0 d1 d2 d3 d4
      go_wp2
      exact bodyPost_end (v := .tuple #[]) (results_none rfl _ _ _) rfl ⟨rfl, HRR.out.below H3.out, H3.out.mono hB⟩
end Go.Proofs.YtefebamomdcaaaaGreatDoor
