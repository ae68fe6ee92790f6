/-
  Der: slices of slices; Put.
-/
import Derived.BigRegion
import Derived.Test.YtedoghjefdkmaaaGreatK22
namespace Go.Proofs.YtedoghjefdkmaaaGreat
open Go.RowKit
/-- The slice v holds the values vs. -/
def SlS (w : World) (v : Value) (vs : List Value) : Prop :=
  ∃ a c, v = .slice a vs.length c ∧ vs.length ≤ c ∧ (vs = [] ∨ ∃ b off, a = some ⟨b, off, none⟩ ∧ b < w.heap.size ∧ ∀ i, i < vs.length → w.cell? ⟨b, off + i, none⟩ = some (vs.getD i undef))
/-- The values are slices that read the lists. -/
def Msgs (w : World) (vs : List Value) (ms : List (List Int)) : Prop := vs.length = ms.length ∧ ∀ i, i < vs.length → Sl .u8 w (vs.getD i undef) (ms.getD i []) ∧ U8s (ms.getD i [])
theorem Msgs.below {w w' : World} {vs : List Value} {ms : List (List Int)} (h : Msgs w vs ms) (hb : Below w.heap.size w w') : Msgs w' vs ms := ⟨h.1, fun i hi => ⟨below_sl hb (h.2 i hi).1, (h.2 i hi).2⟩⟩
theorem SlS.below {w w' : World} {v : Value} {vs : List Value} (h : SlS w v vs) (hb : Below w.heap.size w w') : SlS w' v vs := by
  obtain ⟨a, c, rfl, hc, h⟩ := h
  refine ⟨a, c, rfl, hc, ?_⟩
  rcases h with h | ⟨b, off, rfl, hbl, hr⟩
  · exact .inl h
  · exact .inr ⟨b, off, rfl, Nat.lt_of_lt_of_le hbl hb.size, fun i hi => (hb.cell (p := ⟨b, off + i, none⟩) hbl).trans (hr i hi)⟩
theorem flatten_u8 {ms : List (List Int)} (h : ∀ i, i < ms.length → U8s (ms.getD i [])) : U8s ms.flatten := by
  intro x hx
  obtain ⟨l, hl, hxl⟩ := List.mem_flatten.1 hx
  obtain ⟨i, hi, rfl⟩ := List.mem_iff_getElem.1 hl
  have := h i hi
  simp [hi] at this
  exact this x hxl
theorem flatten_take {ms : List (List Int)} {i : Nat} (hi : i < ms.length) : (ms.take (i + 1)).flatten = (ms.take i).flatten ++ ms.getD i [] := by
  rw [List.take_succ_eq_append_getElem hi, List.flatten_append, List.getD_eq_getElem?_getD, List.getElem?_eq_getElem hi]
  simp only [List.flatten_cons, List.flatten_nil, List.append_nil, Option.getD_some]
theorem flatten_take_le (ms : List (List Int)) (i : Nat) : (ms.take i).flatten.length ≤ ms.flatten.length := by
  have h : ms.flatten = (ms.take i).flatten ++ (ms.drop i).flatten := by rw [← List.flatten_append, List.take_append_drop]
  rw [h, List.length_append]; omega
/-- A slice of slices of bytes, as an argument has it. -/
structure Lists (w : World) (a : Option Addr) (n c : Nat) (vs : List Value) (ms : List (List Int)) : Prop where
  sls : SlS w (.slice a n c) vs
  msgs : Msgs w vs ms
  len : ms.length = n
theorem Lists.at {w : World} {a : Option Addr} {n c : Nat} {vs : List Value} {ms : List (List Int)} (h : Lists w a n c vs ms) (i : Nat) (hi : i < n) :
    ∃ b off ai ni ci, a = some ⟨b, off, none⟩ ∧ b < w.heap.size ∧ vs.getD i undef = .slice ai ni ci ∧ w.cell? ⟨b, off + i, none⟩ = some (.slice ai ni ci) ∧ Sl .u8 w (.slice ai ni ci) (ms.getD i []) ∧ U8s (ms.getD i []) ∧ (ms.getD i []).length = ni := by
  have hv : vs.length = n := by rw [h.msgs.1, h.len]
  obtain ⟨a', c', hva, hc, hx⟩ := h.sls
  simp only [Value.slice.injEq] at hva
  obtain ⟨rfl, _, rfl⟩ := hva
  rcases hx with hx | ⟨b, off, rfl, hb, hcell⟩
  · rw [hx] at hv; simp at hv; omega
  · have h1 := (h.msgs.2 i (by omega))
    obtain ⟨ai, ci, hvi, hci, hxi⟩ := h1.1
    refine ⟨b, off, ai, _, ci, rfl, hb, hvi, ?_, ?_, h1.2, rfl⟩
    · rw [hcell i (by omega), hvi]
    · rw [← hvi]; exact h1.1
theorem Lists.below {w w' : World} {a : Option Addr} {n c : Nat} {vs : List Value} {ms : List (List Int)} (h : Lists w a n c vs ms) (hb : Below w.heap.size w w') : Lists w' a n c vs ms := ⟨h.sls.below hb, h.msgs.below hb, h.len⟩
/-- 'make([]T, 0, n)': room for n in a block of its own. -/
theorem wpList_mk0 {P : Program} (w : World) {ops : Array Oper} {rest : List Oper} {o : Oper} {a : Act} {Q : Exit → Act → World → Prop} (hg : o.guard = none) (l c : Operand) (t : TypeId) (hop : o.op = .makeSlice t l c)
    (k : IntKind) (e : TypeId) (bytes : Nat) (ht : P.underlying t = some (.slice e)) (hi : (P.info? e).map (fun i => (i.zero, i.size, i.bytes)) = some (some (.int k 0), 1, bytes))
    (C : Int) (n : Nat) (hl : a.eval l = .int .i64 0) (hc : a.eval c = .int .i64 C) (hC : C = n) (hb : bytes * n ≤ 281474976710656) (hm : n ≤ 1152921504606846976)
    (hK : ∀ w', Row k e w.heap.size w' (.slice (some ⟨w.heap.size, 0, none⟩) 0 n) [] → Below w.heap.size w w' → wpList P ops Q rest (a.put o.dst (.slice (some ⟨w.heap.size, 0, none⟩) 0 n)) w') :
    wpList P ops Q (o :: rest) a w := by
  obtain ⟨i0, hi0, hz0, hz1, hz2⟩ := info_parts hi
  subst hC
  refine wpList_plain hg fun K hK' => ?_
  have hb' : (i0.bytes : Int) * (n : Int) ≤ 281474976710656 := by
    have h : ((i0.bytes * n : Nat) : Int) ≤ 281474976710656 := by rw [hz2]; omega
    rwa [Int.natCast_mul] at h
  have hr := run_make (P := P) w t e i0 (.int k 0) ht hi0 hz0 .i64 .i64 0 n (Int.le_refl _) (by omega) hb' (by omega)
  simp only [Int.toNat_zero, Int.toNat_natCast, hz1] at hr
  have hA : Arr k e (w.alloc (.cells (madeCells (Value.int k 0).cells (n * 1)) e)) w.heap.size (List.replicate n 0) := arr_nw rfl (by
    have e1 : (madeCells (Value.int k 0).cells (n * 1)).toList = List.replicate n (.int k 0) := by rw [Nat.mul_one]; exact toList_madeCells_one (.int k 0) n
    rw [toArray_of_toList e1]; simp)
  unfold Oper.wp
  simp [execOp, hop, hl, hc, hr, Result.andThen]
  refine hK' _ _ (hK _ (.inr ⟨w.heap.size, List.replicate n 0, by simp, Nat.le_refl _, ?_, by simp, by simp, by simp [maxLen]; omega⟩) (al1 _))
  simpa using hA
set_option maxHeartbeats 1000000 in
theorem Put_no {w : World} (c t : Int) (cons : Bool) (v : Value) (h : headOk c t = false) :
    Calls Tryz.prog 123 #[.int .i64 c, .int .i64 t, .bool cons, v] w fun e w' => e = .returned (.tuple #[.slice none 0 0, .int .i64 1]) ∧ w = w' := by
  have HH : Hid (headOk c t = false) := h
  clear h
  go_enter Tryz.func123, Tryz.ntmps123
  go_wp2_with (go_at_call 147; refine (isHead_any c t).mono ?_; rintro e w1 ⟨rfl, rfl⟩; rw [HH.out])
  go_ret2
  exact ⟨rfl, rfl⟩
set_option maxRecDepth 20000 in
set_option maxHeartbeats 4000000 in
theorem Put_any {w : World} (c : Int) (t k l : Nat) (cons : Bool) (a : Option Addr) (n cp N : Nat) (vs : List Value) (ms : List (List Int)) (hL : Lists w a n cp vs ms) (hN : ms.flatten.length = N) (hN1 : N ≤ 16777216) (hn : n ≤ 1152921504606846976) (h : headOk c t = true)
    (hk : t / 128 ^ k < 128) (hk1 : ∀ j, j < k → 128 ≤ t / 128 ^ j) (hk8 : k ≤ 8) (hl : N / 256 ^ l = 0) (hl1 : ∀ j, j < l → 0 < N / 256 ^ j) (hl8 : l ≤ 7) :
    Calls Tryz.prog 123 #[.int .i64 c, .int .i64 t, .bool cons, .slice a n cp] w fun e w' => ∃ r, e = .returned (.tuple #[r, .int .i64 0]) ∧ Row .u8 5 w.heap.size w' r (headB c cons t k ++ lenB N l ++ ms.flatten) ∧ Below w.heap.size w w' := by
  have HH : Hid (headOk c t = true) := h
  have hh : 0 ≤ c ∧ c ≤ 3 ∧ t ≤ 268435455 := by unfold headOk at h; simp at h; omega
  have HK : Hid ((t / 128 ^ k < 128 ∧ ∀ j, j < k → 128 ≤ t / 128 ^ j) ∧ (N / 256 ^ l = 0 ∧ ∀ j, j < l → 0 < N / 256 ^ j) ∧ 0 ≤ c ∧ c ≤ 3 ∧ t ≤ 268435455) := ⟨⟨hk, hk1⟩, ⟨hl, hl1⟩, hh⟩
  have HL : Hid (Lists w a n cp vs ms ∧ ms.flatten.length = N) := ⟨hL, hN⟩
  clear h hk hk1 hl hl1 hL hh hN
  have n1 : (n : Int) ≤ 1152921504606846976 := by omega
  go_enter Tryz.func123, Tryz.ntmps123
  go_wp2_with (go_at_call 147; refine (isHead_any c t).mono ?_; rintro e w1 ⟨rfl, rfl⟩; rw [HH.out])
  go_loopw [10, 23] (fun nv iv wr => ∃ i q : Nat, nv = .int .i64 q ∧ iv = .int .i64 i ∧ i ≤ n ∧ (ms.take i).flatten.length = q ∧ w = wr) (fun _ iv _ => n - (intOf iv).toNat)
  case atStart => exact ⟨0, 0, rfl, rfl, by omega, by simp, rfl⟩
  case round =>
    obtain ⟨i, q, rfl, rfl, hi, hq, rfl⟩ := hrel
    have HQ : Hid ((ms.take i).flatten.length = q) := hq
    have hqN : q ≤ N := by have := flatten_take_le ms i; have := HL.out.2; omega
    clear hq
    by_cases hlt : i < n
    · have l1 : (i : Int) < (n : Int) := by omega
      obtain ⟨b, off, ai, ni, ci, rfl, hb, hvi, hcell, hsl, hu, hni⟩ := HL.out.1.at i hlt
      have HI : Hid ((ms.take (i + 1)).flatten.length = q + ni) := by
        show _ = _
        rw [flatten_take (by have := HL.out.1.len; omega), List.length_append, HQ.out, hni]
      have hq2 : q + ni ≤ N := by have := flatten_take_le ms (i + 1); rw [HI.out] at this; have := HL.out.2; omega
      clear hvi hsl hu hni
      go_wp2
      go_roundw
      case rel => exact ⟨i + 1, q + ni, by go_num, by go_num, by omega, HI.out, trivial⟩
      case measure => simp [intOf]; omega
    · obtain rfl : i = n := by omega
      have hqe : q = N := by
        have h1 := HQ.out
        rw [List.take_of_length_le (by have := HL.out.1.len; omega), HL.out.2] at h1
        omega
      subst hqe
      have l1 : ¬ (i : Int) < (i : Int) := by omega
      have l2 : ¬ (16777216 : Int) < (q : Int) := by omega
      go_wp2_with fail
      refine (head_any c cons t k HK.out.2.2.1 HK.out.2.2.2.1 HK.out.1.1 HK.out.1.2 hk8 HK.out.2.2.2.2).mono ?_
      rintro e w1 ⟨r1, rfl, hr1, hb1⟩
      have H1 : Hid (Row .u8 5 w.heap.size w1 r1 (headB c cons t k) ∧ Below w.heap.size w w1) := ⟨hr1, hb1⟩
      clear hr1 hb1
      go_wp2_with fail
      refine (length_any q l HK.out.2.1.1 HK.out.2.1.2 hl8 (by omega)).mono ?_
      rintro e w2 ⟨r2, rfl, hr2, hb2⟩
      have H2 : Hid (Row .u8 5 w.heap.size w2 r1 (headB c cons t k) ∧ Sl .u8 w2 r2 (lenB q l) ∧ Below w.heap.size w w2) := ⟨H1.out.1.below hb2, hr2.sl, below_via H1.out.2 hb2 (Nat.le_refl _)⟩
      clear hr2 hb2
      obtain ⟨F, hF⟩ : ∃ F, headB c cons t k ++ lenB q l = F := ⟨_, rfl⟩
      have HF : Hid (headB c cons t k ++ lenB q l = F) := hF
      have hFl : F.length ≤ 20 := by rw [← hF]; unfold headB lenB sev; split <;> split <;> simp [tp_len, tb_len] <;> omega
      have hF0 : (headB c cons t k).length + (lenB q l).length = F.length := by rw [← hF]; simp
      clear hF
      obtain ⟨f, hf⟩ : ∃ f, F.length = f := ⟨_, rfl⟩
      have HFl : Hid (F.length = f) := hf
      rw [hf] at hFl hF0
      clear hf
      obtain ⟨m, hm⟩ : ∃ m : Nat, f + q = m := ⟨_, rfl⟩
      have hfq : (f : Int) + (q : Int) = (m : Int) := by omega
      go_upto_region 12 with ((at_builtin; refine wpList_ap rfl (.tmp 37) (.tmp 39) 25 25 rfl .u8 5 1 Tryz.und8 Tryz.info8 (by decide) w.heap.size _ (headB c cons t k) rfl H2.out.1 _ (lenB q l) rfl (src_sl Tryz.und8 H2.out.2.1) (by omega) H2.out.2.2.size ?_; intro v3 w3 hr3 hg3; rw [HF.out] at hr3; obtain ⟨a3, c3, hv3⟩ := hr3.ne; rw [HFl.out] at hv3; subst hv3))
      have hb3 : Below w.heap.size w w3 := H2.out.2.2.trans (hg3.below H2.out.1 H2.out.2.2.size)
      have H3 : Hid (Row .u8 5 w.heap.size w3 (.slice a3 f c3) F ∧ Below w.heap.size w w3) := ⟨hr3, hb3⟩
      clear hr3 hg3 hb3 hF0
      go_upto_region 13 with ((at_make; refine wpList_mk0 _ rfl _ _ 25 rfl .u8 5 1 Tryz.und8 Tryz.info8 _ m rfl rfl (by omega) (by omega) (by omega) ?_; intro w4 hr4 hb4))
      have H4 : Hid (Row .u8 5 w.heap.size w4 (.slice (some ⟨w3.heap.size, 0, none⟩) 0 m) [] ∧ Sl .u8 w4 (.slice a3 f c3) F ∧ Below w.heap.size w w4) := ⟨hr4.mono H3.out.2.size, below_sl hb4 H3.out.1.sl, below_via H3.out.2 hb4 (Nat.le_refl _)⟩
      clear hr4 hb4
      go_wp2_with (at_builtin; refine wpList_ap rfl (.tmp 46) (.tmp 47) 25 25 rfl .u8 5 1 Tryz.und8 Tryz.info8 (by decide) w.heap.size _ [] rfl H4.out.1 _ F rfl (src_sl Tryz.und8 H4.out.2.1) (by have := HFl.out; simp; omega) H4.out.2.2.size ?_; intro v5 w5 hr5 hg5)
      have hb5 : Below w.heap.size w w5 := H4.out.2.2.trans (hg5.below H4.out.1 H4.out.2.2.size)
      have H5 : Hid (Row .u8 5 w.heap.size w5 v5 F ∧ Below w.heap.size w w5) := ⟨by simpa using hr5, hb5⟩
      clear hr5 hg5 hb5
      go_wp2_with fail
      go_loopw [14, 51] (fun bv iv wr => ∃ (j : Nat) (b0 : Value), b0 = bv ∧ iv = .int .i64 j ∧ j ≤ i ∧ Row .u8 5 w.heap.size wr b0 (F ++ (ms.take j).flatten) ∧ Below w.heap.size w wr) (fun _ iv _ => i - (intOf iv).toNat)
      case atStart => exact ⟨0, _, rfl, rfl, by omega, by simpa using H5.out.1, H5.out.2⟩
      case round =>
        clear l1
        obtain ⟨j, b0, rfl, rfl, hj, hr6, hb6⟩ := hrel
        have H6 : Hid (Row .u8 5 w.heap.size wr b0 (F ++ (ms.take j).flatten) ∧ Below w.heap.size w wr) := ⟨hr6, hb6⟩
        clear hr6
        by_cases hlt : j < i
        · have l1 : (j : Int) < (i : Int) := by omega
          obtain ⟨b, off, ai, ni, ci, rfl, hb, hvi, hcell, hsl, hu, hni⟩ := HL.out.1.at j hlt
          have hcr : wr.cell? ⟨b, off + j, none⟩ = some (.slice ai ni ci) := (hb6.cell (p := ⟨b, off + j, none⟩) hb).trans hcell
          have HI : Hid ((ms.take (j + 1)).flatten = (ms.take j).flatten ++ ms.getD j [] ∧ Sl .u8 wr (.slice ai ni ci) (ms.getD j []) ∧ F.length + (ms.take j).flatten.length + (ms.getD j []).length ≤ 20 + 16777216) := by
            refine ⟨flatten_take (by have := HL.out.1.len; omega), below_sl hb6 hsl, ?_⟩
            have h1 := flatten_take_le ms (j + 1)
            rw [flatten_take (by have := HL.out.1.len; omega), List.length_append, HL.out.2] at h1
            have := HFl.out
            omega
          clear hvi hsl hu hni hcell hb6
          go_wp2_with (at_builtin; refine wpList_ap rfl (.tmp 55) (.tmp 56) 25 25 rfl .u8 5 1 Tryz.und8 Tryz.info8 (by decide) w.heap.size _ (F ++ (ms.take j).flatten) rfl H6.out.1 _ (ms.getD j []) rfl (src_sl Tryz.und8 HI.out.2.1) (by have := HI.out.2.2; simp only [List.length_append]; omega) H6.out.2.size ?_; intro v7 w7 hr7 hg7)
          have hb7 : Below w.heap.size w w7 := H6.out.2.trans (hg7.below H6.out.1 H6.out.2.size)
          have H7 : Hid (Row .u8 5 w.heap.size w7 v7 (F ++ (ms.take (j + 1)).flatten) ∧ Below w.heap.size w w7) := ⟨by rw [HI.out.1, ← List.append_assoc]; exact hr7, hb7⟩
          clear hr7 hg7 hb7
          go_roundw
          case rel => exact ⟨j + 1, _, rfl, by go_num, by omega, H7.out.1, H7.out.2⟩
          case measure => simp [intOf]; omega
        · obtain rfl : j = i := by omega
          have l1 : ¬ (j : Int) < (j : Int) := by omega
          have HE : Hid (ms.take j = ms) := List.take_of_length_le (by have := HL.out.1.len; omega)
          clear hb6
          go_wp2
          go_ret2
          refine ⟨_, rfl, ?_, H6.out.2⟩
          have := H6.out.1
          rw [HE.out, ← HF.out, List.append_assoc] at this
          exact this
end Go.Proofs.YtedoghjefdkmaaaGreat
/-
  Der: what is laid is split as it was, over lists of bytes; no Go text in sight.
-/
namespace Go.Proofs.YtedoghjefdkmaaaGreat
open Go.RowKit
/-- M reads e from place p on. -/
def At (M : List Int) (p : Nat) (e : List Int) : Prop := p + e.length ≤ M.length ∧ ∀ q, q < e.length → M.getD (p + q) 0 = e.getD q 0
theorem At.left {M : List Int} {p : Nat} {a b : List Int} (h : At M p (a ++ b)) : At M p a := by
  obtain ⟨h1, h2⟩ := h
  rw [List.length_append] at h1 h2
  refine ⟨by omega, fun q hq => ?_⟩
  rw [h2 q (by omega)]
  simp [List.getD, List.getElem?_append_left hq]
theorem At.right {M : List Int} {p : Nat} {a b : List Int} (h : At M p (a ++ b)) : At M (p + a.length) b := by
  obtain ⟨h1, h2⟩ := h
  rw [List.length_append] at h1 h2
  refine ⟨by omega, fun q hq => ?_⟩
  have := h2 (a.length + q) (by omega)
  rw [← Nat.add_assoc] at this
  rw [this]
  simp [List.getD, List.getElem?_append_right (show a.length ≤ a.length + q by omega)]
theorem At.take {M : List Int} {p : Nat} {e : List Int} (h : At M p e) : (M.drop p).take e.length = e := by
  obtain ⟨h1, h2⟩ := h
  refine List.ext_getElem (by simp; omega) fun q hq hq' => ?_
  have := h2 q hq'
  simp only [List.getElem_take, List.getElem_drop]
  rw [List.getD_eq_getElem?_getD, List.getD_eq_getElem?_getD, List.getElem?_eq_getElem (by omega), List.getElem?_eq_getElem hq'] at this
  simpa using this
theorem tp_get (n k : Nat) : ∀ i q, q < i → (tp n k i).getD q 0 = gr n (k - q)
  | 0, q, h => by omega
  | i + 1, q, h => by
    show (tp n k i ++ [gr n (k - i)]).getD q 0 = _
    by_cases hq : q < i
    · have := tp_get n k i q hq
      simp only [List.getD_eq_getElem?_getD] at this ⊢
      rw [List.getElem?_append_left (by rw [tp_len]; exact hq)]; exact this
    · obtain rfl : q = i := by omega
      simp [List.getD, tp_len]
theorem tb_get (n c : Nat) : ∀ i q, q < i → (tb n c i).getD q 0 = by8 n (c - 1 - q)
  | 0, q, h => by omega
  | i + 1, q, h => by
    show (tb n c i ++ [by8 n (c - 1 - i)]).getD q 0 = _
    by_cases hq : q < i
    · have := tb_get n c i q hq
      simp only [List.getD_eq_getElem?_getD] at this ⊢
      rw [List.getElem?_append_left (by rw [tb_len]; exact hq)]; exact this
    · obtain rfl : q = i := by omega
      simp [List.getD, tb_len]
theorem sev_len (k n : Nat) : (sev k n).length = k + 1 := by unfold sev; rw [List.length_append, tp_len]; rfl
theorem sev_get (k n q : Nat) (hq : q < k) : (sev k n).getD q 0 = gr n (k - q) := by
  have := tp_get n k k q hq
  unfold sev
  simp only [List.getD_eq_getElem?_getD] at this ⊢
  rw [List.getElem?_append_left (by rw [tp_len]; exact hq)]; exact this
theorem sev_last (k n : Nat) : (sev k n).getD k 0 = ((n % 128 : Nat) : Int) := by
  unfold sev
  simp [List.getD, tp_len]
theorem gr_step (n j : Nat) : n / 128 ^ (j + 1) * 128 + n / 128 ^ j % 128 = n / 128 ^ j := by
  rw [Nat.pow_succ, ← Nat.div_div_eq_div_mul]; omega
/-- A long tag is read as it was laid. -/
theorem lng_sev {M : List Int} {p : Nat} (k n : Nat) (hA : At M p (sev k n)) (hk : n / 128 ^ k < 128) (hk1 : ∀ j, j < k → 128 ≤ n / 128 ^ j) (h31 : 31 ≤ n) (hn : n ≤ 268435455) :
    lng M p 0 = .ok (n : Int) (p + k + 1) := by
  have hl := hA.1
  rw [sev_len] at hl
  have key : ∀ d i, i + d = k → ∀ t : Nat, (i = 0 → t = 0) → (0 < i → t = n / 128 ^ (d + 1)) → lng M (p + i) (t : Int) = .ok (n : Int) (p + k + 1) := by
    intro d
    induction d with
    | zero =>
      intro i hi t h0 h1
      obtain rfl : i = k := by omega
      have hx := hA.2 i (by rw [sev_len]; omega)
      rw [sev_last] at hx
      have ht : t * 128 + n % 128 = n := by
        by_cases hi0 : i = 0
        · subst hi0
          have := h0 rfl
          subst this
          simp at hk
          omega
        · have := h1 (by omega)
          rw [this]
          have := gr_step n 0
          simp at this ⊢
          omega
      rw [lng_step (by omega) hx rfl, if_neg (by omega), if_pos (by omega)]
      congr 1
      omega
    | succ d ih =>
      intro i hi t h0 h1
      have hx := hA.2 i (by rw [sev_len]; omega)
      rw [sev_get k n i (by omega), show k - i = d + 1 by omega] at hx
      obtain ⟨v, hv⟩ : ∃ v, n / 128 ^ (d + 1) = v := ⟨_, rfl⟩
      have hgr : gr n (d + 1) = ((v % 128 + 128 : Nat) : Int) := by unfold gr; rw [hv]
      rw [hgr] at hx
      have hvn : v ≤ n := by rw [← hv]; exact Nat.div_le_self _ _
      have hv1 : 1 ≤ v := by
        have := hk1 d (by omega)
        have h3 := gr_step n d
        rw [hv] at h3
        omega
      have ht : t * 128 + v % 128 = v := by
        by_cases hi0 : i = 0
        · have := h0 hi0
          subst this
          have : v < 128 := by rw [← hv, show d + 1 = k by omega]; exact hk
          omega
        · have h2 := h1 (by omega)
          have h3 := gr_step n (d + 1)
          rw [hv, ← h2] at h3
          exact h3
      rw [lng_step (t' := (v : Int)) (by omega) hx (by omega), if_neg (by omega), if_neg (by omega)]
      have := ih (i + 1) (by omega) v (by omega) (fun _ => hv.symm)
      rw [Nat.add_assoc]
      exact this
  have := key k 0 (by omega) 0 (fun _ => rfl) (by omega)
  simpa using this
theorem by8_step (n j : Nat) : n / 256 ^ (j + 1) * 256 + n / 256 ^ j % 256 = n / 256 ^ j := by
  rw [Nat.pow_succ, ← Nat.div_div_eq_div_mul]; omega
theorem lenB_len (n c : Nat) : (lenB n c).length = if n < 128 then 1 else c + 1 := by
  unfold lenB
  split
  · rfl
  · rw [List.length_cons, tb_len]
/-- A length is read as it was laid. -/
theorem lenS_lenB {M : List Int} {i : Nat} (n l : Nat) (hA : At M i (lenB n l)) (hl : n / 256 ^ l = 0) (hl1 : ∀ j, j < l → 0 < n / 256 ^ j) (hl8 : l ≤ 7) (hn : n ≤ 16777216) (hM : i + (lenB n l).length + n ≤ M.length) :
    lenS M i = .ok (n : Int) (i + (lenB n l).length) := by
  rw [lenB_len] at hM ⊢
  by_cases h : n < 128
  · rw [if_pos h] at hM ⊢
    have hx := hA.2 0 (by rw [lenB_len, if_pos h]; omega)
    rw [show (lenB n l).getD 0 0 = (n : Int) by unfold lenB; rw [if_pos h]; rfl, Nat.add_zero] at hx
    unfold lenS
    rw [if_neg (by omega), hx, if_neg (by omega), if_pos (by omega), if_neg (by omega)]
  · rw [if_neg h] at hM ⊢
    have hB : lenB n l = (128 + (l : Int)) :: tb n l l := by unfold lenB; rw [if_neg h]
    rw [hB] at hA
    have hx := hA.2 0 (by simp)
    rw [Nat.add_zero] at hx
    have hx : M.getD i 0 = 128 + (l : Int) := by rw [hx]; rfl
    have hl0 : 0 < l := by
      by_cases h0 : l = 0
      · subst h0; simp at hl; omega
      · omega
    have hg : ∀ q, q < l → M.getD (i + 1 + q) 0 = by8 n (l - 1 - q) := by
      intro q hq
      have := hA.2 (q + 1) (by rw [List.length_cons, tb_len]; omega)
      rw [show i + (q + 1) = i + 1 + q by omega] at this
      rw [this]
      have h2 := tb_get n l l q hq
      simpa using h2
    have hf : ∀ q, q ≤ l → fold8 M (i + 1) q = ((n / 256 ^ (l - q) : Nat) : Int) := by
      intro q
      induction q with
      | zero => intro _; simp only [fold8]; rw [Nat.sub_zero, hl]; rfl
      | succ q ih =>
        intro hq
        rw [fold8_at (i + 1) q (hg q (by omega)), ih (by omega)]
        have h3 := by8_step n (l - 1 - q)
        rw [show l - 1 - q + 1 = l - q by omega] at h3
        have h4 : n / 256 ^ (l - 1 - q) ≤ n := Nat.div_le_self _ _
        rw [show l - (q + 1) = l - 1 - q by omega]
        unfold by8
        omega
    have hfl := hf l (Nat.le_refl _)
    rw [Nat.sub_self, Nat.pow_zero, Nat.div_one] at hfl
    have h1 := hg 0 hl0
    have hne : M.getD (i + 1) 0 ≠ 0 := by
      rw [Nat.add_zero] at h1
      rw [h1]
      unfold by8
      have h3 := by8_step n (l - 1 - 0)
      rw [show l - 1 - 0 + 1 = l by omega, hl] at h3
      have h4 := hl1 (l - 1 - 0) (by omega)
      omega
    unfold lenS
    have hk : (M.getD i 0 - 128).toNat = l := by rw [hx]; omega
    rw [hk, hx, if_neg (by omega), if_neg (by omega), if_neg (by omega), if_neg (by omega), hfl, if_neg (by omega), if_neg (by omega)]
    congr 1
    omega
/-- An element's bytes. -/
def encB (cl : Int) (co : Bool) (t k l : Nat) (d : List Int) : List Int := headB cl co t k ++ lenB d.length l ++ d
theorem headB_len (cl : Int) (co : Bool) (t k : Nat) : (headB cl co t k).length = if t < 31 then 1 else k + 2 := by
  unfold headB
  split
  · rfl
  · rw [List.length_cons, sev_len]
theorem tagS_head {M : List Int} {p : Nat} (cl : Int) (co : Bool) (t k : Nat) (hA : At M p (headB cl co t k)) (h : headOk cl t = true) (hk : t / 128 ^ k < 128) (hk1 : ∀ j, j < k → 128 ≤ t / 128 ^ j) :
    tagS M p = .ok (t : Int) (p + (headB cl co t k).length) ∧ M.getD p 0 / 64 = cl ∧ decide (M.getD p 0 / 32 % 2 = 1) = co := by
  have hh : 0 ≤ cl ∧ cl ≤ 3 ∧ (t : Int) ≤ 268435455 ∧ ¬ (cl = 0 ∧ (t : Int) = 0) := by unfold headOk at h; simp at h; omega
  have hco : (if co then (32 : Int) else 0) = 0 ∧ co = false ∨ (if co then (32 : Int) else 0) = 32 ∧ co = true := by cases co <;> simp
  rw [headB_len]
  by_cases ht : t < 31
  · have hx := hA.2 0 (by rw [headB_len, if_pos ht]; omega)
    rw [show (headB cl co t k).getD 0 0 = frst cl co + t by unfold headB; rw [if_pos ht]; rfl, Nat.add_zero] at hx
    unfold frst at hx
    obtain ⟨z, hz⟩ : ∃ z : Int, (if co then (32 : Int) else 0) = z := ⟨_, rfl⟩
    rw [hz] at hx hco
    rw [if_pos ht]
    refine ⟨?_, by omega, ?_⟩
    · unfold tagS
      rw [hx, show (cl * 64 + z + (t : Int)) % 32 = t by omega, if_neg (by omega), if_neg (by omega)]
    · rw [hx]
      rcases hco with ⟨h1, rfl⟩ | ⟨h1, rfl⟩
      · simp; omega
      · simp; omega
  · have hB : headB cl co t k = (frst cl co + 31) :: sev k t := by unfold headB; rw [if_neg ht]
    rw [hB] at hA
    have hx := hA.2 0 (by simp)
    rw [Nat.add_zero] at hx
    have hx : M.getD p 0 = frst cl co + 31 := by rw [hx]; rfl
    unfold frst at hx
    obtain ⟨z, hz⟩ : ∃ z : Int, (if co then (32 : Int) else 0) = z := ⟨_, rfl⟩
    rw [hz] at hx hco
    rw [if_neg ht]
    have hA' : At M (p + 1) (sev k t) := by
      have : At M p ([cl * 64 + z + 31] ++ sev k t) := by
        have := hA
        unfold frst at this
        rw [hz] at this
        exact this
      exact this.right
    refine ⟨?_, by omega, ?_⟩
    · unfold tagS
      rw [hx, if_pos (by omega), lng_sev k t hA' hk hk1 (by omega) (by omega)]
      congr 1
      omega
    · rw [hx]
      rcases hco with ⟨h1, rfl⟩ | ⟨h1, rfl⟩
      · simp; omega
      · simp; omega
/-- An element is read as it was laid. -/
theorem elem_enc {M : List Int} {p : Nat} (cl : Int) (co : Bool) (t k l : Nat) (d : List Int) (hA : At M p (encB cl co t k l d)) (h : headOk cl t = true) (hk : t / 128 ^ k < 128) (hk1 : ∀ j, j < k → 128 ≤ t / 128 ^ j)
    (hl : d.length / 256 ^ l = 0) (hl1 : ∀ j, j < l → 0 < d.length / 256 ^ j) (hl8 : l ≤ 7) (hn : d.length ≤ 16777216) :
    ∃ j E, elemS M p = .ok (t : Int) j E ∧ E = p + (encB cl co t k l d).length ∧ elAt M p t j E = ⟨cl, t, co, d, encB cl co t k l d⟩ := by
  have hA1 : At M p (headB cl co t k) := hA.left.left
  have hA2 : At M (p + (headB cl co t k).length) (lenB d.length l) := by
    have : At M p (headB cl co t k ++ (lenB d.length l ++ d)) := by rw [← List.append_assoc]; exact hA
    exact this.right.left
  have hA3 : At M (p + (headB cl co t k ++ lenB d.length l).length) d := hA.right
  rw [List.length_append] at hA3
  obtain ⟨h1, h2, h3⟩ := tagS_head cl co t k hA1 h hk hk1
  have h4 := lenS_lenB d.length l hA2 hl hl1 hl8 hn (by have := hA3.1; omega)
  have hlen : (encB cl co t k l d).length = (headB cl co t k).length + (lenB d.length l).length + d.length := by unfold encB; rw [List.length_append, List.length_append]
  refine ⟨p + (headB cl co t k).length + (lenB d.length l).length, p + (encB cl co t k l d).length, ?_, rfl, ?_⟩
  · unfold elemS
    rw [h1]
    simp only []
    rw [h4]
    simp only [Int.toNat_natCast]
    congr 1
    omega
  · unfold elAt
    rw [h2, h3]
    congr 1
    · have := hA3.take
      rw [show p + (encB cl co t k l d).length - (p + (headB cl co t k).length + (lenB d.length l).length) = d.length by omega, Nat.add_assoc]
      exact this
    · have := hA.take
      rw [show p + (encB cl co t k l d).length - p = (encB cl co t k l d).length by omega]
      exact this
/-- An element that was laid by its own bytes. -/
def Laid (x : El) : Prop := ∃ t k l : Nat, x.tg = t ∧ x.r = encB x.cl x.co t k l x.d ∧ headOk x.cl t = true ∧ t / 128 ^ k < 128 ∧ (∀ j, j < k → 128 ≤ t / 128 ^ j) ∧ x.d.length / 256 ^ l = 0 ∧ (∀ j, j < l → 0 < x.d.length / 256 ^ j) ∧ l ≤ 7 ∧ x.d.length ≤ 16777216
def rawOf (L : List El) : List Int := L.flatMap (·.r)
theorem encB_pos (cl : Int) (co : Bool) (t k l : Nat) (d : List Int) : 0 < (encB cl co t k l d).length := by
  unfold encB; rw [List.length_append, List.length_append, headB_len]; split <;> omega
theorem spl_laid {M : List Int} (hM : U8s M) : ∀ (L2 L1 : List El), (∀ x ∈ L2, Laid x) → M = rawOf (L1 ++ L2) → (L1 ++ L2).length ≤ 65536 → spl M (rawOf L1).length L1 = .ok (L1 ++ L2)
  | [], L1, _, hE, _ => by rw [List.append_nil] at hE ⊢; exact spl_end (by rw [hE]; omega)
  | x :: L2, L1, hL, hE, hlen => by
    obtain ⟨t, k, l, h1, h2, h3, h4, h5, h6, h7, h8, h9⟩ := hL x (by simp)
    have hR : rawOf (L1 ++ x :: L2) = rawOf L1 ++ (x.r ++ rawOf L2) := by unfold rawOf; simp
    have hA0 : At M 0 (rawOf L1 ++ (x.r ++ rawOf L2)) := by rw [← hR, ← hE]; exact ⟨by omega, fun q _ => by rw [Nat.zero_add]⟩
    have hA : At M (rawOf L1).length x.r := by have := hA0.right.left; rw [Nat.zero_add] at this; exact this
    rw [h2] at hA
    obtain ⟨j, E, e1, e2, e3⟩ := elem_enc x.cl x.co t k l x.d hA h3 h4 h5 h6 h7 h8 h9
    have hpos := encB_pos x.cl x.co t k l x.d
    have hlt : (rawOf L1).length < M.length := by have := hA.1; omega
    rw [spl_ok hM hlt (by simp at hlen; omega) e1, e3, e2]
    have hx : (⟨x.cl, (t : Int), x.co, x.d, encB x.cl x.co t k l x.d⟩ : El) = x := by rw [← h1, ← h2]
    rw [hx]
    have := spl_laid hM L2 (L1 ++ [x]) (fun y hy => hL y (by simp [hy])) (by rw [hE]; simp) (by simpa using hlen)
    have hl2 : (rawOf (L1 ++ [x])).length = (rawOf L1).length + (encB x.cl x.co t k l x.d).length := by unfold rawOf; simp; rw [h2]
    rw [hl2] at this
    simpa using this
theorem split_laid {M : List Int} (hM : U8s M) (L : List El) (hL : ∀ x ∈ L, Laid x) (hE : M = rawOf L) (hlen : L.length ≤ 65536) (hn : M.length ≤ 16777216) : splitS M = .ok L := by
  unfold splitS
  rw [if_neg (by omega)]
  exact spl_laid hM L [] hL hE hlen
end Go.Proofs.YtedoghjefdkmaaaGreat
/-
  append onto an empty slice without room, whatever it points at; steps of regions that draw their order.
-/
namespace Go.Proofs.YtedoghjefdkmaaaGreat
open Go.RowKit
/-- A row of the call's own, or a slice that is empty. -/
def Rw (k : IntKind) (e : TypeId) (B : Nat) (w : World) (v : Value) (xs : List Int) : Prop := Row k e B w v xs ∨ (xs = [] ∧ ∃ a c, v = .slice a 0 c)
theorem Rw.sl {k : IntKind} {e : TypeId} {B : Nat} {w : World} {v : Value} {xs : List Int} (h : Rw k e B w v xs) : Sl k w v xs := by
  rcases h with h | ⟨rfl, a, c, rfl⟩
  · exact h.sl
  · exact ⟨a, c, rfl, Nat.zero_le _, .inl rfl⟩
theorem Rw.below {k : IntKind} {e : TypeId} {B : Nat} {w w' : World} {v : Value} {xs : List Int} (h : Rw k e B w v xs) (hb : Below w.heap.size w w') : Rw k e B w' v xs := by
  rcases h with h | h
  · exact .inl (h.below hb)
  · exact .inr h
theorem Rw.alloc {k : IntKind} {e : TypeId} {B : Nat} {w : World} {v : Value} {xs : List Int} (h : Rw k e B w v xs) (o : Obj) : Rw k e B (w.alloc o) v xs := h.below ((Below.refl _ _).alloc (Nat.le_refl _) o)
theorem Rw.mono {k : IntKind} {e : TypeId} {B B' : Nat} {w : World} {v : Value} {xs : List Int} (h : Rw k e B w v xs) (hb : B' ≤ B) : Rw k e B' w v xs := by
  rcases h with h | h
  · exact .inl (h.mono hb)
  · exact .inr h
theorem Rw.ne {k : IntKind} {e : TypeId} {B : Nat} {w : World} {v : Value} {xs : List Int} (h : Rw k e B w v xs) : ∃ a c, v = .slice a xs.length c := by
  rcases h with h | ⟨rfl, a, c, rfl⟩
  · exact h.ne
  · exact ⟨a, c, rfl⟩
theorem run_ap0 {P : Program} (w : World) (t tx ty e : TypeId) (i : TypeInfo) (k : IntKind) (ht : P.underlying t = some (.slice e)) (hi : P.info? e = some i) (hz : i.zero = some (.int k 0)) (hsize : i.size = 1) (hby : 0 < i.bytes)
    (a : Addr) {B : Nat} {x : Value} {ys : List Int} (hs : Src P 1 tx x ys.length (ys.map (Value.int k)) w) (hb : ys.length * i.bytes ≤ 140737488355328) (hB : B ≤ w.heap.size) :
    ∃ v' w', (Builtin.append_ #[t, tx] ty #[.slice (some a) 0 0, x]).run P w = .ok v' w' ∧ Rw k e B w' v' ys ∧ Below w.heap.size w w' := by
  have hle : ys.length ≤ 140737488355328 := Nat.le_trans (Nat.le_mul_of_pos_right _ hby) hb
  have hs1 : Src P i.size tx x ys.length (ys.map (Value.int k)) w := by rw [hsize]; exact hs
  by_cases h0 : ys.length = 0
  · have hy : ys = [] := List.eq_nil_of_length_eq_zero h0
    subst hy
    refine ⟨.slice (some a) 0 0, w, ?_, .inr ⟨rfl, _, _, rfl⟩, Below.refl _ _⟩
    have h1 := hs1.cells
    have h2 := hs1.len
    simp only [List.length_nil, List.map_nil] at h1 h2
    rcases hs1.kind with ⟨e', hk⟩ | hk
    · simp [Builtin.append_, run_underlying ht, run_underlying hk, sizeOf, typeInfo, hi, h2, h1, storeCells]
    · simp [Builtin.append_, run_underlying ht, run_underlying hk, sizeOf, typeInfo, hi, h2, h1, storeCells]
  · have hold : (Builtin.firstCells i.size 0 (.slice (some a) 0 0)).run P w.drew = .ok ([] : List Value).toArray w.drew := run_firstCells_some w.drew i.size 0 a 0 0 [] (by simp) (by simp)
    have h1 := run_append_grow_src (P := P) w t tx ty e i (.int k 0) ht hi hz (some a) 0 0 _ hold x ys.length _ hs1 (by omega) (by omega) (growslice_fits (by omega) (by rw [Nat.zero_add]; exact hb))
    refine ⟨_, _, h1, .inl ?_, (Below.refl _ _).drew.alloc (Nat.le_refl _) _⟩
    have hge := grownCap_ge w (0 + ys.length) 0 e
    have hcm : grownCap w (0 + ys.length) 0 e ≤ maxLen := grownCap_le_maxLen w _ 0 e (by unfold maxLen; omega)
    obtain ⟨C, hC⟩ : ∃ C, grownCap w (0 + ys.length) 0 e = 0 + ys.length + C := ⟨_, (Nat.add_sub_of_le hge).symm⟩
    rw [hC] at hcm ⊢
    have hzc : Builtin.zeroCells (Value.cells (.int k 0)) C = (List.replicate C (.int k 0)).toArray := by
      apply Array.ext'
      simp only [Builtin.zeroCells, Value.cells]
      simp
      rw [List.eq_replicate_iff]
      exact ⟨by simp, fun y hy => by obtain ⟨j, _, rfl⟩ := List.mem_map.1 hy; simp [Nat.mod_one]⟩
    refine .inr ⟨w.heap.size, ys ++ List.replicate C 0, ?_, hB, ?_, by simp, List.take_left, by simp; omega⟩
    · simp
    · unfold Arr
      rw [show 0 + ys.length + C - (0 + ys.length) = C by omega, hzc]
      have := heap_alloc_new w.drew (.cells ((ys.map (Value.int k)).toArray ++ (List.replicate C (Value.int k 0)).toArray) e)
      simp only [List.map_append, List.map_replicate]
      rw [show (w.drew.heap.size) = w.heap.size from rfl] at this
      simp only [List.nil_append]
      rw [this]; simp
theorem step_ap0 {P : Program} {ops : Array Oper} {o : Oper} {a : Act} {w : World} {K : Act → World → Prop} {Q : Exit → Act → World → Prop} {E : Prop} (hgd : o.guard = none) (s x : Operand) (t tx : TypeId)
    (ho : o.op = .call { callee := .builtin .append, args := #[s, x], argTypes := #[t, tx] }) (k : IntKind) (e : TypeId) (bytes : Nat) (ht : P.underlying t = some (.slice e))
    (hi : (P.info? e).map (fun i => (i.zero, i.size, i.bytes)) = some (some (.int k 0), 1, bytes)) (hby : 0 < bytes)
    (B : Nat) (ad : Addr) (hs : a.eval s = .slice (some ad) 0 0) (u : Value) (ys : List Int) (hx : a.eval x = u) (hy : Src P 1 tx u ys.length (ys.map (Value.int k)) w)
    (hb : ys.length * bytes ≤ 140737488355328) (hB : B ≤ w.heap.size)
    (h : ∀ v' w', Rw k e B w' v' ys → Below w.heap.size w w' → K (a.put o.dst v') w') : if Region.wanted o (yielded ops a.tmps) = true then Oper.wp P o a w K Q else E := by
  have hw : Region.wanted o (yielded ops a.tmps) = true := by simp [Region.wanted, hgd]
  rw [if_pos hw]
  obtain ⟨i0, hi0, hz0, hz1, hz2⟩ := info_parts hi
  obtain ⟨v', w', hrun, h2, h3⟩ := run_ap0 (P := P) w t tx o.type e i0 k ht hi0 hz0 hz1 (by omega) ad (B := B) hy (by rw [hz2]; exact hb) hB
  unfold Oper.wp execOp
  simp only [ho, resolve, invoke, builtin, Sem.run_bind, Sem.run_pure, Result.andThen_ok, List.map_toArray, List.map_cons, List.map_nil, hs, hx, hrun]
  exact h v' w' h2 h3
theorem step_apm {P : Program} {ops : Array Oper} {o : Oper} {a : Act} {w : World} {K : Act → World → Prop} {Q : Exit → Act → World → Prop} {E : Prop} (hgd : o.guard = none) (s x : Operand) (t tx : TypeId)
    (ho : o.op = .call { callee := .builtin .append, args := #[s, x], argTypes := #[t, tx] }) (m : Nat) (z : Value) (hzs : z.cells.size = m) (e : TypeId) (bytes : Nat) (ht : P.underlying t = some (.slice e))
    (hi : (P.info? e).map (fun i => (i.zero, i.size, i.bytes)) = some (some z, m, bytes)) (hby : 0 < bytes)
    (B : Nat) (v : Value) (n : Nat) (xs : List Value) (hs : a.eval s = v) (hr : MRow m e B w v n xs) (u : Value) (k : Nat) (ys : List Value) (hx : a.eval x = u) (hy : Src P m tx u k ys w)
    (hb : (n + k) * bytes ≤ 140737488355328) (hB : B ≤ w.heap.size)
    (h : ∀ v' w', MRow m e B w' v' (n + k) (xs ++ ys) → MGrew e w w' v → K (a.put o.dst v') w') : if Region.wanted o (yielded ops a.tmps) = true then Oper.wp P o a w K Q else E := by
  have hw : Region.wanted o (yielded ops a.tmps) = true := by simp [Region.wanted, hgd]
  rw [if_pos hw]
  obtain ⟨i0, hi0, hz0, hz1, hz2⟩ := info_parts hi
  obtain ⟨v', w', hrun, h2, h3⟩ := run_apm (P := P) w t tx o.type e i0 m z ht hi0 hz0 hz1 hzs (by omega) hr hy (by rw [hz2]; exact hb) hB
  unfold Oper.wp execOp
  simp only [ho, resolve, invoke, builtin, Sem.run_bind, Sem.run_pure, Result.andThen_ok, List.map_toArray, List.map_cons, List.map_nil, hs, hx, hrun]
  exact h v' w' h2 h3
end Go.Proofs.YtedoghjefdkmaaaGreat
/-
  Der: rows of elements that are read.
-/
namespace Go.Proofs.YtedoghjefdkmaaaGreat
open Go.RowKit
/-- A slice of elements that can be read; the slice itself is the call's own. -/
def TlvR (B : Nat) (w : World) (v : Value) (L : List El) : Prop :=
  ∃ Y : List Tc, Y.map (·.1) = L ∧ MRow 5 105 B w v Y.length (tlvCells Y) ∧ ∀ y ∈ Y, Rw .u8 5 B w y.2.1 y.1.d ∧ Rw .u8 5 B w y.2.2 y.1.r
theorem TlvR.nil (B : Nat) (w : World) : TlvR B w (.slice none 0 0) [] := ⟨[], rfl, MRow.nil _ _ _ _, by simp⟩
theorem TlvR.below {B : Nat} {w w' : World} {v : Value} {L : List El} (h : TlvR B w v L) (hb : Below w.heap.size w w') : TlvR B w' v L := by
  obtain ⟨Y, h1, h2, h3⟩ := h
  exact ⟨Y, h1, h2.below hb, fun y hy => ⟨(h3 y hy).1.below hb, (h3 y hy).2.below hb⟩⟩
theorem TlvR.mono {B B' : Nat} {w : World} {v : Value} {L : List El} (h : TlvR B w v L) (hb : B' ≤ B) : TlvR B' w v L := by
  obtain ⟨Y, h1, h2, h3⟩ := h
  exact ⟨Y, h1, h2.mono hb, fun y hy => ⟨(h3 y hy).1.mono hb, (h3 y hy).2.mono hb⟩⟩
theorem Tlvs.r {B : Nat} {w : World} {v : Value} {L : List El} (h : Tlvs B w v L) : TlvR B w v L := by
  obtain ⟨Y, h1, h2, h3, _⟩ := h
  exact ⟨Y, h1, h2, fun y hy => ⟨.inl (h3 y hy).1, .inl (h3 y hy).2⟩⟩
theorem Rw.mgrew {B : Nat} {w w' : World} {v u : Value} {xs : List Int} (h : Rw .u8 5 B w v xs) (hg : MGrew 105 w w' u) : Rw .u8 5 B w' v xs := by
  rcases h with h | h
  · exact .inl (h.mgrew hg)
  · exact .inr h
end Go.Proofs.YtedoghjefdkmaaaGreat
/-
  Der: the same rows of elements.
-/
namespace Go.Proofs.YtedoghjefdkmaaaGreat
open Go.RowKit
theorem tlvCells_get : ∀ (Y : List Tc) (i q : Nat), q < 5 → (tlvCells Y)[i * 5 + q]? = (Y[i]?).bind fun y => (cell5 y)[q]?
  | [], i, q, _ => by simp [tlvCells]
  | y :: Y, 0, q, hq => by
    have hl : (cell5 y).length = 5 := rfl
    simp only [tlvCells, List.flatMap_cons, Nat.zero_mul, Nat.zero_add, List.getElem?_cons_zero, Option.bind_some]
    rw [List.getElem?_append_left (by omega)]
  | y :: Y, i + 1, q, hq => by
    have hl : (cell5 y).length = 5 := rfl
    have := tlvCells_get Y i q hq
    simp only [tlvCells, List.flatMap_cons, List.getElem?_cons_succ] at this ⊢
    rw [List.getElem?_append_right (by omega), hl, show (i + 1) * 5 + q - 5 = i * 5 + q by omega, this]
/-- A slice that reads elements, with the values by name. -/
def TlvS (w : World) (v : Value) (L : List El) : Prop :=
  ∃ a c Y, v = .slice a L.length c ∧ L.length ≤ c ∧ Y.map (·.1) = L ∧ (L = [] ∨ ∃ b off, a = some ⟨b, off, none⟩ ∧ b < w.heap.size ∧ ∀ i, i < L.length * 5 → w.cell? ⟨b, off + i, none⟩ = (tlvCells Y)[i]?) ∧ ∀ y ∈ Y, Sl .u8 w y.2.1 y.1.d ∧ Sl .u8 w y.2.2 y.1.r
theorem TlvR.s {B : Nat} {w : World} {v : Value} {L : List El} (h : TlvR B w v L) : TlvS w v L := by
  obtain ⟨Y, h1, h2, h3⟩ := h
  have hl : Y.length = L.length := by rw [← h1, List.length_map]
  rw [hl] at h2
  obtain ⟨h0, h2⟩ := h2
  rcases h2 with ⟨rfl, h2⟩ | ⟨b, S, c, rfl, hB, hA, hS, hc, ht, hm⟩
  · have : L = [] := List.eq_nil_of_length_eq_zero h2
    subst this
    exact ⟨none, 0, Y, rfl, Nat.le_refl _, h1, .inl rfl, fun y hy => ⟨(h3 y hy).1.sl, (h3 y hy).2.sl⟩⟩
  · refine ⟨_, _, Y, rfl, hc, h1, .inr ⟨b, 0, rfl, hA.lt, fun i hi => ?_⟩, fun y hy => ⟨(h3 y hy).1.sl, (h3 y hy).2.sl⟩⟩
    rw [Nat.zero_add, hA.cell i, ← ht, List.getElem?_take, if_pos hi]
theorem TlvS.below {w w' : World} {v : Value} {L : List El} (h : TlvS w v L) (hb : Below w.heap.size w w') : TlvS w' v L := by
  obtain ⟨a, c, Y, rfl, h1, h2, h3, h4⟩ := h
  refine ⟨a, c, Y, rfl, h1, h2, ?_, fun y hy => ⟨below_sl hb (h4 y hy).1, below_sl hb (h4 y hy).2⟩⟩
  rcases h3 with h3 | ⟨b, off, rfl, hbl, hr⟩
  · exact .inl h3
  · exact .inr ⟨b, off, rfl, Nat.lt_of_lt_of_le hbl hb.size, fun i hi => (hb.cell (p := ⟨b, off + i, none⟩) hbl).trans (hr i hi)⟩
/-- The five cells of element i. -/
theorem cells_at {w : World} {b off : Nat} {Y : List Tc} {n i : Nat} (hr : ∀ i, i < n * 5 → w.cell? ⟨b, off + i, none⟩ = (tlvCells Y)[i]?) (hi : i < n) (y : Tc) (hy : Y[i]? = some y) (q : Nat) (hq : q < 5) (u : Value) (hu : (cell5 y)[q]? = some u) :
    w.cell? ⟨b, off + i * 5 + q, none⟩ = some u := by
  have h := hr (i * 5 + q) (by omega)
  rw [tlvCells_get Y i q hq, hy, Option.bind_some, hu] at h
  rw [← h]; congr 2; omega
theorem al_d {a w : World} {o : Obj} (h : Below a.heap.size a w.drew) : Below a.heap.size a (w.alloc o).drew := by
  have h1 : Below a.heap.size a w := h.trans ⟨rfl, rfl, rfl, Nat.le_refl _, fun _ _ => rfl⟩
  exact (al2' h1).drew
theorem al_dd {a : World} {o o' : Obj} : Below a.heap.size a ((a.alloc o).alloc o').drew := (al2' (al1 o)).drew
end Go.Proofs.YtedoghjefdkmaaaGreat
