/-
  Der: slices of slices; Put.
-/
import Derived.Test.YtndcpjnfdgojkaaDoorE23
namespace Go.Proofs.YtndcpjnfdgojkaaDoor
open Go.RowKit
/-- The slice v holds the values vs. -/
def SlS (w : World) (v : Value) (vs : List Value) : Prop :=
  ∃ a c, v = .slice a vs.length c ∧ vs.length ≤ c ∧ (vs = [] ∨ ∃ b off, a = some ⟨b, off, none⟩ ∧ b < w.heap.size ∧ ∀ i, i < vs.length → w.cell? ⟨b, off + i, none⟩ = some (vs.getD i undef))
/-- The values are slices that read the lists. -/
def Msgs (w : World) (vs : List Value) (ms : List (List Int)) : Prop := vs.length = ms.length ∧ ∀ i, i < vs.length → Sl .u8 w (vs.getD i undef) (ms.getD i []) ∧ U8s (ms.getD i [])
theorem Msgs.below {w w' : World} {vs : List Value} {ms : List (List Int)} (h : Msgs w vs ms) (hb : Below w.heap.size w w') : Msgs w' vs ms := ⟨h.1, fun i hi => ⟨below_sl hb (h.2 i hi).1, (h.2 i hi).2⟩⟩
theorem SlS.below {w w' : World} {v : Value} {vs : List Value} (h : SlS w v vs) (hb : Below w.heap.size w w') : SlS w' v vs := by
  obtain ⟨a, c, rfl, hc, h⟩ := h
  refine ⟨a, c, rfl, hc, ?_⟩
  rcases h with h | ⟨b, off, rfl, hbl, hr⟩
  · exact .inl h
  · exact .inr ⟨b, off, rfl, Nat.lt_of_lt_of_le hbl hb.size, fun i hi => (hb.cell (p := ⟨b, off + i, none⟩) hbl).trans (hr i hi)⟩
theorem flatten_u8 {ms : List (List Int)} (h : ∀ i, i < ms.length → U8s (ms.getD i [])) : U8s ms.flatten := by
  intro x hx
  obtain ⟨l, hl, hxl⟩ := List.mem_flatten.1 hx
  obtain ⟨i, hi, rfl⟩ := List.mem_iff_getElem.1 hl
  have := h i hi
  simp [hi] at this
  exact this x hxl
theorem flatten_take {ms : List (List Int)} {i : Nat} (hi : i < ms.length) : (ms.take (i + 1)).flatten = (ms.take i).flatten ++ ms.getD i [] := by
  rw [List.take_succ_eq_append_getElem hi, List.flatten_append, List.getD_eq_getElem?_getD, List.getElem?_eq_getElem hi]
  simp only [List.flatten_cons, List.flatten_nil, List.append_nil, Option.getD_some]
theorem flatten_take_le (ms : List (List Int)) (i : Nat) : (ms.take i).flatten.length ≤ ms.flatten.length := by
  have h : ms.flatten = (ms.take i).flatten ++ (ms.drop i).flatten := by rw [← List.flatten_append, List.take_append_drop]
  rw [h, List.length_append]; omega
/-- A slice of slices of bytes, as an argument has it. -/
structure Lists (w : World) (a : Option Addr) (n c : Nat) (vs : List Value) (ms : List (List Int)) : Prop where
  sls : SlS w (.slice a n c) vs
  msgs : Msgs w vs ms
  len : ms.length = n
theorem Lists.at {w : World} {a : Option Addr} {n c : Nat} {vs : List Value} {ms : List (List Int)} (h : Lists w a n c vs ms) (i : Nat) (hi : i < n) :
    ∃ b off ai ni ci, a = some ⟨b, off, none⟩ ∧ b < w.heap.size ∧ vs.getD i undef = .slice ai ni ci ∧ w.cell? ⟨b, off + i, none⟩ = some (.slice ai ni ci) ∧ Sl .u8 w (.slice ai ni ci) (ms.getD i []) ∧ U8s (ms.getD i []) ∧ (ms.getD i []).length = ni := by
  have hv : vs.length = n := by rw [h.msgs.1, h.len]
  obtain ⟨a', c', hva, hc, hx⟩ := h.sls
  simp only [Value.slice.injEq] at hva
  obtain ⟨rfl, _, rfl⟩ := hva
  rcases hx with hx | ⟨b, off, rfl, hb, hcell⟩
  · rw [hx] at hv; simp at hv; omega
  · have h1 := (h.msgs.2 i (by omega))
    obtain ⟨ai, ci, hvi, hci, hxi⟩ := h1.1
    refine ⟨b, off, ai, _, ci, rfl, hb, hvi, ?_, ?_, h1.2, rfl⟩
    · rw [hcell i (by omega), hvi]
    · rw [← hvi]; exact h1.1
theorem Lists.below {w w' : World} {a : Option Addr} {n c : Nat} {vs : List Value} {ms : List (List Int)} (h : Lists w a n c vs ms) (hb : Below w.heap.size w w') : Lists w' a n c vs ms := ⟨h.sls.below hb, h.msgs.below hb, h.len⟩
/-- 'make([]T, 0, n)': room for n in a block of its own. -/
theorem wpList_mk0 {P : Program} (w : World) {ops : Array Oper} {rest : List Oper} {o : Oper} {a : Act} {Q : Exit → Act → World → Prop} (hg : o.guard = none) (l c : Operand) (t : TypeId) (hop : o.op = .makeSlice t l c)
    (k : IntKind) (e : TypeId) (bytes : Nat) (ht : P.underlying t = some (.slice e)) (hi : (P.info? e).map (fun i => (i.zero, i.size, i.bytes)) = some (some (.int k 0), 1, bytes))
    (C : Int) (n : Nat) (hl : a.eval l = .int .i64 0) (hc : a.eval c = .int .i64 C) (hC : C = n) (hb : bytes * n ≤ 281474976710656) (hm : n ≤ 1152921504606846976)
    (hK : ∀ w', Row k e w.heap.size w' (.slice (some ⟨w.heap.size, 0, none⟩) 0 n) [] → Below w.heap.size w w' → wpList P ops Q rest (a.put o.dst (.slice (some ⟨w.heap.size, 0, none⟩) 0 n)) w') :
    wpList P ops Q (o :: rest) a w := by
  obtain ⟨i0, hi0, hz0, hz1, hz2⟩ := info_parts hi
  subst hC
  refine wpList_plain hg fun K hK' => ?_
  have hb' : (i0.bytes : Int) * (n : Int) ≤ 281474976710656 := by
    have h : ((i0.bytes * n : Nat) : Int) ≤ 281474976710656 := by rw [hz2]; omega
    rwa [Int.natCast_mul] at h
  have hr := run_make (P := P) w t e i0 (.int k 0) ht hi0 hz0 .i64 .i64 0 n (Int.le_refl _) (by omega) hb' (by omega)
  simp only [Int.toNat_zero, Int.toNat_natCast, hz1] at hr
  have hA : Arr k e (w.alloc (.cells (madeCells (Value.int k 0).cells (n * 1)) e)) w.heap.size (List.replicate n 0) := arr_nw rfl (by
    have e1 : (madeCells (Value.int k 0).cells (n * 1)).toList = List.replicate n (.int k 0) := by rw [Nat.mul_one]; exact toList_madeCells_one (.int k 0) n
    rw [toArray_of_toList e1]; simp)
  unfold Oper.wp
  simp [execOp, hop, hl, hc, hr, Result.andThen]
  refine hK' _ _ (hK _ (.inr ⟨w.heap.size, List.replicate n 0, by simp, Nat.le_refl _, ?_, by simp, by simp, by simp [maxLen]; omega⟩) (al1 _))
  simpa using hA
set_option maxHeartbeats 1000000 in
theorem Put_no {w : World} (c t : Int) (cons : Bool) (v : Value) (h : headOk c t = false) :
    Calls Tryd.prog 33 #[.int .i64 c, .int .i64 t, .bool cons, v] w fun e w' => e = .returned (.tuple #[.slice none 0 0, .int .i64 1]) ∧ w = w' := by
  have HH : Hid (headOk c t = false) := h
  clear h
  go_enter Tryd.func33, Tryd.ntmps33
  go_wp2_with (go_at_call 51; refine (isHead_any c t).mono ?_; rintro e w1 ⟨rfl, rfl⟩; rw [HH.out])
  go_ret2
  exact ⟨rfl, rfl⟩
set_option maxRecDepth 20000 in
set_option maxHeartbeats 4000000 in
theorem Put_any {w : World} (c : Int) (t k l : Nat) (cons : Bool) (a : Option Addr) (n cp N : Nat) (vs : List Value) (ms : List (List Int)) (hL : Lists w a n cp vs ms) (hN : ms.flatten.length = N) (hN1 : N ≤ 16777216) (hn : n ≤ 1152921504606846976) (h : headOk c t = true)
    (hk : t / 128 ^ k < 128) (hk1 : ∀ j, j < k → 128 ≤ t / 128 ^ j) (hk8 : k ≤ 8) (hl : N / 256 ^ l = 0) (hl1 : ∀ j, j < l → 0 < N / 256 ^ j) (hl8 : l ≤ 7) :
    Calls Tryd.prog 33 #[.int .i64 c, .int .i64 t, .bool cons, .slice a n cp] w fun e w' => ∃ r, e = .returned (.tuple #[r, .int .i64 0]) ∧ Row .u8 5 w.heap.size w' r (headB c cons t k ++ lenB N l ++ ms.flatten) ∧ Below w.heap.size w w' := by
  have HH : Hid (headOk c t = true) := h
  have hh : 0 ≤ c ∧ c ≤ 3 ∧ t ≤ 268435455 := by unfold headOk at h; simp at h; omega
  have HK : Hid ((t / 128 ^ k < 128 ∧ ∀ j, j < k → 128 ≤ t / 128 ^ j) ∧ (N / 256 ^ l = 0 ∧ ∀ j, j < l → 0 < N / 256 ^ j) ∧ 0 ≤ c ∧ c ≤ 3 ∧ t ≤ 268435455) := ⟨⟨hk, hk1⟩, ⟨hl, hl1⟩, hh⟩
  have HL : Hid (Lists w a n cp vs ms ∧ ms.flatten.length = N) := ⟨hL, hN⟩
  clear h hk hk1 hl hl1 hL hh hN
  have n1 : (n : Int) ≤ 1152921504606846976 := by omega
  go_enter Tryd.func33, Tryd.ntmps33
  go_wp2_with (go_at_call 51; refine (isHead_any c t).mono ?_; rintro e w1 ⟨rfl, rfl⟩; rw [HH.out])
  go_loopw [10, 23] (fun nv iv wr => ∃ i q : Nat, nv = .int .i64 q ∧ iv = .int .i64 i ∧ i ≤ n ∧ (ms.take i).flatten.length = q ∧ w = wr) (fun _ iv _ => n - (intOf iv).toNat)
  case atStart => exact ⟨0, 0, rfl, rfl, by omega, by simp, rfl⟩
  case round =>
    obtain ⟨i, q, rfl, rfl, hi, hq, rfl⟩ := hrel
    have HQ : Hid ((ms.take i).flatten.length = q) := hq
    have hqN : q ≤ N := by have := flatten_take_le ms i; have := HL.out.2; omega
    clear hq
    by_cases hlt : i < n
    · have l1 : (i : Int) < (n : Int) := by omega
      obtain ⟨b, off, ai, ni, ci, rfl, hb, hvi, hcell, hsl, hu, hni⟩ := HL.out.1.at i hlt
      have HI : Hid ((ms.take (i + 1)).flatten.length = q + ni) := by
        show _ = _
        rw [flatten_take (by have := HL.out.1.len; omega), List.length_append, HQ.out, hni]
      have hq2 : q + ni ≤ N := by have := flatten_take_le ms (i + 1); rw [HI.out] at this; have := HL.out.2; omega
      clear hvi hsl hu hni
      go_wp2
      go_roundw
      case rel => exact ⟨i + 1, q + ni, by go_num, by go_num, by omega, HI.out, trivial⟩
      case measure => simp [intOf]; omega
    · obtain rfl : i = n := by omega
      have hqe : q = N := by
        have h1 := HQ.out
        rw [List.take_of_length_le (by have := HL.out.1.len; omega), HL.out.2] at h1
        omega
      subst hqe
      have l1 : ¬ (i : Int) < (i : Int) := by omega
      have l2 : ¬ (16777216 : Int) < (q : Int) := by omega
      go_wp2_with fail
      refine (head_any c cons t k HK.out.2.2.1 HK.out.2.2.2.1 HK.out.1.1 HK.out.1.2 hk8 HK.out.2.2.2.2).mono ?_
      rintro e w1 ⟨r1, rfl, hr1, hb1⟩
      have H1 : Hid (Row .u8 5 w.heap.size w1 r1 (headB c cons t k) ∧ Below w.heap.size w w1) := ⟨hr1, hb1⟩
      clear hr1 hb1
      go_wp2_with fail
      refine (length_any q l HK.out.2.1.1 HK.out.2.1.2 hl8 (by omega)).mono ?_
      rintro e w2 ⟨r2, rfl, hr2, hb2⟩
      have H2 : Hid (Row .u8 5 w.heap.size w2 r1 (headB c cons t k) ∧ Sl .u8 w2 r2 (lenB q l) ∧ Below w.heap.size w w2) := ⟨H1.out.1.below hb2, hr2.sl, below_via H1.out.2 hb2 (Nat.le_refl _)⟩
      clear hr2 hb2
      obtain ⟨F, hF⟩ : ∃ F, headB c cons t k ++ lenB q l = F := ⟨_, rfl⟩
      have HF : Hid (headB c cons t k ++ lenB q l = F) := hF
      have hFl : F.length ≤ 20 := by rw [← hF]; unfold headB lenB sev; split <;> split <;> simp [tp_len, tb_len] <;> omega
      have hF0 : (headB c cons t k).length + (lenB q l).length = F.length := by rw [← hF]; simp
      clear hF
      obtain ⟨f, hf⟩ : ∃ f, F.length = f := ⟨_, rfl⟩
      have HFl : Hid (F.length = f) := hf
      rw [hf] at hFl hF0
      clear hf
      obtain ⟨m, hm⟩ : ∃ m : Nat, f + q = m := ⟨_, rfl⟩
      have hfq : (f : Int) + (q : Int) = (m : Int) := by omega
      go_upto_region 12 with ((at_builtin; refine wpList_ap rfl (.tmp 37) (.tmp 39) 22 22 rfl .u8 5 1 Tryd.und8 Tryd.info8 (by decide) w.heap.size _ (headB c cons t k) rfl H2.out.1 _ (lenB q l) rfl (src_sl Tryd.und8 H2.out.2.1) (by omega) H2.out.2.2.size ?_; intro v3 w3 hr3 hg3; rw [HF.out] at hr3; obtain ⟨a3, c3, hv3⟩ := hr3.ne; rw [HFl.out] at hv3; subst hv3))
      have hb3 : Below w.heap.size w w3 := H2.out.2.2.trans (hg3.below H2.out.1 H2.out.2.2.size)
      have H3 : Hid (Row .u8 5 w.heap.size w3 (.slice a3 f c3) F ∧ Below w.heap.size w w3) := ⟨hr3, hb3⟩
      clear hr3 hg3 hb3 hF0
      go_upto_region 13 with ((at_make; refine wpList_mk0 _ rfl _ _ 22 rfl .u8 5 1 Tryd.und8 Tryd.info8 _ m rfl rfl (by omega) (by omega) (by omega) ?_; intro w4 hr4 hb4))
      have H4 : Hid (Row .u8 5 w.heap.size w4 (.slice (some ⟨w3.heap.size, 0, none⟩) 0 m) [] ∧ Sl .u8 w4 (.slice a3 f c3) F ∧ Below w.heap.size w w4) := ⟨hr4.mono H3.out.2.size, below_sl hb4 H3.out.1.sl, below_via H3.out.2 hb4 (Nat.le_refl _)⟩
      clear hr4 hb4
      go_wp2_with (at_builtin; refine wpList_ap rfl (.tmp 46) (.tmp 47) 22 22 rfl .u8 5 1 Tryd.und8 Tryd.info8 (by decide) w.heap.size _ [] rfl H4.out.1 _ F rfl (src_sl Tryd.und8 H4.out.2.1) (by have := HFl.out; simp; omega) H4.out.2.2.size ?_; intro v5 w5 hr5 hg5)
      have hb5 : Below w.heap.size w w5 := H4.out.2.2.trans (hg5.below H4.out.1 H4.out.2.2.size)
      have H5 : Hid (Row .u8 5 w.heap.size w5 v5 F ∧ Below w.heap.size w w5) := ⟨by simpa using hr5, hb5⟩
      clear hr5 hg5 hb5
      go_wp2_with fail
      go_loopw [14, 51] (fun bv iv wr => ∃ (j : Nat) (b0 : Value), b0 = bv ∧ iv = .int .i64 j ∧ j ≤ i ∧ Row .u8 5 w.heap.size wr b0 (F ++ (ms.take j).flatten) ∧ Below w.heap.size w wr) (fun _ iv _ => i - (intOf iv).toNat)
      case atStart => exact ⟨0, _, rfl, rfl, by omega, by simpa using H5.out.1, H5.out.2⟩
      case round =>
        clear l1
        obtain ⟨j, b0, rfl, rfl, hj, hr6, hb6⟩ := hrel
        have H6 : Hid (Row .u8 5 w.heap.size wr b0 (F ++ (ms.take j).flatten) ∧ Below w.heap.size w wr) := ⟨hr6, hb6⟩
        clear hr6
        by_cases hlt : j < i
        · have l1 : (j : Int) < (i : Int) := by omega
          obtain ⟨b, off, ai, ni, ci, rfl, hb, hvi, hcell, hsl, hu, hni⟩ := HL.out.1.at j hlt
          have hcr : wr.cell? ⟨b, off + j, none⟩ = some (.slice ai ni ci) := (hb6.cell (p := ⟨b, off + j, none⟩) hb).trans hcell
          have HI : Hid ((ms.take (j + 1)).flatten = (ms.take j).flatten ++ ms.getD j [] ∧ Sl .u8 wr (.slice ai ni ci) (ms.getD j []) ∧ F.length + (ms.take j).flatten.length + (ms.getD j []).length ≤ 20 + 16777216) := by
            refine ⟨flatten_take (by have := HL.out.1.len; omega), below_sl hb6 hsl, ?_⟩
            have h1 := flatten_take_le ms (j + 1)
            rw [flatten_take (by have := HL.out.1.len; omega), List.length_append, HL.out.2] at h1
            have := HFl.out
            omega
          clear hvi hsl hu hni hcell hb6
          go_wp2_with (at_builtin; refine wpList_ap rfl (.tmp 55) (.tmp 56) 22 22 rfl .u8 5 1 Tryd.und8 Tryd.info8 (by decide) w.heap.size _ (F ++ (ms.take j).flatten) rfl H6.out.1 _ (ms.getD j []) rfl (src_sl Tryd.und8 HI.out.2.1) (by have := HI.out.2.2; simp only [List.length_append]; omega) H6.out.2.size ?_; intro v7 w7 hr7 hg7)
          have hb7 : Below w.heap.size w w7 := H6.out.2.trans (hg7.below H6.out.1 H6.out.2.size)
          have H7 : Hid (Row .u8 5 w.heap.size w7 v7 (F ++ (ms.take (j + 1)).flatten) ∧ Below w.heap.size w w7) := ⟨by rw [HI.out.1, ← List.append_assoc]; exact hr7, hb7⟩
          clear hr7 hg7 hb7
          go_roundw
          case rel => exact ⟨j + 1, _, rfl, by go_num, by omega, H7.out.1, H7.out.2⟩
          case measure => simp [intOf]; omega
        · obtain rfl : j = i := by omega
          have l1 : ¬ (j : Int) < (j : Int) := by omega
          have HE : Hid (ms.take j = ms) := List.take_of_length_le (by have := HL.out.1.len; omega)
          clear hb6
          go_wp2
          go_ret2
          refine ⟨_, rfl, ?_, H6.out.2⟩
          have := H6.out.1
          rw [HE.out, ← HF.out, List.append_assoc] at this
          exact this
end Go.Proofs.YtndcpjnfdgojkaaDoor
