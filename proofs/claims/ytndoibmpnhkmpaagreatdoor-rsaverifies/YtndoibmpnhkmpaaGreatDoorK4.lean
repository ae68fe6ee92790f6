/-
  Der: slices of slices; Put.
-/
import Derived.Laws.RangeAny
import Derived.Lib.Strings
import Derived.Test.YtndoibmpnhkmpaaGreatDoorK3
namespace Go.Proofs.YtndoibmpnhkmpaaGreatDoor
open Go.RowKit
/-- The slice v holds the values vs. -/
def SlS (w : World) (v : Value) (vs : List Value) : Prop :=
  ∃ a c, v = .slice a vs.length c ∧ vs.length ≤ c ∧ (vs = [] ∨ ∃ b off, a = some ⟨b, off, none⟩ ∧ b < w.heap.size ∧ ∀ i, i < vs.length → w.cell? ⟨b, off + i, none⟩ = some (vs.getD i undef))
/-- The values are slices that read the lists. -/
def Msgs (w : World) (vs : List Value) (ms : List (List Int)) : Prop := vs.length = ms.length ∧ ∀ i, i < vs.length → Sl .u8 w (vs.getD i undef) (ms.getD i []) ∧ U8s (ms.getD i [])
theorem Msgs.below {w w' : World} {vs : List Value} {ms : List (List Int)} (h : Msgs w vs ms) (hb : Below w.heap.size w w') : Msgs w' vs ms := ⟨h.1, fun i hi => ⟨below_sl hb (h.2 i hi).1, (h.2 i hi).2⟩⟩
theorem SlS.below {w w' : World} {v : Value} {vs : List Value} (h : SlS w v vs) (hb : Below w.heap.size w w') : SlS w' v vs := by
  obtain ⟨a, c, rfl, hc, h⟩ := h
  refine ⟨a, c, rfl, hc, ?_⟩
  rcases h with h | ⟨b, off, rfl, hbl, hr⟩
  · exact .inl h
  · exact .inr ⟨b, off, rfl, Nat.lt_of_lt_of_le hbl hb.size, fun i hi => (hb.cell (p := ⟨b, off + i, none⟩) hbl).trans (hr i hi)⟩
theorem flatten_u8 {ms : List (List Int)} (h : ∀ i, i < ms.length → U8s (ms.getD i [])) : U8s ms.flatten := by
  intro x hx
  obtain ⟨l, hl, hxl⟩ := List.mem_flatten.1 hx
  obtain ⟨i, hi, rfl⟩ := List.mem_iff_getElem.1 hl
  have := h i hi
  simp [hi] at this
  exact this x hxl
theorem flatten_take {ms : List (List Int)} {i : Nat} (hi : i < ms.length) : (ms.take (i + 1)).flatten = (ms.take i).flatten ++ ms.getD i [] := by
  rw [List.take_succ_eq_append_getElem hi, List.flatten_append, List.getD_eq_getElem?_getD, List.getElem?_eq_getElem hi]
  simp only [List.flatten_cons, List.flatten_nil, List.append_nil, Option.getD_some]
theorem flatten_take_le (ms : List (List Int)) (i : Nat) : (ms.take i).flatten.length ≤ ms.flatten.length := by
  have h : ms.flatten = (ms.take i).flatten ++ (ms.drop i).flatten := by rw [← List.flatten_append, List.take_append_drop]
  rw [h, List.length_append]; omega
/-- A slice of slices of bytes, as an argument has it. -/
structure Lists (w : World) (a : Option Addr) (n c : Nat) (vs : List Value) (ms : List (List Int)) : Prop where
  sls : SlS w (.slice a n c) vs
  msgs : Msgs w vs ms
  len : ms.length = n
theorem Lists.at {w : World} {a : Option Addr} {n c : Nat} {vs : List Value} {ms : List (List Int)} (h : Lists w a n c vs ms) (i : Nat) (hi : i < n) :
    ∃ b off ai ni ci, a = some ⟨b, off, none⟩ ∧ b < w.heap.size ∧ vs.getD i undef = .slice ai ni ci ∧ w.cell? ⟨b, off + i, none⟩ = some (.slice ai ni ci) ∧ Sl .u8 w (.slice ai ni ci) (ms.getD i []) ∧ U8s (ms.getD i []) ∧ (ms.getD i []).length = ni := by
  have hv : vs.length = n := by rw [h.msgs.1, h.len]
  obtain ⟨a', c', hva, hc, hx⟩ := h.sls
  simp only [Value.slice.injEq] at hva
  obtain ⟨rfl, _, rfl⟩ := hva
  rcases hx with hx | ⟨b, off, rfl, hb, hcell⟩
  · rw [hx] at hv; simp at hv; omega
  · have h1 := (h.msgs.2 i (by omega))
    obtain ⟨ai, ci, hvi, hci, hxi⟩ := h1.1
    refine ⟨b, off, ai, _, ci, rfl, hb, hvi, ?_, ?_, h1.2, rfl⟩
    · rw [hcell i (by omega), hvi]
    · rw [← hvi]; exact h1.1
theorem Lists.below {w w' : World} {a : Option Addr} {n c : Nat} {vs : List Value} {ms : List (List Int)} (h : Lists w a n c vs ms) (hb : Below w.heap.size w w') : Lists w' a n c vs ms := ⟨h.sls.below hb, h.msgs.below hb, h.len⟩
/-- 'make([]T, 0, n)': room for n in a block of its own. -/
theorem wpList_mk0 {P : Program} (w : World) {ops : Array Oper} {rest : List Oper} {o : Oper} {a : Act} {Q : Exit → Act → World → Prop} (hg : o.guard = none) (l c : Operand) (t : TypeId) (hop : o.op = .makeSlice t l c)
    (k : IntKind) (e : TypeId) (bytes : Nat) (ht : P.underlying t = some (.slice e)) (hi : (P.info? e).map (fun i => (i.zero, i.size, i.bytes)) = some (some (.int k 0), 1, bytes))
    (C : Int) (n : Nat) (hl : a.eval l = .int .i64 0) (hc : a.eval c = .int .i64 C) (hC : C = n) (hb : bytes * n ≤ 281474976710656) (hm : n ≤ 1152921504606846976)
    (hK : ∀ w', Row k e w.heap.size w' (.slice (some ⟨w.heap.size, 0, none⟩) 0 n) [] → Below w.heap.size w w' → wpList P ops Q rest (a.put o.dst (.slice (some ⟨w.heap.size, 0, none⟩) 0 n)) w') :
    wpList P ops Q (o :: rest) a w := by
  obtain ⟨i0, hi0, hz0, hz1, hz2⟩ := info_parts hi
  subst hC
  refine wpList_plain hg fun K hK' => ?_
  have hb' : (i0.bytes : Int) * (n : Int) ≤ 281474976710656 := by
    have h : ((i0.bytes * n : Nat) : Int) ≤ 281474976710656 := by rw [hz2]; omega
    rwa [Int.natCast_mul] at h
  have hr := run_make (P := P) w t e i0 (.int k 0) ht hi0 hz0 .i64 .i64 0 n (Int.le_refl _) (by omega) hb' (by omega)
  simp only [Int.toNat_zero, Int.toNat_natCast, hz1] at hr
  have hA : Arr k e (w.alloc (.cells (madeCells (Value.int k 0).cells (n * 1)) e)) w.heap.size (List.replicate n 0) := arr_nw rfl (by
    have e1 : (madeCells (Value.int k 0).cells (n * 1)).toList = List.replicate n (.int k 0) := by rw [Nat.mul_one]; exact toList_madeCells_one (.int k 0) n
    rw [toArray_of_toList e1]; simp)
  unfold Oper.wp
  simp [execOp, hop, hl, hc, hr, Result.andThen]
  refine hK' _ _ (hK _ (.inr ⟨w.heap.size, List.replicate n 0, by simp, Nat.le_refl _, ?_, by simp, by simp, by simp [maxLen]; omega⟩) (al1 _))
  simpa using hA
set_option maxHeartbeats 1000000 in
theorem Put_no {w : World} (c t : Int) (cons : Bool) (v : Value) (h : headOk c t = false) :
    Calls Tryz.prog 121 #[.int .i64 c, .int .i64 t, .bool cons, v] w fun e w' => e = .returned (.tuple #[.slice none 0 0, .int .i64 1]) ∧ w = w' := by
  have HH : Hid (headOk c t = false) := h
  clear h
  go_enter Tryz.func121, Tryz.ntmps121
  go_wp2_with (go_at_call 131; refine (isHead_any c t).mono ?_; rintro e w1 ⟨rfl, rfl⟩; rw [HH.out])
  go_ret2
  exact ⟨rfl, rfl⟩
set_option maxRecDepth 20000 in
set_option maxHeartbeats 4000000 in
theorem Put_any {w : World} (c : Int) (t k l : Nat) (cons : Bool) (a : Option Addr) (n cp N : Nat) (vs : List Value) (ms : List (List Int)) (hL : Lists w a n cp vs ms) (hN : ms.flatten.length = N) (hN1 : N ≤ 16777216) (hn : n ≤ 1152921504606846976) (h : headOk c t = true)
    (hk : t / 128 ^ k < 128) (hk1 : ∀ j, j < k → 128 ≤ t / 128 ^ j) (hk8 : k ≤ 8) (hl : N / 256 ^ l = 0) (hl1 : ∀ j, j < l → 0 < N / 256 ^ j) (hl8 : l ≤ 7) :
    Calls Tryz.prog 121 #[.int .i64 c, .int .i64 t, .bool cons, .slice a n cp] w fun e w' => ∃ r, e = .returned (.tuple #[r, .int .i64 0]) ∧ Row .u8 5 w.heap.size w' r (headB c cons t k ++ lenB N l ++ ms.flatten) ∧ Below w.heap.size w w' := by
  have HH : Hid (headOk c t = true) := h
  have hh : 0 ≤ c ∧ c ≤ 3 ∧ t ≤ 268435455 := by unfold headOk at h; simp at h; omega
  have HK : Hid ((t / 128 ^ k < 128 ∧ ∀ j, j < k → 128 ≤ t / 128 ^ j) ∧ (N / 256 ^ l = 0 ∧ ∀ j, j < l → 0 < N / 256 ^ j) ∧ 0 ≤ c ∧ c ≤ 3 ∧ t ≤ 268435455) := ⟨⟨hk, hk1⟩, ⟨hl, hl1⟩, hh⟩
  have HL : Hid (Lists w a n cp vs ms ∧ ms.flatten.length = N) := ⟨hL, hN⟩
  clear h hk hk1 hl hl1 hL hh hN
  have n1 : (n : Int) ≤ 1152921504606846976 := by omega
  go_enter Tryz.func121, Tryz.ntmps121
  go_wp2_with (go_at_call 131; refine (isHead_any c t).mono ?_; rintro e w1 ⟨rfl, rfl⟩; rw [HH.out])
  go_loopw [10, 23] (fun nv iv wr => ∃ i q : Nat, nv = .int .i64 q ∧ iv = .int .i64 i ∧ i ≤ n ∧ (ms.take i).flatten.length = q ∧ w = wr) (fun _ iv _ => n - (intOf iv).toNat)
  case atStart => exact ⟨0, 0, rfl, rfl, by omega, by simp, rfl⟩
  case round =>
    obtain ⟨i, q, rfl, rfl, hi, hq, rfl⟩ := hrel
    have HQ : Hid ((ms.take i).flatten.length = q) := hq
    have hqN : q ≤ N := by have := flatten_take_le ms i; have := HL.out.2; omega
    clear hq
    by_cases hlt : i < n
    · have l1 : (i : Int) < (n : Int) := by omega
      obtain ⟨b, off, ai, ni, ci, rfl, hb, hvi, hcell, hsl, hu, hni⟩ := HL.out.1.at i hlt
      have HI : Hid ((ms.take (i + 1)).flatten.length = q + ni) := by
        show _ = _
        rw [flatten_take (by have := HL.out.1.len; omega), List.length_append, HQ.out, hni]
      have hq2 : q + ni ≤ N := by have := flatten_take_le ms (i + 1); rw [HI.out] at this; have := HL.out.2; omega
      clear hvi hsl hu hni
      go_wp2
      go_roundw
      case rel => exact ⟨i + 1, q + ni, by go_num, by go_num, by omega, HI.out, trivial⟩
      case measure => simp [intOf]; omega
    · obtain rfl : i = n := by omega
      have hqe : q = N := by
        have h1 := HQ.out
        rw [List.take_of_length_le (by have := HL.out.1.len; omega), HL.out.2] at h1
        omega
      subst hqe
      have l1 : ¬ (i : Int) < (i : Int) := by omega
      have l2 : ¬ (16777216 : Int) < (q : Int) := by omega
      go_wp2_with fail
      refine (head_any c cons t k HK.out.2.2.1 HK.out.2.2.2.1 HK.out.1.1 HK.out.1.2 hk8 HK.out.2.2.2.2).mono ?_
      rintro e w1 ⟨r1, rfl, hr1, hb1⟩
      have H1 : Hid (Row .u8 5 w.heap.size w1 r1 (headB c cons t k) ∧ Below w.heap.size w w1) := ⟨hr1, hb1⟩
      clear hr1 hb1
      go_wp2_with fail
      refine (length_any q l HK.out.2.1.1 HK.out.2.1.2 hl8 (by omega)).mono ?_
      rintro e w2 ⟨r2, rfl, hr2, hb2⟩
      have H2 : Hid (Row .u8 5 w.heap.size w2 r1 (headB c cons t k) ∧ Sl .u8 w2 r2 (lenB q l) ∧ Below w.heap.size w w2) := ⟨H1.out.1.below hb2, hr2.sl, below_via H1.out.2 hb2 (Nat.le_refl _)⟩
      clear hr2 hb2
      obtain ⟨F, hF⟩ : ∃ F, headB c cons t k ++ lenB q l = F := ⟨_, rfl⟩
      have HF : Hid (headB c cons t k ++ lenB q l = F) := hF
      have hFl : F.length ≤ 20 := by rw [← hF]; unfold headB lenB sev; split <;> split <;> simp [tp_len, tb_len] <;> omega
      have hF0 : (headB c cons t k).length + (lenB q l).length = F.length := by rw [← hF]; simp
      clear hF
      obtain ⟨f, hf⟩ : ∃ f, F.length = f := ⟨_, rfl⟩
      have HFl : Hid (F.length = f) := hf
      rw [hf] at hFl hF0
      clear hf
      obtain ⟨m, hm⟩ : ∃ m : Nat, f + q = m := ⟨_, rfl⟩
      have hfq : (f : Int) + (q : Int) = (m : Int) := by omega
      go_upto_region 12 with ((at_builtin; refine wpList_ap rfl (.tmp 37) (.tmp 39) 25 25 rfl .u8 5 1 Tryz.und8 Tryz.info8 (by decide) w.heap.size _ (headB c cons t k) rfl H2.out.1 _ (lenB q l) rfl (src_sl Tryz.und8 H2.out.2.1) (by omega) H2.out.2.2.size ?_; intro v3 w3 hr3 hg3; rw [HF.out] at hr3; obtain ⟨a3, c3, hv3⟩ := hr3.ne; rw [HFl.out] at hv3; subst hv3))
      have hb3 : Below w.heap.size w w3 := H2.out.2.2.trans (hg3.below H2.out.1 H2.out.2.2.size)
      have H3 : Hid (Row .u8 5 w.heap.size w3 (.slice a3 f c3) F ∧ Below w.heap.size w w3) := ⟨hr3, hb3⟩
      clear hr3 hg3 hb3 hF0
      go_upto_region 13 with ((at_make; refine wpList_mk0 _ rfl _ _ 25 rfl .u8 5 1 Tryz.und8 Tryz.info8 _ m rfl rfl (by omega) (by omega) (by omega) ?_; intro w4 hr4 hb4))
      have H4 : Hid (Row .u8 5 w.heap.size w4 (.slice (some ⟨w3.heap.size, 0, none⟩) 0 m) [] ∧ Sl .u8 w4 (.slice a3 f c3) F ∧ Below w.heap.size w w4) := ⟨hr4.mono H3.out.2.size, below_sl hb4 H3.out.1.sl, below_via H3.out.2 hb4 (Nat.le_refl _)⟩
      clear hr4 hb4
      go_wp2_with (at_builtin; refine wpList_ap rfl (.tmp 46) (.tmp 47) 25 25 rfl .u8 5 1 Tryz.und8 Tryz.info8 (by decide) w.heap.size _ [] rfl H4.out.1 _ F rfl (src_sl Tryz.und8 H4.out.2.1) (by have := HFl.out; simp; omega) H4.out.2.2.size ?_; intro v5 w5 hr5 hg5)
      have hb5 : Below w.heap.size w w5 := H4.out.2.2.trans (hg5.below H4.out.1 H4.out.2.2.size)
      have H5 : Hid (Row .u8 5 w.heap.size w5 v5 F ∧ Below w.heap.size w w5) := ⟨by simpa using hr5, hb5⟩
      clear hr5 hg5 hb5
      go_wp2_with fail
      go_loopw [14, 51] (fun bv iv wr => ∃ (j : Nat) (b0 : Value), b0 = bv ∧ iv = .int .i64 j ∧ j ≤ i ∧ Row .u8 5 w.heap.size wr b0 (F ++ (ms.take j).flatten) ∧ Below w.heap.size w wr) (fun _ iv _ => i - (intOf iv).toNat)
      case atStart => exact ⟨0, _, rfl, rfl, by omega, by simpa using H5.out.1, H5.out.2⟩
      case round =>
        clear l1
        obtain ⟨j, b0, rfl, rfl, hj, hr6, hb6⟩ := hrel
        have H6 : Hid (Row .u8 5 w.heap.size wr b0 (F ++ (ms.take j).flatten) ∧ Below w.heap.size w wr) := ⟨hr6, hb6⟩
        clear hr6
        by_cases hlt : j < i
        · have l1 : (j : Int) < (i : Int) := by omega
          obtain ⟨b, off, ai, ni, ci, rfl, hb, hvi, hcell, hsl, hu, hni⟩ := HL.out.1.at j hlt
          have hcr : wr.cell? ⟨b, off + j, none⟩ = some (.slice ai ni ci) := (hb6.cell (p := ⟨b, off + j, none⟩) hb).trans hcell
          have HI : Hid ((ms.take (j + 1)).flatten = (ms.take j).flatten ++ ms.getD j [] ∧ Sl .u8 wr (.slice ai ni ci) (ms.getD j []) ∧ F.length + (ms.take j).flatten.length + (ms.getD j []).length ≤ 20 + 16777216) := by
            refine ⟨flatten_take (by have := HL.out.1.len; omega), below_sl hb6 hsl, ?_⟩
            have h1 := flatten_take_le ms (j + 1)
            rw [flatten_take (by have := HL.out.1.len; omega), List.length_append, HL.out.2] at h1
            have := HFl.out
            omega
          clear hvi hsl hu hni hcell hb6
          go_wp2_with (at_builtin; refine wpList_ap rfl (.tmp 55) (.tmp 56) 25 25 rfl .u8 5 1 Tryz.und8 Tryz.info8 (by decide) w.heap.size _ (F ++ (ms.take j).flatten) rfl H6.out.1 _ (ms.getD j []) rfl (src_sl Tryz.und8 HI.out.2.1) (by have := HI.out.2.2; simp only [List.length_append]; omega) H6.out.2.size ?_; intro v7 w7 hr7 hg7)
          have hb7 : Below w.heap.size w w7 := H6.out.2.trans (hg7.below H6.out.1 H6.out.2.size)
          have H7 : Hid (Row .u8 5 w.heap.size w7 v7 (F ++ (ms.take (j + 1)).flatten) ∧ Below w.heap.size w w7) := ⟨by rw [HI.out.1, ← List.append_assoc]; exact hr7, hb7⟩
          clear hr7 hg7 hb7
          go_roundw
          case rel => exact ⟨j + 1, _, rfl, by go_num, by omega, H7.out.1, H7.out.2⟩
          case measure => simp [intOf]; omega
        · obtain rfl : j = i := by omega
          have l1 : ¬ (j : Int) < (j : Int) := by omega
          have HE : Hid (ms.take j = ms) := List.take_of_length_le (by have := HL.out.1.len; omega)
          clear hb6
          go_wp2
          go_ret2
          refine ⟨_, rfl, ?_, H6.out.2⟩
          have := H6.out.1
          rw [HE.out, ← HF.out, List.append_assoc] at this
          exact this
end Go.Proofs.YtndoibmpnhkmpaaGreatDoor
/-
  Der: the numbers that stand in an object identifier's bytes.
-/
namespace Go.Proofs.YtndoibmpnhkmpaaGreatDoor
open Go.RowKit
/-- The numbers of the first i bytes that have ended, and what is read of the next one. -/
def gst (X : List Int) : Nat → List Nat × Nat
  | 0 => ([], 0)
  | i + 1 => if X.getD i 0 < 128 then ((gst X i).1 ++ [(gst X i).2 * 128 + (X.getD i 0 % 128).toNat], 0) else ((gst X i).1, (gst X i).2 * 128 + (X.getD i 0 % 128).toNat)
/-- Does a number begin at place i? -/
def btw (X : List Int) : Nat → Bool
  | 0 => true
  | i + 1 => decide (X.getD i 0 < 128)
def fine (X : List Int) (i : Nat) : Prop := ∀ j, j < i → ¬ (btw X j = true ∧ X.getD j 0 = 128)
def capN (c v : Nat) : Int := ((min v c : Nat) : Int)
def capL (c : Nat) (A : List Nat) : List Int := A.map (capN c)
def arcsOk (X : List Int) : Bool := btw X X.length && decide (0 < (gst X X.length).1.length)
theorem gst_lo {X : List Int} {i : Nat} {x : Int} (hx : X.getD i 0 = x) (h : x < 128) : gst X (i + 1) = ((gst X i).1 ++ [(gst X i).2 * 128 + (x % 128).toNat], 0) := by
  show (if X.getD i 0 < 128 then _ else _) = _; rw [hx, if_pos h]
theorem gst_hi {X : List Int} {i : Nat} {x : Int} (hx : X.getD i 0 = x) (h : ¬ x < 128) : gst X (i + 1) = ((gst X i).1, (gst X i).2 * 128 + (x % 128).toNat) := by
  show (if X.getD i 0 < 128 then _ else _) = _; rw [hx, if_neg h]
theorem gst_len (X : List Int) : ∀ i, (gst X i).1.length ≤ i
  | 0 => by simp [gst]
  | i + 1 => by
    have := gst_len X i
    by_cases h : X.getD i 0 < 128
    · rw [gst_lo rfl h]; simp; omega
    · rw [gst_hi rfl h]; show (gst X i).1.length ≤ _; omega
theorem or_u64 (s : Nat) (x y : Int) (hx0 : 0 ≤ x) (hx : x * 2 ^ s < 18446744073709551616) (hy0 : 0 ≤ y) (hy : y < 2 ^ s) (hs : s ≤ 32) : bits .or .u64 (x * 2 ^ s) y = x * 2 ^ s + y := by
  obtain ⟨a, rfl⟩ := Int.eq_ofNat_of_zero_le hx0
  obtain ⟨b, rfl⟩ := Int.eq_ofNat_of_zero_le hy0
  have e : ((a * 2 ^ s : Nat) : Int) = (a : Int) * 2 ^ s := by simp
  have hb : b < 2 ^ s := by
    have : ((b : Nat) : Int) < ((2 ^ s : Nat) : Int) := by rw [Int.natCast_pow]; exact hy
    exact Int.ofNat_lt.1 this
  have ha : a * 2 ^ s < 2 ^ 64 := by
    have : ((a * 2 ^ s : Nat) : Int) < ((2 ^ 64 : Nat) : Int) := by rw [e]; exact hx
    exact Int.ofNat_lt.1 this
  have hb2 : b < 2 ^ 64 := Nat.lt_of_lt_of_le hb (Nat.pow_le_pow_right (by decide) (by omega))
  have h := (bits_nat .u64 64 (by decide) (fun n h₀ h₁ => by rw [IntKind.wrap_u64]; omega) (a * 2 ^ s) b ha hb2).2
  rw [e] at h
  rw [h, Nat.mul_comm a, ← Nat.two_pow_add_eq_or_of_lt hb a, Nat.mul_comm, Int.natCast_add, e]
def LaidAns (X : List Int) (B : Nat) (w : World) (e : Ending) : Prop :=
  (fine X X.length ∧ ∃ r, e = .returned (.tuple #[r, .bool (arcsOk X)]) ∧ Row .u64 79 B w r (capL 2147483728 (gst X X.length).1)) ∨ (¬ fine X X.length ∧ e = .returned (.tuple #[.slice none 0 0, .bool false]))
end Go.Proofs.YtndoibmpnhkmpaaGreatDoor
/-
  Der: the greatest of a row of numbers.
-/
namespace Go.Proofs.YtndoibmpnhkmpaaGreatDoor
open Go.RowKit
/-- The greatest of the first i numbers (of a row that has one). -/
def mxN (X : List Int) : Nat → Int
  | 0 => X.getD 0 0
  | i + 1 => max (mxN X i) (X.getD i 0)
def U64s (X : List Int) : Prop := ∀ x ∈ X, 0 ≤ x ∧ x < 18446744073709551616
theorem U64s.at {X : List Int} (h : U64s X) (i : Nat) : 0 ≤ X.getD i 0 ∧ X.getD i 0 < 18446744073709551616 := by
  by_cases hi : i < X.length
  · simp [hi]; exact h _ (List.getElem_mem hi)
  · simp [List.getD, List.getElem?_eq_none (Nat.le_of_not_lt hi)]
theorem mxN_bd {X : List Int} (h : U64s X) : ∀ i, 0 ≤ mxN X i ∧ mxN X i < 18446744073709551616
  | 0 => h.at 0
  | i + 1 => by
    have h1 := mxN_bd h i
    have h2 := h.at i
    show 0 ≤ max (mxN X i) (X.getD i 0) ∧ max (mxN X i) (X.getD i 0) < _
    omega
theorem mxN_gt {X : List Int} (c : Int) : ∀ i, 0 < i → (c < mxN X i ↔ ∃ j, j < i ∧ c < X.getD j 0) := by
  intro i
  induction i with
  | zero => intro h; omega
  | succ i ih =>
    intro _
    show c < max (mxN X i) (X.getD i 0) ↔ _
    by_cases hi : i = 0
    · subst hi
      show c < max (X.getD 0 0) (X.getD 0 0) ↔ _
      constructor
      · intro h; exact ⟨0, by omega, by omega⟩
      · rintro ⟨j, hj, h⟩
        obtain rfl : j = 0 := by omega
        omega
    · have h1 := ih (by omega)
      constructor
      · intro h
        by_cases h2 : c < X.getD i 0
        · exact ⟨i, by omega, h2⟩
        · obtain ⟨j, hj, h3⟩ := h1.1 (by omega)
          exact ⟨j, by omega, h3⟩
      · rintro ⟨j, hj, h⟩
        by_cases hji : j = i
        · subst hji; omega
        · have := h1.2 ⟨j, by omega, h⟩; omega
set_option maxRecDepth 20000 in
set_option maxHeartbeats 4000000 in
theorem Max_any {w : World} (b c n : Nat) (X : List Int) (hr : Rd .u64 w b 0 X) (hn : X.length = n) (h0 : 0 < n) (hl : n ≤ 4000) (hu : U64s X) :
    Calls Tryz.prog 119 #[.slice (some ⟨b, 0, none⟩) n c] w fun e w' => e = .returned (.int .u64 (mxN X n)) ∧ w = w' := by
  have HX : Hid (Rd .u64 w b 0 X ∧ X.length = n ∧ U64s X) := ⟨hr, hn, hu⟩
  obtain ⟨x, hx⟩ : ∃ x, X.getD 0 0 = x := ⟨_, rfl⟩
  have c0 : w.cell? ⟨b, 0, none⟩ = some (.int .u64 x) := by have := hr 0 (by omega); rw [hx] at this; exact this
  have HX0 : Hid (mxN X 1 = x) := by show max (X.getD 0 0) (X.getD 0 0) = _; rw [hx]; omega
  clear hr hn hu hx
  have nI : (1 : Int) ≤ (n : Int) := by omega
  have nI2 : (n : Int) ≤ 4000 := by omega
  go_enter Tryz.func119, Tryz.ntmps119
  go_wp2_with fail
  go_loopw [3, 4] (fun mv iv wr => ∃ (i : Nat) (t : Int), mv = .int .u64 t ∧ iv = .int .i64 i ∧ 1 ≤ i ∧ i ≤ n ∧ mxN X i = t ∧ w = wr) (fun _ iv _ => n - (intOf iv).toNat)
  case atStart => exact ⟨1, x, rfl, rfl, by omega, by omega, HX0.out, rfl⟩
  case round =>
    obtain ⟨i, t, rfl, rfl, hi1, hi, ht, rfl⟩ := hrel
    by_cases hlt : i < n
    · have l1 : (i : Int) < (n : Int) := by omega
      obtain ⟨y, hy⟩ : ∃ y, X.getD i 0 = y := ⟨_, rfl⟩
      have cy : w.cell? ⟨b, i, none⟩ = some (.int .u64 y) := by have := HX.out.1 i (by have := HX.out.2.1; omega); rw [hy, Nat.zero_add] at this; exact this
      have hm : mxN X (i + 1) = max t y := by show max (mxN X i) (X.getD i 0) = _; rw [ht, hy]
      have HM : Hid (mxN X (i + 1) = max t y) := hm
      clear ht hy hm c0
      go_wp2
      go_roundw
      case rel => exact ⟨i + 1, _, rfl, by go_num, by omega, by omega, by rw [HM.out]; split <;> omega, trivial⟩
      case measure => simp [intOf]; omega
    · obtain rfl : i = n := by omega
      have l1 : ¬ (i : Int) < (i : Int) := by omega
      have HT : Hid (mxN X i = t) := ht
      clear ht c0
      go_wp2
      go_ret
      exact ⟨by rw [HT.out]; rfl, rfl⟩
end Go.Proofs.YtndoibmpnhkmpaaGreatDoor
/-
  append onto an empty slice without room, whatever it points at; steps of regions that draw their order.
-/
namespace Go.Proofs.YtndoibmpnhkmpaaGreatDoor
open Go.RowKit
/-- A row of the call's own, or a slice that is empty. -/
def Rw (k : IntKind) (e : TypeId) (B : Nat) (w : World) (v : Value) (xs : List Int) : Prop := Row k e B w v xs ∨ (xs = [] ∧ ∃ a c, v = .slice a 0 c)
theorem Rw.sl {k : IntKind} {e : TypeId} {B : Nat} {w : World} {v : Value} {xs : List Int} (h : Rw k e B w v xs) : Sl k w v xs := by
  rcases h with h | ⟨rfl, a, c, rfl⟩
  · exact h.sl
  · exact ⟨a, c, rfl, Nat.zero_le _, .inl rfl⟩
theorem Rw.below {k : IntKind} {e : TypeId} {B : Nat} {w w' : World} {v : Value} {xs : List Int} (h : Rw k e B w v xs) (hb : Below w.heap.size w w') : Rw k e B w' v xs := by
  rcases h with h | h
  · exact .inl (h.below hb)
  · exact .inr h
theorem Rw.alloc {k : IntKind} {e : TypeId} {B : Nat} {w : World} {v : Value} {xs : List Int} (h : Rw k e B w v xs) (o : Obj) : Rw k e B (w.alloc o) v xs := h.below ((Below.refl _ _).alloc (Nat.le_refl _) o)
theorem Rw.mono {k : IntKind} {e : TypeId} {B B' : Nat} {w : World} {v : Value} {xs : List Int} (h : Rw k e B w v xs) (hb : B' ≤ B) : Rw k e B' w v xs := by
  rcases h with h | h
  · exact .inl (h.mono hb)
  · exact .inr h
theorem Rw.ne {k : IntKind} {e : TypeId} {B : Nat} {w : World} {v : Value} {xs : List Int} (h : Rw k e B w v xs) : ∃ a c, v = .slice a xs.length c := by
  rcases h with h | ⟨rfl, a, c, rfl⟩
  · exact h.ne
  · exact ⟨a, c, rfl⟩
theorem run_ap0 {P : Program} (w : World) (t tx ty e : TypeId) (i : TypeInfo) (k : IntKind) (ht : P.underlying t = some (.slice e)) (hi : P.info? e = some i) (hz : i.zero = some (.int k 0)) (hsize : i.size = 1) (hby : 0 < i.bytes)
    (a : Addr) {B : Nat} {x : Value} {ys : List Int} (hs : Src P 1 tx x ys.length (ys.map (Value.int k)) w) (hb : ys.length * i.bytes ≤ 140737488355328) (hB : B ≤ w.heap.size) :
    ∃ v' w', (Builtin.append_ #[t, tx] ty #[.slice (some a) 0 0, x]).run P w = .ok v' w' ∧ Rw k e B w' v' ys ∧ Below w.heap.size w w' := by
  have hle : ys.length ≤ 140737488355328 := Nat.le_trans (Nat.le_mul_of_pos_right _ hby) hb
  have hs1 : Src P i.size tx x ys.length (ys.map (Value.int k)) w := by rw [hsize]; exact hs
  by_cases h0 : ys.length = 0
  · have hy : ys = [] := List.eq_nil_of_length_eq_zero h0
    subst hy
    refine ⟨.slice (some a) 0 0, w, ?_, .inr ⟨rfl, _, _, rfl⟩, Below.refl _ _⟩
    have h1 := hs1.cells
    have h2 := hs1.len
    simp only [List.length_nil, List.map_nil] at h1 h2
    rcases hs1.kind with ⟨e', hk⟩ | hk
    · simp [Builtin.append_, run_underlying ht, run_underlying hk, sizeOf, typeInfo, hi, h2, h1, storeCells]
    · simp [Builtin.append_, run_underlying ht, run_underlying hk, sizeOf, typeInfo, hi, h2, h1, storeCells]
  · have hold : (Builtin.firstCells i.size 0 (.slice (some a) 0 0)).run P w.drew = .ok ([] : List Value).toArray w.drew := run_firstCells_some w.drew i.size 0 a 0 0 [] (by simp) (by simp)
    have h1 := run_append_grow_src (P := P) w t tx ty e i (.int k 0) ht hi hz (some a) 0 0 _ hold x ys.length _ hs1 (by omega) (by omega) (growslice_fits (by omega) (by rw [Nat.zero_add]; exact hb))
    refine ⟨_, _, h1, .inl ?_, (Below.refl _ _).drew.alloc (Nat.le_refl _) _⟩
    have hge := grownCap_ge w (0 + ys.length) 0 e
    have hcm : grownCap w (0 + ys.length) 0 e ≤ maxLen := grownCap_le_maxLen w _ 0 e (by unfold maxLen; omega)
    obtain ⟨C, hC⟩ : ∃ C, grownCap w (0 + ys.length) 0 e = 0 + ys.length + C := ⟨_, (Nat.add_sub_of_le hge).symm⟩
    rw [hC] at hcm ⊢
    have hzc : Builtin.zeroCells (Value.cells (.int k 0)) C = (List.replicate C (.int k 0)).toArray := by
      apply Array.ext'
      simp only [Builtin.zeroCells, Value.cells]
      simp
      rw [List.eq_replicate_iff]
      exact ⟨by simp, fun y hy => by obtain ⟨j, _, rfl⟩ := List.mem_map.1 hy; simp [Nat.mod_one]⟩
    refine .inr ⟨w.heap.size, ys ++ List.replicate C 0, ?_, hB, ?_, by simp, List.take_left, by simp; omega⟩
    · simp
    · unfold Arr
      rw [show 0 + ys.length + C - (0 + ys.length) = C by omega, hzc]
      have := heap_alloc_new w.drew (.cells ((ys.map (Value.int k)).toArray ++ (List.replicate C (Value.int k 0)).toArray) e)
      simp only [List.map_append, List.map_replicate]
      rw [show (w.drew.heap.size) = w.heap.size from rfl] at this
      simp only [List.nil_append]
      rw [this]; simp
theorem step_ap0 {P : Program} {ops : Array Oper} {o : Oper} {a : Act} {w : World} {K : Act → World → Prop} {Q : Exit → Act → World → Prop} {E : Prop} (hgd : o.guard = none) (s x : Operand) (t tx : TypeId)
    (ho : o.op = .call { callee := .builtin .append, args := #[s, x], argTypes := #[t, tx] }) (k : IntKind) (e : TypeId) (bytes : Nat) (ht : P.underlying t = some (.slice e))
    (hi : (P.info? e).map (fun i => (i.zero, i.size, i.bytes)) = some (some (.int k 0), 1, bytes)) (hby : 0 < bytes)
    (B : Nat) (ad : Addr) (hs : a.eval s = .slice (some ad) 0 0) (u : Value) (ys : List Int) (hx : a.eval x = u) (hy : Src P 1 tx u ys.length (ys.map (Value.int k)) w)
    (hb : ys.length * bytes ≤ 140737488355328) (hB : B ≤ w.heap.size)
    (h : ∀ v' w', Rw k e B w' v' ys → Below w.heap.size w w' → K (a.put o.dst v') w') : if Region.wanted o (yielded ops a.tmps) = true then Oper.wp P o a w K Q else E := by
  have hw : Region.wanted o (yielded ops a.tmps) = true := by simp [Region.wanted, hgd]
  rw [if_pos hw]
  obtain ⟨i0, hi0, hz0, hz1, hz2⟩ := info_parts hi
  obtain ⟨v', w', hrun, h2, h3⟩ := run_ap0 (P := P) w t tx o.type e i0 k ht hi0 hz0 hz1 (by omega) ad (B := B) hy (by rw [hz2]; exact hb) hB
  unfold Oper.wp execOp
  simp only [ho, resolve, invoke, builtin, Sem.run_bind, Sem.run_pure, Result.andThen_ok, List.map_toArray, List.map_cons, List.map_nil, hs, hx, hrun]
  exact h v' w' h2 h3
theorem step_apm {P : Program} {ops : Array Oper} {o : Oper} {a : Act} {w : World} {K : Act → World → Prop} {Q : Exit → Act → World → Prop} {E : Prop} (hgd : o.guard = none) (s x : Operand) (t tx : TypeId)
    (ho : o.op = .call { callee := .builtin .append, args := #[s, x], argTypes := #[t, tx] }) (m : Nat) (z : Value) (hzs : z.cells.size = m) (e : TypeId) (bytes : Nat) (ht : P.underlying t = some (.slice e))
    (hi : (P.info? e).map (fun i => (i.zero, i.size, i.bytes)) = some (some z, m, bytes)) (hby : 0 < bytes)
    (B : Nat) (v : Value) (n : Nat) (xs : List Value) (hs : a.eval s = v) (hr : MRow m e B w v n xs) (u : Value) (k : Nat) (ys : List Value) (hx : a.eval x = u) (hy : Src P m tx u k ys w)
    (hb : (n + k) * bytes ≤ 140737488355328) (hB : B ≤ w.heap.size)
    (h : ∀ v' w', MRow m e B w' v' (n + k) (xs ++ ys) → MGrew e w w' v → K (a.put o.dst v') w') : if Region.wanted o (yielded ops a.tmps) = true then Oper.wp P o a w K Q else E := by
  have hw : Region.wanted o (yielded ops a.tmps) = true := by simp [Region.wanted, hgd]
  rw [if_pos hw]
  obtain ⟨i0, hi0, hz0, hz1, hz2⟩ := info_parts hi
  obtain ⟨v', w', hrun, h2, h3⟩ := run_apm (P := P) w t tx o.type e i0 m z ht hi0 hz0 hz1 hzs (by omega) hr hy (by rw [hz2]; exact hb) hB
  unfold Oper.wp execOp
  simp only [ho, resolve, invoke, builtin, Sem.run_bind, Sem.run_pure, Result.andThen_ok, List.map_toArray, List.map_cons, List.map_nil, hs, hx, hrun]
  exact h v' w' h2 h3
end Go.Proofs.YtndoibmpnhkmpaaGreatDoor
/-
  Der: of a text's size (as in E74), for seats without strconv.
-/
namespace Go.Proofs.YtndoibmpnhkmpaaGreatDoor
open Go.RowKit
theorem st_size (X : List Int) : (strOfNums X).size = X.length := strOfNums_size X
end Go.Proofs.YtndoibmpnhkmpaaGreatDoor
/-
  Der: the numbers between the dots of a text.
-/
namespace Go.Proofs.YtndoibmpnhkmpaaGreatDoor
open Go.RowKit
/-- Behind i bytes: the numbers that have ended, the next one's value and how many digits it has; or nothing, where it is wrong. -/
def ast (Y : List Int) : Nat → Option (List Nat × Nat × Nat)
  | 0 => some ([], 0, 0)
  | i + 1 => (ast Y i).bind fun q =>
    if Y.getD i 0 = 46 then (if 0 < q.2.2 then some (q.1 ++ [q.2.1], 0, 0) else none)
    else if Y.getD i 0 < 48 ∨ 57 < Y.getD i 0 ∨ (q.2.1 = 0 ∧ 0 < q.2.2) then none
    else some (q.1, 10 * q.2.1 + (Y.getD i 0 - 48).toNat, q.2.2 + 1)
theorem ast_none {Y : List Int} {i : Nat} (h : ast Y i = none) : ∀ d, ast Y (i + d) = none
  | 0 => h
  | d + 1 => by
    show (ast Y (i + d)).bind _ = none
    rw [ast_none h d]; rfl
theorem ast_step {Y : List Int} {i : Nat} {A : List Nat} {v k : Nat} {x : Int} (h : ast Y i = some (A, v, k)) (hx : Y.getD i 0 = x) :
    ast Y (i + 1) = if x = 46 then (if 0 < k then some (A ++ [v], 0, 0) else none) else if x < 48 ∨ 57 < x ∨ (v = 0 ∧ 0 < k) then none else some (A, 10 * v + (x - 48).toNat, k + 1) := by
  show (ast Y i).bind _ = _
  rw [h, hx]; rfl
def arcsP (Y : List Int) : Option (List Nat) := (ast Y Y.length).bind fun q => if 0 < q.2.2 then some (q.1 ++ [q.2.1]) else none
theorem arcsP_none {Y : List Int} {i : Nat} (hi : i ≤ Y.length) (h : ast Y i = none) : arcsP Y = none := by
  unfold arcsP
  have := ast_none h (Y.length - i)
  rw [show i + (Y.length - i) = Y.length by omega] at this
  rw [this]; rfl
theorem ast_len (Y : List Int) : ∀ i A v k, ast Y i = some (A, v, k) → A.length + k ≤ i
  | 0, A, v, k, h => by cases h; simp
  | i + 1, A, v, k, h => by
    cases hq : ast Y i with
    | none => rw [show ast Y (i + 1) = none from ast_none hq 1] at h; cases h
    | some q =>
      obtain ⟨A', v', k'⟩ := q
      have := ast_len Y i A' v' k' hq
      rw [ast_step hq rfl] at h
      split at h
      · split at h
        · cases h; simp; omega
        · cases h
      · split at h
        · cases h
        · cases h; omega
def WrAns (Y : List Int) (B : Nat) (w : World) (e : Ending) : Prop :=
  (∃ A r, arcsP Y = some A ∧ e = .returned (.tuple #[r, .bool true]) ∧ Row .u64 79 B w r (capL 2147483648 A)) ∨ (arcsP Y = none ∧ ∃ r, e = .returned (.tuple #[r, .bool false]))
def ItS (g : Nat) (X : List Int) (W : World) (pos : Nat) : Prop := W.heap[g]? = some (.stringIter (strOfNums X) pos)
theorem ItS.pos {g : Nat} {X : List Int} {W : World} {pos : Nat} (h : ItS g X W pos) : W.iterPos g = pos := by
  unfold World.iterPos; rw [h]
theorem ItS.lt {g : Nat} {X : List Int} {W : World} {pos : Nat} (h : ItS g X W pos) : g < W.heap.size := (Array.getElem?_eq_some_iff.1 h).1
theorem ItS.below {g : Nat} {X : List Int} {W W' : World} {pos : Nat} (h : ItS g X W pos) (hb : Below (g + 1) W W') : ItS g X W' pos := by
  unfold ItS; rw [hb.block _ (by omega)]; exact h
theorem row_iterS {k : IntKind} {e : TypeId} {g : Nat} {W : World} {v : Value} {xs : List Int} (s : ByteArray) (pos : Nat) (h : Row k e (g + 1) W v xs) : Row k e (g + 1) (W.iterAt g s pos) v xs := by
  rcases h with h | ⟨b, S, rfl, h1, hA, h2⟩
  · exact .inl h
  · exact .inr ⟨b, S, rfl, h1, by unfold Arr; rw [Lib.iterAt_other W _ _ s pos (by omega)]; exact hA, h2⟩
theorem st_get (X : List Int) (hU : U8s X) (i : Nat) (hi : i < X.length) (h : i < (strOfNums X).size) : (((strOfNums X)[i]'h).toNat : Int) = X.getD i 0 := by
  have e : (strOfNums X)[i]'h = UInt8.ofNat (X[i]).toNat := by
    show (strOfNums X).data[i] = _
    simp [strOfNums]
  have hu := hU _ (List.getElem_mem hi)
  unfold U8 at hu
  rw [e, List.getD_eq_getElem?_getD, List.getElem?_eq_getElem hi]
  simp
  omega
/-- What the next character is: the byte itself, or, from 128 on, something above. -/
theorem next_char {P : Program} {wr : World} {g i : Nat} {Y : List Int} (hU : U8s Y) (hI : ItS g Y wr i) (hi : i < Y.length) :
    ∃ (y : Int) (p : Nat), Sem.run P (Instr.next (.pointer (some ⟨g, 0, none⟩)) true 0) wr = .ok (.tuple #[.bool true, .int .i64 i, .int .i32 y]) (wr.iterAt g (strOfNums Y) p) ∧ ((Y.getD i 0 < 128 ∧ y = Y.getD i 0 ∧ p = i + 1) ∨ (128 ≤ Y.getD i 0 ∧ 57 < y)) := by
  have hiS : i < (strOfNums Y).size := by rw [st_size]; omega
  have hg := st_get Y hU i hi hiS
  by_cases h : Y.getD i 0 < 128
  · refine ⟨Y.getD i 0, i + 1, ?_, .inl ⟨h, rfl, rfl⟩⟩
    rw [Lib.run_next_ascii_at wr g (strOfNums Y) i 0 hI hiS (by omega), hg]
  · refine ⟨_, _, Lib.run_next_any_at wr g (strOfNums Y) i 0 hI hiS, .inr ⟨by omega, ?_⟩⟩
    have := (decode_high _ _ hiS (by omega)).1
    omega
set_option maxRecDepth 20000 in
set_option maxHeartbeats 8000000 in
theorem written_any {w : World} (Y : List Int) (hU : U8s Y) (hl : Y.length ≤ 2000) :
    Calls Tryz.prog 118 #[.string (strOfNums Y)] w fun e w' => WrAns Y (w.heap.size + 1) w' e ∧ Below w.heap.size w w' := by
  obtain ⟨S, hS⟩ : ∃ S, strOfNums Y = S := ⟨_, rfl⟩
  have HX : Hid (U8s Y ∧ Y.length ≤ 2000 ∧ strOfNums Y = S) := ⟨hU, hl, hS⟩
  rw [hS]
  clear hU hS
  go_enter Tryz.func118, Tryz.ntmps118
  go_wp2_with fail
  refine wp_gen (fun W => ItS w.heap.size Y W 0 ∧ Below w.heap.size w W) ⟨by unfold ItS; rw [HX.out.2.2, World.iter_heap], al1 _⟩ ?_
  rintro w1 ⟨hI, hb⟩
  have H1 : Hid (ItS w.heap.size Y w1 0 ∧ Below w.heap.size w w1) := ⟨hI, hb⟩
  clear hI hb
  go_loopw [2, 4, 5] (fun lv nv dv wr => ∃ (i : Nat) (l0 : Value) (A : List Nat) (v k : Nat) (t : Int), l0 = lv ∧ nv = .int .u64 t ∧ dv = .int .i64 k ∧ i ≤ Y.length ∧ ast Y i = some (A, v, k) ∧ t = capN 2147483648 v ∧ ItS w.heap.size Y wr i ∧ Row .u64 79 (w.heap.size + 1) wr l0 (capL 2147483648 A) ∧ Below w.heap.size w wr) (fun _ _ _ wr => Y.length - wr.iterPos w.heap.size)
  case atStart => exact ⟨0, _, [], 0, 0, 0, rfl, rfl, rfl, by omega, rfl, rfl, H1.out.1, Row.nil _ _ _ _, H1.out.2⟩
  case round =>
    obtain ⟨i, l0, A, v, k, t, rfl, rfl, rfl, hi, ha, ht, hI, hr, hb⟩ := hrel
    have hlen := ast_len Y i A v k ha
    have t0 : 0 ≤ t := by rw [ht]; unfold capN; omega
    have t1 : t ≤ 2147483648 := by rw [ht]; unfold capN; omega
    have H2 : Hid (ast Y i = some (A, v, k) ∧ t = capN 2147483648 v ∧ ItS w.heap.size Y wr i ∧ Row .u64 79 (w.heap.size + 1) wr l0 (capL 2147483648 A) ∧ Below w.heap.size w wr ∧ wr.iterPos w.heap.size = i) := ⟨ha, ht, hI, hr, hb, hI.pos⟩
    have hk2 : (k : Int) ≤ 2000 := by omega
    clear ha hI hr hb
    by_cases hlt : i < Y.length
    · obtain ⟨y, p, hnx, hy⟩ := next_char (P := Tryz.prog) HX.out.1 H2.out.2.2.1 hlt
      rw [HX.out.2.2] at hnx
      obtain ⟨x, hx⟩ : ∃ x, Y.getD i 0 = x := ⟨_, rfl⟩
      rw [hx] at hy
      have hst := ast_step H2.out.1 hx
      have HS : Hid (ast Y (i + 1) = if x = 46 then (if 0 < k then some (A ++ [v], 0, 0) else none) else if x < 48 ∨ 57 < x ∨ (v = 0 ∧ 0 < k) then none else some (A, 10 * v + (x - 48).toNat, k + 1)) := hst
      have no : Hid (ast Y (i + 1) = none → ∀ (W : World) (e : Ending), Below w.heap.size w W → e = .returned (.tuple #[.slice none 0 0, .bool false]) → WrAns Y (w.heap.size + 1) W e ∧ Below w.heap.size w W) := fun h W e hW he => ⟨.inr ⟨arcsP_none (by omega) h, _, he⟩, hW⟩
      have hbp : Below w.heap.size w (wr.iterAt w.heap.size S p) := Lib.below_iterAt H2.out.2.2.2.2.1 (Nat.le_refl _) _ _
      have HB : Hid (Below w.heap.size w (wr.iterAt w.heap.size S p) ∧ (x < 128 → p = i + 1)) := ⟨hbp, by rcases hy with ⟨_, _, h⟩ | ⟨h, _⟩ <;> intro _ <;> omega⟩
      clear hst hx hbp
      by_cases q57 : 57 < x
      · have y57 : 57 < y := by omega
        have y46 : (y == 46) = false := by simp; omega
        have y48 : ¬ y < 48 := by omega
        have hno : ast Y (i + 1) = none := by rw [HS.out, if_neg (by omega), if_pos (by omega)]
        have HN : Hid (ast Y (i + 1) = none) := hno
        clear hno hy
        go_wp2
        go_ret2
        exact no.out HN.out _ _ HB.out.1 rfl
      obtain ⟨hyx, hp⟩ : y = x ∧ p = i + 1 := by omega
      subst hyx
      subst hp
      clear hy
      by_cases q46 : y = 46
      · subst q46
        clear ht
        by_cases qk : 0 < k
        · have qkI : (0 : Int) < (k : Int) := by omega
          have HN : Hid (ast Y (i + 1) = some (A ++ [v], 0, 0) ∧ capL 2147483648 (A ++ [v]) = capL 2147483648 A ++ [t] ∧ (capL 2147483648 A).length ≤ 2000) := by
            refine ⟨by rw [HS.out, if_pos (by simp), if_pos qk], ?_, ?_⟩
            · unfold capL; rw [List.map_append, H2.out.2.1]; rfl
            · unfold capL; rw [List.length_map]; omega
          have hrow : Row .u64 79 (w.heap.size + 1) (wr.iterAt w.heap.size S (i + 1)) l0 (capL 2147483648 A) := row_iterS _ _ H2.out.2.2.2.1
          have hit : ItS w.heap.size Y (wr.iterAt w.heap.size S (i + 1)) (i + 1) := by
            have := Lib.iterAt_heap wr w.heap.size (strOfNums Y) i (i + 1) H2.out.2.2.1
            rw [HX.out.2.2] at this; unfold ItS; rw [HX.out.2.2]; exact this
          have H3 : Hid (Row .u64 79 (w.heap.size + 1) (wr.iterAt w.heap.size S (i + 1)) l0 (capL 2147483648 A) ∧ ItS w.heap.size Y (wr.iterAt w.heap.size S (i + 1)) (i + 1)) := ⟨hrow, hit⟩
          clear hrow hit
          go_wp2_with (at_builtin; refine wpList_ap rfl (.tmp 29) (.tmp 31) 88 88 rfl .u64 79 8 Tryz.und64 Tryz.info64 (by decide) (w.heap.size + 1) _ (capL 2147483648 A) rfl (H3.out.1.alloc _) _ [_] rfl (src_sl Tryz.und64 (new_sl (k := .u64) [_] (0, 0))) (by have := HN.out.2.2; simp; omega) (by have := H3.out.2.lt; simp; omega) ?_; intro v2 w2 hr2 hg2)
          have hb2 : Below (w.heap.size + 1) (wr.iterAt w.heap.size S (i + 1)) w2 := ((al1 _).mono H3.out.2.lt).trans (hg2.below (H3.out.1.alloc _) (by have := H3.out.2.lt; simp; omega))
          have H4 : Hid (Row .u64 79 (w.heap.size + 1) w2 v2 (capL 2147483648 (A ++ [v])) ∧ ItS w.heap.size Y w2 (i + 1) ∧ Below w.heap.size w w2) := ⟨by rw [HN.out.2.1]; exact hr2, H3.out.2.below hb2, HB.out.1.trans (hb2.mono (by omega))⟩
          clear hr2 hg2 hb2
          go_roundw
          case rel => exact ⟨i + 1, _, A ++ [v], 0, 0, 0, rfl, rfl, rfl, by omega, HN.out.1, rfl, H4.out.2.1, H4.out.1, H4.out.2.2⟩
          case measure => rw [H4.out.2.1.pos, H2.out.2.2.2.2.2]; omega
        · obtain rfl : k = 0 := by omega
          have HN : Hid (ast Y (i + 1) = none) := by show _ = _; rw [HS.out, if_pos (by simp), if_neg (by simp)]
          go_wp2
          go_ret2
          exact no.out HN.out _ _ HB.out.1 rfl
      have y46 : (y == 46) = false := by simpa using q46
      by_cases q48 : y < 48
      · have HN : Hid (ast Y (i + 1) = none) := by show _ = _; rw [HS.out, if_neg q46, if_pos (by omega)]
        go_wp2
        go_ret2
        exact no.out HN.out _ _ HB.out.1 rfl
      have y57 : ¬ 57 < y := by omega
      by_cases qz : v = 0 ∧ 0 < k
      · have HN : Hid (ast Y (i + 1) = none) := by show _ = _; rw [HS.out, if_neg q46, if_pos (by omega)]
        have ht0 : t = 0 := by rw [ht, qz.1]; rfl
        have qkI : (0 : Int) < (k : Int) := by omega
        clear ht
        subst ht0
        go_wp2
        go_ret2
        exact no.out HN.out _ _ HB.out.1 rfl
      have HN : Hid (ast Y (i + 1) = some (A, 10 * v + (y - 48).toNat, k + 1)) := by show _ = _; rw [HS.out, if_neg q46, if_neg (by omega)]
      have htz : (t == 0) = false ∨ ((t == 0) = true ∧ ¬ (0 : Int) < (k : Int)) := by
        by_cases h : t = 0
        · right
          refine ⟨by simpa using h, ?_⟩
          have : v = 0 := by rw [h] at ht; unfold capN at ht; omega
          intro hk; exact qz ⟨this, by omega⟩
        · left; simpa using h
      obtain ⟨t2, ht2⟩ : ∃ t2, 10 * t + (y - 48) = t2 := ⟨_, rfl⟩
      obtain ⟨m, hm⟩ : ∃ m, min t2 2147483648 = m := ⟨_, rfl⟩
      have HM : Hid (m = capN 2147483648 (10 * v + (y - 48).toNat)) := by
        show _ = _
        unfold capN at ht ⊢
        omega
      have hy8 : 0 ≤ y - 48 := by omega
      have hy9 : y - 48 ≤ 9 := by omega
      have t20 : 0 ≤ t2 := by omega
      have t21 : t2 ≤ 21474836490 := by omega
      have hrow : Row .u64 79 (w.heap.size + 1) (wr.iterAt w.heap.size S (i + 1)) l0 (capL 2147483648 A) := row_iterS _ _ H2.out.2.2.2.1
      have hit : ItS w.heap.size Y (wr.iterAt w.heap.size S (i + 1)) (i + 1) := by
        have := Lib.iterAt_heap wr w.heap.size (strOfNums Y) i (i + 1) H2.out.2.2.1
        rw [HX.out.2.2] at this; unfold ItS; rw [HX.out.2.2]; exact this
      have H3 : Hid (Row .u64 79 (w.heap.size + 1) (wr.iterAt w.heap.size S (i + 1)) l0 (capL 2147483648 A) ∧ ItS w.heap.size Y (wr.iterAt w.heap.size S (i + 1)) (i + 1)) := ⟨hrow, hit⟩
      clear hrow hit ht qz
      rcases htz with htz | ⟨htz, hk0⟩
      all_goals
        go_wp2
        go_roundw
        case rel => exact ⟨i + 1, _, A, _, k + 1, m, rfl, by first | rfl | (congr 1; split <;> omega), by go_num, by omega, HN.out, HM.out, H3.out.2, H3.out.1, HB.out.1⟩
        case measure => rw [H3.out.2.pos, H2.out.2.2.2.2.2]; omega
    · obtain rfl : i = Y.length := by omega
      have hnx : Sem.run Tryz.prog (Instr.next (.pointer (some ⟨w.heap.size, 0, none⟩)) true 0) wr = .ok (.tuple #[.bool false]) wr := Lib.run_next_end_at wr w.heap.size (strOfNums Y) Y.length 0 H2.out.2.2.1 (by rw [st_size]; omega)
      have HN : Hid (capL 2147483648 (A ++ [v]) = capL 2147483648 A ++ [t] ∧ (capL 2147483648 A).length ≤ 2000 ∧ arcsP Y = if 0 < k then some (A ++ [v]) else none) := by
        refine ⟨?_, ?_, ?_⟩
        · unfold capL; rw [List.map_append, H2.out.2.1]; rfl
        · unfold capL; rw [List.length_map]; omega
        · unfold arcsP; rw [H2.out.1]; rfl
      clear ht
      by_cases qk : 0 < k
      · have qkI : (0 : Int) < (k : Int) := by omega
        go_wp2_with (at_builtin; refine wpList_ap rfl (.tmp 44) (.tmp 46) 88 88 rfl .u64 79 8 Tryz.und64 Tryz.info64 (by decide) (w.heap.size + 1) _ (capL 2147483648 A) rfl (H2.out.2.2.2.1.alloc _) _ [_] rfl (src_sl Tryz.und64 (new_sl (k := .u64) [_] (0, 0))) (by have := HN.out.2.1; simp; omega) (by have := H2.out.2.2.1.lt; simp; omega) ?_; intro v2 w2 hr2 hg2)
        have hb2 : Below w.heap.size w w2 := (al2' H2.out.2.2.2.2.1).trans ((hg2.below (H2.out.2.2.2.1.alloc _) (by have := H2.out.2.2.1.lt; simp; omega)).mono (by omega))
        go_ret2
        refine ⟨.inl ⟨A ++ [v], v2, by rw [HN.out.2.2, if_pos qk], rfl, ?_⟩, hb2⟩
        rw [HN.out.1]; exact hr2
      · have qkI : ¬ (0 : Int) < (k : Int) := by omega
        go_wp2_with (at_builtin; refine wpList_ap rfl (.tmp 44) (.tmp 46) 88 88 rfl .u64 79 8 Tryz.und64 Tryz.info64 (by decide) (w.heap.size + 1) _ (capL 2147483648 A) rfl (H2.out.2.2.2.1.alloc _) _ [_] rfl (src_sl Tryz.und64 (new_sl (k := .u64) [_] (0, 0))) (by have := HN.out.2.1; simp; omega) (by have := H2.out.2.2.1.lt; simp; omega) ?_; intro v2 w2 hr2 hg2)
        have hb2 : Below w.heap.size w w2 := (al2' H2.out.2.2.2.2.1).trans ((hg2.below (H2.out.2.2.2.1.alloc _) (by have := H2.out.2.2.1.lt; simp; omega)).mono (by omega))
        go_ret2
        exact ⟨.inr ⟨by rw [HN.out.2.2, if_neg qk], v2, rfl⟩, hb2⟩
end Go.Proofs.YtndoibmpnhkmpaaGreatDoor
