/-
  Der: the reference's Int.
-/
import Derived.Test.YtillkhjihggcjaaGreatDoorK15
namespace Go.Proofs.YtillkhjihggcjaaGreatDoor
open Go.RowKit
set_option maxRecDepth 20000 in
set_option maxHeartbeats 4000000 in
theorem RInt_any {w : World} (v : Value) (X : List Int) (hX : Sl .u8 w v X) (uX : U8s X) (hl : X.length ≤ 16384) :
    Calls Tryz.prog 54 #[v] w fun e w' => e = .returned (.tuple #[.int .i64 (intV X), .int .i64 (intE X)]) ∧ w = w' := by
  have HI : Hid (Calls Tryz.prog 60 #[v] w fun e w' => e = .returned (.bool (intOk X)) ∧ w = w') := whole_any v X hX uX hl
  obtain ⟨a, c, rfl, hc, hx⟩ := hX
  obtain ⟨n, hn⟩ : ∃ n, X.length = n := ⟨_, rfl⟩
  rw [hn] at HI hc ⊢
  cases hok : intOk X with
  | false =>
    have HV : Hid (intV X = 0 ∧ intE X = 6) := ⟨by unfold intV; rw [hok]; simp, by unfold intE; rw [hok]; simp⟩
    rw [hok] at HI
    clear hx hok
    go_enter Tryz.func54, Tryz.ntmps54
    go_wp2_with fail
    refine HI.out.mono ?_
    rintro e w1 ⟨rfl, rfl⟩
    go_wp2
    go_ret2
    exact ⟨by rw [HV.out.1, HV.out.2]; rfl, rfl⟩
  | true =>
    have hne := intOk_ne hok
    rw [hok] at HI
    rcases hx with hx | ⟨b, off, rfl, hb, hr⟩
    · rw [hx] at hne; simp at hne
    by_cases hbig : 8 < n
    · have HV : Hid (intV X = 0 ∧ intE X = 3) := ⟨by unfold intV; rw [if_neg (fun h => by have := h.2; omega)], by unfold intE; rw [hok, hn]; simp [hbig]⟩
      have hbI : (8 : Int) < (n : Int) := by omega
      clear hr hok
      go_enter Tryz.func54, Tryz.ntmps54
      go_wp2_with fail
      refine HI.out.mono ?_
      rintro e w1 ⟨rfl, rfl⟩
      go_wp2
      go_ret2
      exact ⟨by rw [HV.out.1, HV.out.2]; rfl, rfl⟩
    · have HV : Hid (intV X = iv X n ∧ intE X = 0) := ⟨by unfold intV; rw [if_pos ⟨hok, by omega⟩, hn], by unfold intE; rw [hok, hn]; simp [hbig]⟩
      have hbI : ¬ (8 : Int) < (n : Int) := by omega
      rw [hn] at hne
      have hneI : (1 : Int) ≤ (n : Int) := by omega
      have hneI2 : (0 : Int) < (n : Int) := by omega
      obtain ⟨x, hx⟩ : ∃ x, X.getD 0 0 = x := ⟨_, rfl⟩
      have cx : w.cell? ⟨b, off, none⟩ = some (.int .u8 x) := by have := hr 0 (by omega); rw [hx] at this; exact this
      have HX : Hid (Rd .u8 w b off X ∧ U8s X ∧ X.length = n ∧ X.getD 0 0 = x) := ⟨hr, uX, hn, hx⟩
      have h128 : 128 ≤ x ∨ ¬ 128 ≤ x := by omega
      obtain ⟨s0, hs0⟩ : ∃ s0, iv X 0 % 18446744073709551616 = s0 := ⟨_, rfl⟩
      have HS0 : Hid (iv X 0 % 18446744073709551616 = s0) := hs0
      have HSV : Hid ((128 ≤ x → s0 = 18446744073709551615) ∧ (¬ 128 ≤ x → s0 = 0)) := by
        have h9 : iv X 0 = if 128 ≤ X.getD 0 0 then -1 else 0 := rfl
        rw [hx] at h9
        refine ⟨fun h => ?_, fun h => ?_⟩
        · rw [if_pos h] at h9; rw [← hs0, h9]; decide
        · rw [if_neg h] at h9; rw [← hs0, h9]; decide
      clear hr hok uX hx hl hs0
      go_enter Tryz.func54, Tryz.ntmps54
      go_wp2_with fail
      refine HI.out.mono ?_
      rintro e w1 ⟨rfl, rfl⟩
      rcases h128 with h128 | h128
      all_goals
        go_wp2_with fail
        go_loopw [4, 5] (fun vv kv wr => ∃ (i : Nat) (u : Int), vv = .int .u64 u ∧ kv = .int .i64 i ∧ i ≤ n ∧ iv X i % 18446744073709551616 = u ∧ w = wr) (fun _ kv _ => n - (intOf kv).toNat)
        case atStart => exact ⟨0, s0, by first | rw [HSV.out.1 h128] | rw [HSV.out.2 h128], rfl, by omega, HS0.out, rfl⟩
        case round =>
          obtain ⟨i, u, rfl, rfl, hi, hu, rfl⟩ := hrel
          have HU : Hid (iv X i % 18446744073709551616 = u) := hu
          clear hu
          by_cases hlt : i < n
          · have l1 : (i : Int) < (n : Int) := by omega
            obtain ⟨y, hy⟩ : ∃ y, X.getD i 0 = y := ⟨_, rfl⟩
            have cy : w.cell? ⟨b, off + i, none⟩ = some (.int .u8 y) := by
              have := HX.out.1 i (by have := HX.out.2.2.1; omega)
              rw [hy] at this; exact this
            have uy := HX.out.2.1.at i
            rw [hy] at uy
            obtain ⟨y0, y1⟩ := uy
            obtain ⟨m, hm⟩ : ∃ m, IntKind.u64.wrap (u * 256) = m := ⟨_, rfl⟩
            obtain ⟨u2, hu2⟩ : ∃ u2, IntKind.u64.wrap (m + y) = u2 := ⟨_, rfl⟩
            have HU2 : Hid (iv X (i + 1) % 18446744073709551616 = u2) := by
              show (256 * iv X i + X.getD i 0) % 18446744073709551616 = u2
              have h1 := HU.out
              rw [IntKind.wrap_u64] at hm hu2
              rw [hy]
              omega
            clear hy
            go_wp2
            go_roundw
            case rel => exact ⟨i + 1, u2, rfl, by go_num, by omega, HU2.out, trivial⟩
            case measure => simp [intOf]; omega
          · obtain rfl : i = n := by omega
            have l1 : ¬ (i : Int) < (i : Int) := by omega
            have HW : Hid (wrap64 u = iv X i ∧ IntKind.i64.wrap u = iv X i) := by
              have h1 := HU.out
              obtain ⟨d, hd⟩ : ∃ d, i = d + 1 := ⟨i - 1, by omega⟩
              have h2 := iv_range HX.out.2.1 d (by omega)
              rw [← hd] at h2
              refine ⟨by unfold wrap64; omega, by rw [IntKind.wrap_i64]; omega⟩
            go_wp2
            go_ret2
            exact ⟨by rw [HV.out.1, HV.out.2]; first | rw [HW.out.1]; rfl | rw [HW.out.2]; rfl, rfl⟩
end Go.Proofs.YtillkhjihggcjaaGreatDoor
/-
  Der: any number in bytes of seven bits.
-/
namespace Go.Proofs.YtillkhjihggcjaaGreatDoor
open Go.RowKit
/-- A group of seven bits that another follows. -/
def gr (n j : Nat) : Int := ((n / 128 ^ j % 128 + 128 : Nat) : Int)
/-- The first i of the groups k, k - 1, .. -/
def tp (n k : Nat) : Nat → List Int
  | 0 => []
  | i + 1 => tp n k i ++ [gr n (k - i)]
def sev (k n : Nat) : List Int := tp n k k ++ [((n % 128 : Nat) : Int)]
theorem tp_len (n k : Nat) : ∀ i, (tp n k i).length = i
  | 0 => rfl
  | i + 1 => by show (tp n k i ++ [_]).length = _; rw [List.length_append, tp_len n k i]; rfl
theorem or_128 (x : Int) (h : U8 x) : bits .or .u8 x 128 = x % 128 + 128 := by
  obtain ⟨h0, h1⟩ := h
  obtain ⟨k, rfl⟩ := Int.eq_ofNat_of_zero_le h0
  have : ∀ y : Fin 256, bits .or .u8 ((y : Nat) : Int) 128 = ((y : Nat) : Int) % 128 + 128 := by decide +kernel
  exact this ⟨k, by omega⟩
theorem and_127w (z : Int) (h0 : 0 ≤ z) (h1 : z < 18446744073709551616) : bits .and .u64 z 127 = z % 128 := by go_bits2
theorem wrapU8 (z : Int) (h0 : 0 ≤ z) (h1 : z < 256) : IntKind.u8.wrap z = z := by rw [IntKind.wrap_u8]; omega
theorem div_sev (n j s : Nat) (hs : s = 7 * j) : (n : Int) / 2 ^ s = ((n / 128 ^ j : Nat) : Int) := by
  subst hs
  rw [Int.pow_mul]
  simp
theorem Row.drew {k : IntKind} {e : TypeId} {B : Nat} {w : World} {v : Value} {xs : List Int} (h : Row k e B w v xs) : Row k e B w.drew v xs :=
  h.below ⟨rfl, rfl, rfl, Nat.le_refl _, fun _ _ => rfl⟩
end Go.Proofs.YtillkhjihggcjaaGreatDoor
/-
  Der: any length; any head.
-/
namespace Go.Proofs.YtillkhjihggcjaaGreatDoor
open Go.RowKit
def by8 (n j : Nat) : Int := ((n / 256 ^ j % 256 : Nat) : Int)
/-- The first i of the bytes c - 1, c - 2, .. -/
def tb (n c : Nat) : Nat → List Int
  | 0 => []
  | i + 1 => tb n c i ++ [by8 n (c - 1 - i)]
theorem tb_len (n c : Nat) : ∀ i, (tb n c i).length = i
  | 0 => rfl
  | i + 1 => by show (tb n c i ++ [_]).length = _; rw [List.length_append, tb_len n c i]; rfl
def lenB (n c : Nat) : List Int := if n < 128 then [(n : Int)] else (128 + (c : Int)) :: tb n c c
theorem div_by8 (n j s : Nat) (hs : s = 8 * j) : (n : Int) / 2 ^ s = ((n / 256 ^ j : Nat) : Int) := by
  subst hs
  rw [Int.pow_mul]
  simp
end Go.Proofs.YtillkhjihggcjaaGreatDoor
/-
  Der: any head.
-/
namespace Go.Proofs.YtillkhjihggcjaaGreatDoor
open Go.RowKit
def frst (class_ : Int) (cons : Bool) : Int := class_ * 64 + (if cons then 32 else 0)
def headB (class_ : Int) (cons : Bool) (tag k : Nat) : List Int := if tag < 31 then [frst class_ cons + tag] else (frst class_ cons + 31) :: sev k tag
theorem or_low (a t : Nat) (ha : a < 8) (ht : t < 32) : bits .or .u8 (32 * (a : Int)) (t : Int) = 32 * (a : Int) + t := by
  have : ∀ (a : Fin 8) (t : Fin 32), bits .or .u8 (32 * ((a : Nat) : Int)) ((t : Nat) : Int) = 32 * ((a : Nat) : Int) + ((t : Nat) : Int) := by decide +kernel
  exact this ⟨a, ha⟩ ⟨t, ht⟩
theorem or_31 (a : Nat) (ha : a < 8) : bits .or .u8 (32 * (a : Int)) 31 = 32 * (a : Int) + 31 := or_low a 31 ha (by decide)
theorem or_c0 : bits .or .u8 0 32 = 32 := by decide +kernel
theorem or_c1 : bits .or .u8 64 32 = 96 := by decide +kernel
theorem or_c2 : bits .or .u8 128 32 = 160 := by decide +kernel
theorem or_c3 : bits .or .u8 192 32 = 224 := by decide +kernel
end Go.Proofs.YtillkhjihggcjaaGreatDoor
/-
  Der: slices of slices; Put.
-/
namespace Go.Proofs.YtillkhjihggcjaaGreatDoor
open Go.RowKit
/-- The slice v holds the values vs. -/
def SlS (w : World) (v : Value) (vs : List Value) : Prop :=
  ∃ a c, v = .slice a vs.length c ∧ vs.length ≤ c ∧ (vs = [] ∨ ∃ b off, a = some ⟨b, off, none⟩ ∧ b < w.heap.size ∧ ∀ i, i < vs.length → w.cell? ⟨b, off + i, none⟩ = some (vs.getD i undef))
/-- The values are slices that read the lists. -/
def Msgs (w : World) (vs : List Value) (ms : List (List Int)) : Prop := vs.length = ms.length ∧ ∀ i, i < vs.length → Sl .u8 w (vs.getD i undef) (ms.getD i []) ∧ U8s (ms.getD i [])
theorem Msgs.below {w w' : World} {vs : List Value} {ms : List (List Int)} (h : Msgs w vs ms) (hb : Below w.heap.size w w') : Msgs w' vs ms := ⟨h.1, fun i hi => ⟨below_sl hb (h.2 i hi).1, (h.2 i hi).2⟩⟩
theorem SlS.below {w w' : World} {v : Value} {vs : List Value} (h : SlS w v vs) (hb : Below w.heap.size w w') : SlS w' v vs := by
  obtain ⟨a, c, rfl, hc, h⟩ := h
  refine ⟨a, c, rfl, hc, ?_⟩
  rcases h with h | ⟨b, off, rfl, hbl, hr⟩
  · exact .inl h
  · exact .inr ⟨b, off, rfl, Nat.lt_of_lt_of_le hbl hb.size, fun i hi => (hb.cell (p := ⟨b, off + i, none⟩) hbl).trans (hr i hi)⟩
theorem flatten_u8 {ms : List (List Int)} (h : ∀ i, i < ms.length → U8s (ms.getD i [])) : U8s ms.flatten := by
  intro x hx
  obtain ⟨l, hl, hxl⟩ := List.mem_flatten.1 hx
  obtain ⟨i, hi, rfl⟩ := List.mem_iff_getElem.1 hl
  have := h i hi
  simp [hi] at this
  exact this x hxl
theorem flatten_take {ms : List (List Int)} {i : Nat} (hi : i < ms.length) : (ms.take (i + 1)).flatten = (ms.take i).flatten ++ ms.getD i [] := by
  rw [List.take_succ_eq_append_getElem hi, List.flatten_append, List.getD_eq_getElem?_getD, List.getElem?_eq_getElem hi]
  simp only [List.flatten_cons, List.flatten_nil, List.append_nil, Option.getD_some]
theorem flatten_take_le (ms : List (List Int)) (i : Nat) : (ms.take i).flatten.length ≤ ms.flatten.length := by
  have h : ms.flatten = (ms.take i).flatten ++ (ms.drop i).flatten := by rw [← List.flatten_append, List.take_append_drop]
  rw [h, List.length_append]; omega
/-- A slice of slices of bytes, as an argument has it. -/
structure Lists (w : World) (a : Option Addr) (n c : Nat) (vs : List Value) (ms : List (List Int)) : Prop where
  sls : SlS w (.slice a n c) vs
  msgs : Msgs w vs ms
  len : ms.length = n
theorem Lists.at {w : World} {a : Option Addr} {n c : Nat} {vs : List Value} {ms : List (List Int)} (h : Lists w a n c vs ms) (i : Nat) (hi : i < n) :
    ∃ b off ai ni ci, a = some ⟨b, off, none⟩ ∧ b < w.heap.size ∧ vs.getD i undef = .slice ai ni ci ∧ w.cell? ⟨b, off + i, none⟩ = some (.slice ai ni ci) ∧ Sl .u8 w (.slice ai ni ci) (ms.getD i []) ∧ U8s (ms.getD i []) ∧ (ms.getD i []).length = ni := by
  have hv : vs.length = n := by rw [h.msgs.1, h.len]
  obtain ⟨a', c', hva, hc, hx⟩ := h.sls
  simp only [Value.slice.injEq] at hva
  obtain ⟨rfl, _, rfl⟩ := hva
  rcases hx with hx | ⟨b, off, rfl, hb, hcell⟩
  · rw [hx] at hv; simp at hv; omega
  · have h1 := (h.msgs.2 i (by omega))
    obtain ⟨ai, ci, hvi, hci, hxi⟩ := h1.1
    refine ⟨b, off, ai, _, ci, rfl, hb, hvi, ?_, ?_, h1.2, rfl⟩
    · rw [hcell i (by omega), hvi]
    · rw [← hvi]; exact h1.1
theorem Lists.below {w w' : World} {a : Option Addr} {n c : Nat} {vs : List Value} {ms : List (List Int)} (h : Lists w a n c vs ms) (hb : Below w.heap.size w w') : Lists w' a n c vs ms := ⟨h.sls.below hb, h.msgs.below hb, h.len⟩
/-- 'make([]T, 0, n)': room for n in a block of its own. -/
theorem wpList_mk0 {P : Program} (w : World) {ops : Array Oper} {rest : List Oper} {o : Oper} {a : Act} {Q : Exit → Act → World → Prop} (hg : o.guard = none) (l c : Operand) (t : TypeId) (hop : o.op = .makeSlice t l c)
    (k : IntKind) (e : TypeId) (bytes : Nat) (ht : P.underlying t = some (.slice e)) (hi : (P.info? e).map (fun i => (i.zero, i.size, i.bytes)) = some (some (.int k 0), 1, bytes))
    (C : Int) (n : Nat) (hl : a.eval l = .int .i64 0) (hc : a.eval c = .int .i64 C) (hC : C = n) (hb : bytes * n ≤ 281474976710656) (hm : n ≤ 1152921504606846976)
    (hK : ∀ w', Row k e w.heap.size w' (.slice (some ⟨w.heap.size, 0, none⟩) 0 n) [] → Below w.heap.size w w' → wpList P ops Q rest (a.put o.dst (.slice (some ⟨w.heap.size, 0, none⟩) 0 n)) w') :
    wpList P ops Q (o :: rest) a w := by
  obtain ⟨i0, hi0, hz0, hz1, hz2⟩ := info_parts hi
  subst hC
  refine wpList_plain hg fun K hK' => ?_
  have hb' : (i0.bytes : Int) * (n : Int) ≤ 281474976710656 := by
    have h : ((i0.bytes * n : Nat) : Int) ≤ 281474976710656 := by rw [hz2]; omega
    rwa [Int.natCast_mul] at h
  have hr := run_make (P := P) w t e i0 (.int k 0) ht hi0 hz0 .i64 .i64 0 n (Int.le_refl _) (by omega) hb' (by omega)
  simp only [Int.toNat_zero, Int.toNat_natCast, hz1] at hr
  have hA : Arr k e (w.alloc (.cells (madeCells (Value.int k 0).cells (n * 1)) e)) w.heap.size (List.replicate n 0) := arr_nw rfl (by
    have e1 : (madeCells (Value.int k 0).cells (n * 1)).toList = List.replicate n (.int k 0) := by rw [Nat.mul_one]; exact toList_madeCells_one (.int k 0) n
    rw [toArray_of_toList e1]; simp)
  unfold Oper.wp
  simp [execOp, hop, hl, hc, hr, Result.andThen]
  refine hK' _ _ (hK _ (.inr ⟨w.heap.size, List.replicate n 0, by simp, Nat.le_refl _, ?_, by simp, by simp, by simp [maxLen]; omega⟩) (al1 _))
  simpa using hA
end Go.Proofs.YtillkhjihggcjaaGreatDoor
/-
  Der: the reference's Head.
-/
namespace Go.Proofs.YtillkhjihggcjaaGreatDoor
open Go.RowKit
theorem tp_cons (n k : Nat) : ∀ i, i ≤ k → tp n (k + 1) (i + 1) = gr n (k + 1) :: tp n k i
  | 0, _ => rfl
  | i + 1, h => by
    show tp n (k + 1) (i + 1) ++ [gr n (k + 1 - (i + 1))] = gr n (k + 1) :: (tp n k i ++ [gr n (k - i)])
    rw [tp_cons n k i (by omega), show k + 1 - (i + 1) = k - i by omega]
    rfl
theorem sev_cons (n k : Nat) : sev (k + 1) n = gr n (k + 1) :: sev k n := by
  unfold sev
  rw [tp_cons n k k (Nat.le_refl _)]
  rfl
theorem tb_cons (n k : Nat) : ∀ i, i ≤ k → tb n (k + 1) (i + 1) = by8 n k :: tb n k i
  | 0, _ => rfl
  | i + 1, h => by
    show tb n (k + 1) (i + 1) ++ [by8 n (k + 1 - 1 - (i + 1))] = by8 n k :: (tb n k i ++ [by8 n (k - 1 - i)])
    rw [tb_cons n k i (by omega), show k + 1 - 1 - (i + 1) = k - 1 - i by omega]
    rfl
/-- What the reference has of a number's groups after j rounds. -/
def rs (n : Nat) : Nat → List Int
  | 0 => []
  | j + 1 => sev j n
theorem rs_len (n j : Nat) : (rs n j).length = j := by
  cases j with
  | zero => rfl
  | succ j => show (sev j n).length = _; unfold sev; simp [tp_len]
theorem rs_next (n j : Nat) : rs n (j + 1) = ((n / 128 ^ j % 128 + (if j = 0 then 0 else 128) : Nat) : Int) :: rs n j := by
  cases j with
  | zero => show sev 0 n = _; unfold sev; simp [tp, rs]
  | succ j => show sev (j + 1) n = _ :: sev j n; rw [sev_cons]; simp [gr]
theorem Row.lt {k : IntKind} {e : TypeId} {B : Nat} {w : World} {v : Value} {xs : List Int} (h : Row k e B w v xs) : ∀ b n c, v = .slice (some ⟨b, 0, none⟩) n c → b < w.heap.size := by
  intro b n c hv
  rcases h with ⟨rfl, _⟩ | ⟨b', S, rfl, _, hA, _⟩
  · simp at hv
  · simp only [Value.slice.injEq, Option.some.injEq, Addr.mk.injEq, and_true] at hv
    obtain ⟨rfl, _⟩ := hv
    exact (Array.getElem?_eq_some_iff.1 hA).1
theorem Grew.keep {k k2 : IntKind} {e e2 : TypeId} {C : Nat} {w w' : World} {v u : Value} {ys zs : List Int} (h : Grew k e w w' v ys) (hu : Row k2 e2 C w u zs) (hC : ∀ b n c, v = .slice (some ⟨b, 0, none⟩) n c → b < C) : Row k2 e2 C w' u zs := by
  rcases h with h | ⟨b, n, S, rfl, hA, hU, _, _⟩
  · exact hu.below h
  · rcases hu with hu | ⟨b', S', rfl, hB', hA', h2⟩
    · exact .inl hu
    · exact .inr ⟨b', S', rfl, hB', hU.arr hA' (by have := hC b _ _ rfl; omega), h2⟩
abbrev el (c t : Int) (cons : Bool) : Array Value := #[.int .i64 0, .int .i64 c, .int .i64 t, .bool cons, .slice none 0 0]
set_option maxRecDepth 20000 in
set_option maxHeartbeats 4000000 in
theorem RHead_short {w : World} (c : Int) (cons : Bool) (t k n l : Nat) (h0 : 0 ≤ c) (h3 : c ≤ 3) (hk : t / 128 ^ k < 128) (hk1 : ∀ j, j < k → 128 ≤ t / 128 ^ j) (ht : t ≤ 268435455) (hl : n / 256 ^ l = 0) (hl1 : ∀ j, j < l → 0 < n / 256 ^ j) (hl8 : l ≤ 7) (hn : n ≤ 16777216) (hlt : t < 31) :
    Calls Tryz.prog 45 #[.agg (el c t cons), .int .i64 n] w fun e w' => ∃ r, e = .returned r ∧ Row .u8 5 w.heap.size w' r (headB c cons t k ++ lenB n l) ∧ Below w.heap.size w w' := by
  have HK : Hid ((t / 128 ^ k < 128 ∧ ∀ j, j < k → 128 ≤ t / 128 ^ j) ∧ (n / 256 ^ l = 0 ∧ ∀ j, j < l → 0 < n / 256 ^ j)) := ⟨⟨hk, hk1⟩, ⟨hl, hl1⟩⟩
  clear hk hk1 hl hl1
  have hc : c = 0 ∨ c = 1 ∨ c = 2 ∨ c = 3 := by omega
  · have HB : Hid (headB c cons t k = [frst c cons + t]) := by show _ = _; unfold headB; rw [if_pos hlt]
    have w1 : IntKind.u8.wrap (t : Int) = (t : Int) := wrapU8 _ (by omega) (by omega)
    have l1 : (t : Int) < 31 := by omega
    obtain ⟨y, hy⟩ : ∃ y, frst c cons + t = y := ⟨_, rfl⟩
    rw [hy] at HB
    rcases hc with rfl | rfl | rfl | rfl <;> cases cons
    all_goals
      have hf := hy
      unfold frst at hf
      simp at hf
      have hfw : IntKind.u8.wrap y = y := wrapU8 _ (by omega) (by omega)
      go_enter Tryz.func45, Tryz.ntmps45
      go_upto_region 16 with (fail)
      refine wp_gen (fun W => Row .u8 5 w.heap.size W (.slice (some ⟨w.heap.size + 1, 0, none⟩) 1 1) [y] ∧ Below w.heap.size w W) ⟨Row.arr (S := [y]) (arr_nw (by simp) rfl) (by omega) (by simp [maxLen]), al2' (al1 _)⟩ ?_
      rintro W ⟨hrX, hbX⟩
      obtain ⟨X, hX⟩ : ∃ X, [y] = X := ⟨_, rfl⟩
      have HX : Hid (Row .u8 5 w.heap.size W (.slice (some ⟨w.heap.size + 1, 0, none⟩) 1 1) X ∧ Below w.heap.size w W ∧ X.length ≤ 20) := ⟨hX ▸ hrX, hbX, by rw [← hX]; simp⟩
      have HXe : Hid (headB _ _ t k = X) := HB.out.trans hX
      clear hrX hbX hX
      by_cases hs : n < 128
      · have HLn : Hid (lenB n l = [(n : Int)]) := by show _ = _; unfold lenB; rw [if_pos hs]
        have s1 : (n : Int) < 128 := by omega
        have s2 : IntKind.u8.wrap (n : Int) = (n : Int) := wrapU8 _ (by omega) (by omega)
        go_wp2_with (at_builtin; refine wpList_ap rfl (.tmp 53) (.tmp 56) 22 22 rfl .u8 5 1 Tryz.und8 Tryz.info8 (by decide) w.heap.size _ X rfl (HX.out.1.alloc _) _ [(n : Int)] rfl (src_sl Tryz.und8 (new1 _)) (by have := HX.out.2.2; simp; omega) (by have := HX.out.2.1.size; simp; omega) ?_; intro v4 w4 hr4 hg4)
        have hb4 : Below w.heap.size w w4 := (al2' HX.out.2.1).trans (hg4.below (HX.out.1.alloc _) (by have := HX.out.2.1.size; simp; omega))
        go_ret
        exact ⟨_, rfl, by rw [HLn.out, HXe.out]; exact hr4, hb4⟩
      · have HLn : Hid (lenB n l = (128 + (l : Int)) :: tb n l l) := by show _ = _; unfold lenB; rw [if_neg hs]
        have s1 : ¬ (n : Int) < 128 := by omega
        go_wp2_with fail
        go_loopw [1, 10] (fun nv bv wr => ∃ (j q : Nat) (b0 : Value), b0 = bv ∧ nv = .int .i64 q ∧ j ≤ l ∧ n / 256 ^ j = q ∧ q ≤ n ∧ Row .u8 5 W.heap.size wr b0 (tb n j j) ∧ Below W.heap.size W wr) (fun nv _ _ => (intOf nv).toNat)
        case atStart => exact ⟨0, n, _, rfl, rfl, by omega, by simp, Nat.le_refl _, Row.nil _ _ _ _, Below.refl _ _⟩
        case round =>
          obtain ⟨j, q, b0, rfl, rfl, hj, hq, hqn, hr5, hb5⟩ := hrel
          have H5 : Hid (Row .u8 5 W.heap.size wr b0 (tb n j j) ∧ Below W.heap.size W wr ∧ n / 256 ^ j = q) := ⟨hr5, hb5, hq⟩
          clear hb5 hq
          by_cases hlt2 : j < l
          · have g1 : (0 : Int) < (q : Int) := by have := HK.out.2.2 j hlt2; rw [H5.out.2.2] at this; omega
            obtain ⟨z, hz⟩ : ∃ z : Int, (q : Int) % 256 = z := ⟨_, rfl⟩
            have z2 : IntKind.u8.wrap z = z := wrapU8 _ (by omega) (by omega)
            have HZ : Hid (by8 n j = z ∧ (q : Int) % 256 = z) := ⟨by unfold by8; rw [H5.out.2.2]; omega, hz⟩
            have hq2 : q / 256 < q := by omega
            clear hr5
            go_wp2_with (at_builtin; refine wpList_ap rfl (.tmp 65) (.tmp 66) 22 22 rfl .u8 5 1 Tryz.und8 Tryz.info8 (by decide) W.heap.size _ [z] rfl (Row.arr (S := [z]) (arr_nw rfl rfl) H5.out.2.1.size (by simp [maxLen])) _ (tb n j j) rfl (src_sl Tryz.und8 (H5.out.1.alloc _).sl) (by have := tb_len n j j; simp; omega) (by have := H5.out.2.1.size; simp; omega) ?_; intro v6 w6 hr6 hg6)
            have hb6 : Below W.heap.size W w6 := (al2' H5.out.2.1).trans (hg6.below (Row.arr (S := [z]) (arr_nw rfl rfl) H5.out.2.1.size (by simp [maxLen])) (by have := H5.out.2.1.size; simp; omega))
            have H6 : Hid (Row .u8 5 W.heap.size w6 v6 (tb n (j + 1) (j + 1)) ∧ Below W.heap.size W w6) := ⟨by rw [tb_cons n j j (Nat.le_refl _), HZ.out.1]; exact hr6, hb6⟩
            clear hr6 hg6 hb6
            go_roundw
            case rel => exact ⟨j + 1, q / 256, _, rfl, by go_num, by omega, by rw [Nat.pow_succ, ← Nat.div_div_eq_div_mul, H5.out.2.2], by omega, H6.out.1, H6.out.2⟩
            case measure => simp [intOf]; omega
          · obtain rfl : j = l := by omega
            have g1 : ¬ (0 : Int) < (q : Int) := by have := HK.out.2.1; rw [H5.out.2.2] at this; omega
            obtain ⟨a5, c5, hv5⟩ := hr5.ne
            rw [tb_len] at hv5
            subst hv5
            have s3 : IntKind.u8.wrap (128 + (j : Int)) = 128 + (j : Int) := wrapU8 _ (by omega) (by omega)
            clear hr5
            go_wp2_with (first
              | (at_builtin; refine wpList_ap rfl (.tmp 68) (.tmp 73) 22 22 rfl .u8 5 1 Tryz.und8 Tryz.info8 (by decide) w.heap.size _ X rfl ((HX.out.1.below H5.out.2.1).alloc _) _ [128 + (j : Int)] rfl (src_sl Tryz.und8 (new1 _)) (by have := HX.out.2.2; simp; omega) (by have := HX.out.2.1.size; have := H5.out.2.1.size; simp; omega) ?_; intro v7 w7 hr7 hg7; have H7 : Hid (Row .u8 5 w.heap.size w7 v7 (X ++ [128 + (j : Int)]) ∧ Row .u8 5 W.heap.size w7 (.slice a5 j c5) (tb n j j) ∧ Below w.heap.size w w7) := ⟨hr7, hg7.keep (H5.out.1.alloc _) HX.out.1.lt, ((HX.out.2.1.trans (H5.out.2.1.mono HX.out.2.1.size)).trans ((al1 _).mono (by have := HX.out.2.1.size; have := H5.out.2.1.size; omega))).trans (hg7.below ((HX.out.1.below H5.out.2.1).alloc _) (by have := HX.out.2.1.size; have := H5.out.2.1.size; simp; omega))⟩; clear hr7 hg7)
              | (at_builtin; refine wpList_ap rfl (.tmp 74) (.tmp 75) 22 22 rfl .u8 5 1 Tryz.und8 Tryz.info8 (by decide) w.heap.size _ (X ++ [128 + (j : Int)]) rfl H7.out.1 _ (tb n j j) rfl (src_sl Tryz.und8 H7.out.2.1.sl) (by have := HX.out.2.2; have := tb_len n j j; simp; omega) H7.out.2.2.size ?_; intro v8 w8 hr8 hg8))
            have hb8 : Below w.heap.size w w8 := H7.out.2.2.trans (hg8.below H7.out.1 H7.out.2.2.size)
            go_ret
            refine ⟨_, rfl, ?_, hb8⟩
            rw [HLn.out, HXe.out]
            rw [List.append_assoc] at hr8
            exact hr8
end Go.Proofs.YtillkhjihggcjaaGreatDoor
/-
  Der: the reference's Head at a long tag.
-/
namespace Go.Proofs.YtillkhjihggcjaaGreatDoor
open Go.RowKit
theorem sev_pos {t k : Nat} (hk1 : ∀ j, j < k → 128 ≤ t / 128 ^ j) (ht : 0 < t) : ∀ j, j ≤ k → 0 < t / 128 ^ j := by
  intro j hj
  cases j with
  | zero => simpa using ht
  | succ j =>
    have := hk1 j (by omega)
    rw [Nat.pow_succ, ← Nat.div_div_eq_div_mul]
    omega
theorem sev_end {t k : Nat} (hk : t / 128 ^ k < 128) : t / 128 ^ (k + 1) = 0 := by
  rw [Nat.pow_succ, ← Nat.div_div_eq_div_mul]
  exact Nat.div_eq_of_lt hk
set_option maxRecDepth 20000 in
set_option maxHeartbeats 4000000 in
theorem RHead_long {w : World} (c : Int) (cons : Bool) (t k n l : Nat) (h0 : 0 ≤ c) (h3 : c ≤ 3) (hk : t / 128 ^ k < 128) (hk1 : ∀ j, j < k → 128 ≤ t / 128 ^ j) (hk8 : k ≤ 8) (ht : t ≤ 268435455) (hl : n / 256 ^ l = 0) (hl1 : ∀ j, j < l → 0 < n / 256 ^ j) (hl8 : l ≤ 7) (hn : n ≤ 16777216) (hlt : ¬ t < 31) :
    Calls Tryz.prog 45 #[.agg (el c t cons), .int .i64 n] w fun e w' => ∃ r, e = .returned r ∧ Row .u8 5 w.heap.size w' r (headB c cons t k ++ lenB n l) ∧ Below w.heap.size w w' := by
  have HK : Hid ((t / 128 ^ k < 128 ∧ ∀ j, j < k → 128 ≤ t / 128 ^ j) ∧ (n / 256 ^ l = 0 ∧ ∀ j, j < l → 0 < n / 256 ^ j)) := ⟨⟨hk, hk1⟩, ⟨hl, hl1⟩⟩
  clear hk hk1 hl hl1
  have hc : c = 0 ∨ c = 1 ∨ c = 2 ∨ c = 3 := by omega
  have HB : Hid (headB c cons t k = (frst c cons + 31) :: rs t (k + 1)) := by show _ = _; unfold headB; rw [if_neg hlt]; rfl
  obtain ⟨X, hX⟩ : ∃ X, headB c cons t k = X := ⟨_, rfl⟩
  have HX0 : Hid (headB c cons t k = X ∧ X = (frst c cons + 31) :: rs t (k + 1)) := ⟨hX, by rw [← hX, HB.out]⟩
  clear hX HB
  have HP : Hid ((∀ j, j ≤ k → 0 < t / 128 ^ j) ∧ t / 128 ^ (k + 1) = 0) := ⟨sev_pos HK.out.1.2 (by omega), sev_end HK.out.1.1⟩
  have l1 : ¬ (t : Int) < 31 := by omega
  rcases hc with rfl | rfl | rfl | rfl <;> cases cons
  all_goals
    go_enter Tryz.func45, Tryz.ntmps45
    go_wp2_with fail
    go_loopw [7, 8] (fun bv vv wr => ∃ (j q : Nat) (b0 : Value), b0 = bv ∧ vv = .int .i64 q ∧ j ≤ k + 1 ∧ t / 128 ^ j = q ∧ q ≤ t ∧ Row .u8 5 w.heap.size wr b0 (rs t j) ∧ Below w.heap.size w wr) (fun _ vv _ => (intOf vv).toNat)
    case atStart => exact ⟨0, t, _, rfl, rfl, by omega, by simp, Nat.le_refl _, Row.nil _ _ _ _, al1 _⟩
    case round =>
      obtain ⟨j, q, b0, rfl, rfl, hj, hq, hqt, hr5, hb5⟩ := hrel
      obtain ⟨a5, c5, hv5⟩ := hr5.ne
      rw [rs_len] at hv5
      subst hv5
      have H5 : Hid (Row .u8 5 w.heap.size wr (.slice a5 j c5) (rs t j) ∧ Below w.heap.size w wr ∧ t / 128 ^ j = q) := ⟨hr5, hb5, hq⟩
      clear hb5 hq hr5
      by_cases hjk : j ≤ k
      · have g1 : (0 : Int) < (q : Int) := by have := HP.out.1 j hjk; rw [H5.out.2.2] at this; omega
        have hq2 : q / 128 < q := by omega
        obtain ⟨z, hz⟩ : ∃ z : Int, (q : Int) % 128 = z := ⟨_, rfl⟩
        have z2 : IntKind.u8.wrap z = z := wrapU8 _ (by omega) (by omega)
        have z3 : IntKind.u8.wrap (z + 128) = z + 128 := wrapU8 _ (by omega) (by omega)
        by_cases hj0 : j = 0
        · have HZ : Hid (rs t (j + 1) = z :: rs t j ∧ (q : Int) % 128 = z) := ⟨by rw [rs_next, if_pos hj0, H5.out.2.2]; congr 1 <;> omega, hz⟩
          have j0 : ¬ (0 : Int) < (j : Int) := by omega
          go_wp2_with (at_builtin; refine wpList_ap rfl (.tmp 43) (.tmp 44) 22 22 rfl .u8 5 1 Tryz.und8 Tryz.info8 (by decide) w.heap.size _ [z] rfl (Row.arr (S := [z]) (arr_nw rfl rfl) H5.out.2.1.size (by simp [maxLen])) _ (rs t j) rfl (src_sl Tryz.und8 (H5.out.1.alloc _).sl) (by have := rs_len t j; simp; omega) (by have := H5.out.2.1.size; simp; omega) ?_; intro v6 w6 hr6 hg6)
          have hb6 : Below w.heap.size w w6 := (al2' H5.out.2.1).trans (hg6.below (Row.arr (S := [z]) (arr_nw rfl rfl) H5.out.2.1.size (by simp [maxLen])) (by have := H5.out.2.1.size; simp; omega))
          have H6 : Hid (Row .u8 5 w.heap.size w6 v6 (rs t (j + 1)) ∧ Below w.heap.size w w6) := ⟨by rw [HZ.out.1]; exact hr6, hb6⟩
          clear hr6 hg6 hb6
          go_roundw
          case rel => exact ⟨j + 1, q / 128, _, rfl, by go_num, by omega, by rw [Nat.pow_succ, ← Nat.div_div_eq_div_mul, H5.out.2.2], by omega, H6.out.1, H6.out.2⟩
          case measure => simp [intOf]; omega
        · have HZ : Hid (rs t (j + 1) = (z + 128) :: rs t j ∧ (q : Int) % 128 = z) := ⟨by rw [rs_next, if_neg hj0, H5.out.2.2]; congr 1 <;> omega, hz⟩
          have j0 : (0 : Int) < (j : Int) := by omega
          go_wp2_with (at_builtin; refine wpList_ap rfl (.tmp 43) (.tmp 44) 22 22 rfl .u8 5 1 Tryz.und8 Tryz.info8 (by decide) w.heap.size _ [z + 128] rfl (Row.arr (S := [z + 128]) (arr_nw rfl rfl) H5.out.2.1.size (by simp [maxLen])) _ (rs t j) rfl (src_sl Tryz.und8 (H5.out.1.alloc _).sl) (by have := rs_len t j; simp; omega) (by have := H5.out.2.1.size; simp; omega) ?_; intro v6 w6 hr6 hg6)
          have hb6 : Below w.heap.size w w6 := (al2' H5.out.2.1).trans (hg6.below (Row.arr (S := [z + 128]) (arr_nw rfl rfl) H5.out.2.1.size (by simp [maxLen])) (by have := H5.out.2.1.size; simp; omega))
          have H6 : Hid (Row .u8 5 w.heap.size w6 v6 (rs t (j + 1)) ∧ Below w.heap.size w w6) := ⟨by rw [HZ.out.1]; exact hr6, hb6⟩
          clear hr6 hg6 hb6
          go_roundw
          case rel => exact ⟨j + 1, q / 128, _, rfl, by go_num, by omega, by rw [Nat.pow_succ, ← Nat.div_div_eq_div_mul, H5.out.2.2], by omega, H6.out.1, H6.out.2⟩
          case measure => simp [intOf]; omega
      · obtain rfl : j = k + 1 := by omega
        have g1 : ¬ (0 : Int) < (q : Int) := by have := HP.out.2; rw [H5.out.2.2] at this; omega
        go_upto_region 16 with ((at_builtin; refine wpList_ap rfl (.tmp 48) (.tmp 49) 22 22 rfl .u8 5 1 Tryz.und8 Tryz.info8 (by decide) w.heap.size _ [_] rfl (Row.arr (S := [_]) (arr_nw rfl rfl) H5.out.2.1.size (by simp [maxLen])) _ (rs t (k + 1)) rfl (src_sl Tryz.und8 (H5.out.1.alloc _).sl) (by have := rs_len t (k + 1); simp; omega) (by have := H5.out.2.1.size; simp; omega) ?_; intro v3 W hr3 hg3))
        have hb3 : Below w.heap.size w W := (al2' H5.out.2.1).trans (hg3.below (Row.arr (S := [_]) (arr_nw rfl rfl) H5.out.2.1.size (by simp [maxLen])) (by have := H5.out.2.1.size; simp; omega))
        have HX : Hid (Row .u8 5 w.heap.size W v3 X ∧ Below w.heap.size w W ∧ X.length ≤ 20) := ⟨by rw [HX0.out.2]; exact hr3, hb3, by rw [HX0.out.2, List.length_cons, rs_len]; omega⟩
        have HXe : Hid (headB _ _ t k = X) := HX0.out.1
        clear hr3 hg3 hb3
        by_cases hs : n < 128
        · have HLn : Hid (lenB n l = [(n : Int)]) := by show _ = _; unfold lenB; rw [if_pos hs]
          have s1 : (n : Int) < 128 := by omega
          have s2 : IntKind.u8.wrap (n : Int) = (n : Int) := wrapU8 _ (by omega) (by omega)
          go_wp2_with (at_builtin; refine wpList_ap rfl (.tmp 53) (.tmp 56) 22 22 rfl .u8 5 1 Tryz.und8 Tryz.info8 (by decide) w.heap.size _ X rfl (HX.out.1.alloc _) _ [(n : Int)] rfl (src_sl Tryz.und8 (new1 _)) (by have := HX.out.2.2; simp; omega) (by have := HX.out.2.1.size; simp; omega) ?_; intro v4 w4 hr4 hg4)
          have hb4 : Below w.heap.size w w4 := (al2' HX.out.2.1).trans (hg4.below (HX.out.1.alloc _) (by have := HX.out.2.1.size; simp; omega))
          go_ret
          exact ⟨_, rfl, by rw [HLn.out, HXe.out]; exact hr4, hb4⟩
        · have HLn : Hid (lenB n l = (128 + (l : Int)) :: tb n l l) := by show _ = _; unfold lenB; rw [if_neg hs]
          have s1 : ¬ (n : Int) < 128 := by omega
          go_wp2_with fail
          go_loopw [1, 10] (fun nv bv wr => ∃ (j q : Nat) (b0 : Value), b0 = bv ∧ nv = .int .i64 q ∧ j ≤ l ∧ n / 256 ^ j = q ∧ q ≤ n ∧ Row .u8 5 W.heap.size wr b0 (tb n j j) ∧ Below W.heap.size W wr) (fun nv _ _ => (intOf nv).toNat)
          case atStart => exact ⟨0, n, _, rfl, rfl, by omega, by simp, Nat.le_refl _, Row.nil _ _ _ _, Below.refl _ _⟩
          case round =>
            obtain ⟨j, q, b0, rfl, rfl, hj, hq, hqn, hr5, hb5⟩ := hrel
            have H5 : Hid (Row .u8 5 W.heap.size wr b0 (tb n j j) ∧ Below W.heap.size W wr ∧ n / 256 ^ j = q) := ⟨hr5, hb5, hq⟩
            clear hb5 hq
            by_cases hlt2 : j < l
            · have g1 : (0 : Int) < (q : Int) := by have := HK.out.2.2 j hlt2; rw [H5.out.2.2] at this; omega
              obtain ⟨z, hz⟩ : ∃ z : Int, (q : Int) % 256 = z := ⟨_, rfl⟩
              have z2 : IntKind.u8.wrap z = z := wrapU8 _ (by omega) (by omega)
              have HZ : Hid (by8 n j = z ∧ (q : Int) % 256 = z) := ⟨by unfold by8; rw [H5.out.2.2]; omega, hz⟩
              have hq2 : q / 256 < q := by omega
              clear hr5
              go_wp2_with (at_builtin; refine wpList_ap rfl (.tmp 65) (.tmp 66) 22 22 rfl .u8 5 1 Tryz.und8 Tryz.info8 (by decide) W.heap.size _ [z] rfl (Row.arr (S := [z]) (arr_nw rfl rfl) H5.out.2.1.size (by simp [maxLen])) _ (tb n j j) rfl (src_sl Tryz.und8 (H5.out.1.alloc _).sl) (by have := tb_len n j j; simp; omega) (by have := H5.out.2.1.size; simp; omega) ?_; intro v6 w6 hr6 hg6)
              have hb6 : Below W.heap.size W w6 := (al2' H5.out.2.1).trans (hg6.below (Row.arr (S := [z]) (arr_nw rfl rfl) H5.out.2.1.size (by simp [maxLen])) (by have := H5.out.2.1.size; simp; omega))
              have H6 : Hid (Row .u8 5 W.heap.size w6 v6 (tb n (j + 1) (j + 1)) ∧ Below W.heap.size W w6) := ⟨by rw [tb_cons n j j (Nat.le_refl _), HZ.out.1]; exact hr6, hb6⟩
              clear hr6 hg6 hb6
              go_roundw
              case rel => exact ⟨j + 1, q / 256, _, rfl, by go_num, by omega, by rw [Nat.pow_succ, ← Nat.div_div_eq_div_mul, H5.out.2.2], by omega, H6.out.1, H6.out.2⟩
              case measure => simp [intOf]; omega
            · obtain rfl : j = l := by omega
              have g1 : ¬ (0 : Int) < (q : Int) := by have := HK.out.2.1; rw [H5.out.2.2] at this; omega
              obtain ⟨a5, c5, hv5⟩ := hr5.ne
              rw [tb_len] at hv5
              subst hv5
              have s3 : IntKind.u8.wrap (128 + (j : Int)) = 128 + (j : Int) := wrapU8 _ (by omega) (by omega)
              clear hr5
              go_wp2_with (first
                | (at_builtin; refine wpList_ap rfl (.tmp 68) (.tmp 73) 22 22 rfl .u8 5 1 Tryz.und8 Tryz.info8 (by decide) w.heap.size _ X rfl ((HX.out.1.below H5.out.2.1).alloc _) _ [128 + (j : Int)] rfl (src_sl Tryz.und8 (new1 _)) (by have := HX.out.2.2; simp; omega) (by have := HX.out.2.1.size; have := H5.out.2.1.size; simp; omega) ?_; intro v7 w7 hr7 hg7; have H7 : Hid (Row .u8 5 w.heap.size w7 v7 (X ++ [128 + (j : Int)]) ∧ Row .u8 5 W.heap.size w7 (.slice a5 j c5) (tb n j j) ∧ Below w.heap.size w w7) := ⟨hr7, hg7.keep (H5.out.1.alloc _) HX.out.1.lt, ((HX.out.2.1.trans (H5.out.2.1.mono HX.out.2.1.size)).trans ((al1 _).mono (by have := HX.out.2.1.size; have := H5.out.2.1.size; omega))).trans (hg7.below ((HX.out.1.below H5.out.2.1).alloc _) (by have := HX.out.2.1.size; have := H5.out.2.1.size; simp; omega))⟩; clear hr7 hg7)
                | (at_builtin; refine wpList_ap rfl (.tmp 74) (.tmp 75) 22 22 rfl .u8 5 1 Tryz.und8 Tryz.info8 (by decide) w.heap.size _ (X ++ [128 + (j : Int)]) rfl H7.out.1 _ (tb n j j) rfl (src_sl Tryz.und8 H7.out.2.1.sl) (by have := HX.out.2.2; have := tb_len n j j; simp; omega) H7.out.2.2.size ?_; intro v8 w8 hr8 hg8))
              have hb8 : Below w.heap.size w w8 := H7.out.2.2.trans (hg8.below H7.out.1 H7.out.2.2.size)
              go_ret
              refine ⟨_, rfl, ?_, hb8⟩
              rw [HLn.out, HXe.out]
              rw [List.append_assoc] at hr8
              exact hr8
end Go.Proofs.YtillkhjihggcjaaGreatDoor
/-
  Der: the reference's Put.
-/
namespace Go.Proofs.YtillkhjihggcjaaGreatDoor
open Go.RowKit
theorem RHead_any {w : World} (c : Int) (cons : Bool) (t k n l : Nat) (h0 : 0 ≤ c) (h3 : c ≤ 3) (hk : t / 128 ^ k < 128) (hk1 : ∀ j, j < k → 128 ≤ t / 128 ^ j) (hk8 : k ≤ 8) (ht : t ≤ 268435455) (hl : n / 256 ^ l = 0) (hl1 : ∀ j, j < l → 0 < n / 256 ^ j) (hl8 : l ≤ 7) (hn : n ≤ 16777216) :
    Calls Tryz.prog 45 #[.agg (el c t cons), .int .i64 n] w fun e w' => ∃ r, e = .returned r ∧ Row .u8 5 w.heap.size w' r (headB c cons t k ++ lenB n l) ∧ Below w.heap.size w w' := by
  by_cases h : t < 31
  · exact RHead_short c cons t k n l h0 h3 hk hk1 ht hl hl1 hl8 hn h
  · exact RHead_long c cons t k n l h0 h3 hk hk1 hk8 ht hl hl1 hl8 hn h
set_option maxRecDepth 20000 in
set_option maxHeartbeats 4000000 in
theorem RPut_any {w : World} (c : Int) (t k l : Nat) (cons : Bool) (a : Option Addr) (n cp N : Nat) (vs : List Value) (ms : List (List Int)) (hL : Lists w a n cp vs ms) (hN : ms.flatten.length = N) (hN1 : N ≤ 16777216) (hn : n ≤ 1152921504606846976) (h : headOk c t = true)
    (hk : t / 128 ^ k < 128) (hk1 : ∀ j, j < k → 128 ≤ t / 128 ^ j) (hk8 : k ≤ 8) (hl : N / 256 ^ l = 0) (hl1 : ∀ j, j < l → 0 < N / 256 ^ j) (hl8 : l ≤ 7) :
    Calls Tryz.prog 20 #[.int .i64 c, .int .i64 t, .bool cons, .slice a n cp] w fun e w' => ∃ r, e = .returned (.tuple #[r, .int .i64 0]) ∧ Row .u8 5 w.heap.size w' r (headB c cons t k ++ lenB N l ++ ms.flatten) ∧ Below w.heap.size w w' := by
  have hh : 0 ≤ c ∧ c ≤ 3 ∧ t ≤ 268435455 ∧ ¬ (c = 0 ∧ t = 0) := by unfold headOk at h; simp at h; omega
  have HK : Hid ((t / 128 ^ k < 128 ∧ ∀ j, j < k → 128 ≤ t / 128 ^ j) ∧ (N / 256 ^ l = 0 ∧ ∀ j, j < l → 0 < N / 256 ^ j) ∧ 0 ≤ c ∧ c ≤ 3 ∧ t ≤ 268435455) := ⟨⟨hk, hk1⟩, ⟨hl, hl1⟩, hh.1, hh.2.1, hh.2.2.1⟩
  have HL : Hid (Lists w a n cp vs ms ∧ ms.flatten.length = N) := ⟨hL, hN⟩
  clear h hk hk1 hl hl1 hL hN
  have n1 : (n : Int) ≤ 1152921504606846976 := by omega
  have d1 : decide (c < 0) = false := by simp; omega
  have d2 : decide (3 < c) = false := by simp; omega
  have d3 : decide ((t : Int) < 0) = false := by simp
  have d4 : decide ((268435455 : Int) < (t : Int)) = false := by simp; omega
  have d5 : (c == 0) = false ∨ ((c == 0) = true ∧ ((t : Int) == 0) = false) := by
    by_cases hc : c = 0
    · right; exact ⟨by simpa using hc, by simp; omega⟩
    · left; simpa using hc
  rcases d5 with d5 | ⟨d5, d6⟩
  all_goals
    go_enter Tryz.func20, Tryz.ntmps20
    go_wp2_with fail
    go_loopw [10, 11] (fun bv iv wr => ∃ (j : Nat) (b0 : Value), b0 = bv ∧ iv = .int .i64 j ∧ j ≤ n ∧ Row .u8 5 w.heap.size wr b0 (ms.take j).flatten ∧ Below w.heap.size w wr) (fun _ iv _ => n - (intOf iv).toNat)
    case atStart => exact ⟨0, _, rfl, rfl, by omega, Row.nil _ _ _ _, Below.refl _ _⟩
    case round =>
      obtain ⟨j, b0, rfl, rfl, hj, hr6, hb6⟩ := hrel
      obtain ⟨P, hP⟩ : ∃ P, (ms.take j).flatten = P := ⟨_, rfl⟩
      have HP : Hid ((ms.take j).flatten = P) := hP
      have hPN : P.length ≤ N := by rw [← hP]; have := flatten_take_le ms j; have := HL.out.2; omega
      rw [hP] at hr6
      obtain ⟨a5, c5, hv5⟩ := hr6.ne
      obtain ⟨p, hp⟩ : ∃ p, P.length = p := ⟨_, rfl⟩
      rw [hp] at hv5 hPN
      subst hv5
      have HPl : Hid (P.length = p) := hp
      have H6 : Hid (Row .u8 5 w.heap.size wr (.slice a5 p c5) P ∧ Below w.heap.size w wr) := ⟨hr6, hb6⟩
      clear hr6 hP hp
      by_cases hlt : j < n
      · have l1 : (j : Int) < (n : Int) := by omega
        obtain ⟨b, off, ai, ni, ci, rfl, hb, hvi, hcell, hsl, hu, hni⟩ := HL.out.1.at j hlt
        have hcr : wr.cell? ⟨b, off + j, none⟩ = some (.slice ai ni ci) := (hb6.cell (p := ⟨b, off + j, none⟩) hb).trans hcell
        have HI : Hid ((ms.take (j + 1)).flatten = P ++ ms.getD j [] ∧ Sl .u8 wr (.slice ai ni ci) (ms.getD j []) ∧ p + (ms.getD j []).length ≤ N ∧ (ms.getD j []).length = ni) := by
          have h0 : (ms.take (j + 1)).flatten = P ++ ms.getD j [] := by rw [flatten_take (by have := HL.out.1.len; omega), HP.out]
          refine ⟨h0, below_sl hb6 hsl, ?_, hni⟩
          have h1 := flatten_take_le ms (j + 1)
          rw [h0, List.length_append, HPl.out, HL.out.2] at h1
          exact h1
        have hfit : (ni : Int) ≤ 16777216 - (p : Int) := by have := HI.out.2.2; omega
        have hp0 : (p : Int) ≤ 16777216 := by omega
        clear hvi hsl hu hni hcell hb6
        go_wp2_with (at_builtin; refine wpList_ap rfl (.tmp 49) (.tmp 53) 22 22 rfl .u8 5 1 Tryz.und8 Tryz.info8 (by decide) w.heap.size _ P rfl H6.out.1 _ (ms.getD j []) rfl (src_sl Tryz.und8 HI.out.2.1) (by have := HI.out.2.2; have := HPl.out; omega) H6.out.2.size ?_; intro v7 w7 hr7 hg7)
        have hb7 : Below w.heap.size w w7 := H6.out.2.trans (hg7.below H6.out.1 H6.out.2.size)
        have H7 : Hid (Row .u8 5 w.heap.size w7 v7 (ms.take (j + 1)).flatten ∧ Below w.heap.size w w7) := ⟨by rw [HI.out.1]; exact hr7, hb7⟩
        clear hr7 hg7 hb7
        go_roundw
        case rel => exact ⟨j + 1, _, rfl, by go_num, by omega, H7.out.1, H7.out.2⟩
        case measure => simp [intOf]; omega
      · obtain rfl : j = n := by omega
        have l1 : ¬ (j : Int) < (j : Int) := by omega
        have HE : Hid (P = ms.flatten) := by show _ = _; rw [← HP.out, List.take_of_length_le (by have := HL.out.1.len; omega)]
        have hpN : p = N := by rw [← HPl.out, HE.out, HL.out.2]
        subst hpN
        clear hb6
        go_wp2_with fail
        refine (RHead_any c cons t k p l HK.out.2.2.1 HK.out.2.2.2.1 HK.out.1.1 HK.out.1.2 hk8 HK.out.2.2.2.2 HK.out.2.1.1 HK.out.2.1.2 hl8 hN1).mono ?_
        rintro e w8 ⟨r8, rfl, hr8, hb8⟩
        have H8 : Hid (Row .u8 5 wr.heap.size w8 r8 (headB c cons t k ++ lenB p l) ∧ Sl .u8 w8 (.slice a5 p c5) P ∧ Below w.heap.size w w8 ∧ wr.heap.size ≤ w8.heap.size) := ⟨hr8, below_sl hb8 H6.out.1.sl, below_via H6.out.2 hb8 (Nat.le_refl _), hb8.size⟩
        have hFl : (headB c cons t k ++ lenB p l).length ≤ 20 := by unfold headB lenB sev; split <;> split <;> simp [tp_len, tb_len] <;> omega
        clear hr8 hb8
        go_wp2_with (at_builtin; refine wpList_ap rfl (.tmp 61) (.tmp 62) 22 22 rfl .u8 5 1 Tryz.und8 Tryz.info8 (by decide) wr.heap.size _ (headB c cons t k ++ lenB p l) rfl H8.out.1 _ P rfl (src_sl Tryz.und8 H8.out.2.1) (by have := HPl.out; omega) H8.out.2.2.2 ?_; intro v9 w9 hr9 hg9)
        have hb9 : Below w.heap.size w w9 := H8.out.2.2.1.trans ((hg9.below H8.out.1 H8.out.2.2.2).mono H6.out.2.size)
        go_ret2
        refine ⟨_, rfl, ?_, hb9⟩
        rw [← HE.out]
        exact hr9.mono H6.out.2.size
end Go.Proofs.YtillkhjihggcjaaGreatDoor
