/-
  Der: the greatest of a row of numbers.
-/
import Derived.Laws.RangeAny
import Derived.Lib.Strings
import Derived.Test.YtjmiaakfdclfjaaGreatDoorK14
namespace Go.Proofs.YtjmiaakfdclfjaaGreatDoor
open Go.RowKit
/-- The greatest of the first i numbers (of a row that has one). -/
def mxN (X : List Int) : Nat → Int
  | 0 => X.getD 0 0
  | i + 1 => max (mxN X i) (X.getD i 0)
def U64s (X : List Int) : Prop := ∀ x ∈ X, 0 ≤ x ∧ x < 18446744073709551616
theorem U64s.at {X : List Int} (h : U64s X) (i : Nat) : 0 ≤ X.getD i 0 ∧ X.getD i 0 < 18446744073709551616 := by
  by_cases hi : i < X.length
  · simp [hi]; exact h _ (List.getElem_mem hi)
  · simp [List.getD, List.getElem?_eq_none (Nat.le_of_not_lt hi)]
theorem mxN_bd {X : List Int} (h : U64s X) : ∀ i, 0 ≤ mxN X i ∧ mxN X i < 18446744073709551616
  | 0 => h.at 0
  | i + 1 => by
    have h1 := mxN_bd h i
    have h2 := h.at i
    show 0 ≤ max (mxN X i) (X.getD i 0) ∧ max (mxN X i) (X.getD i 0) < _
    omega
theorem mxN_gt {X : List Int} (c : Int) : ∀ i, 0 < i → (c < mxN X i ↔ ∃ j, j < i ∧ c < X.getD j 0) := by
  intro i
  induction i with
  | zero => intro h; omega
  | succ i ih =>
    intro _
    show c < max (mxN X i) (X.getD i 0) ↔ _
    by_cases hi : i = 0
    · subst hi
      show c < max (X.getD 0 0) (X.getD 0 0) ↔ _
      constructor
      · intro h; exact ⟨0, by omega, by omega⟩
      · rintro ⟨j, hj, h⟩
        obtain rfl : j = 0 := by omega
        omega
    · have h1 := ih (by omega)
      constructor
      · intro h
        by_cases h2 : c < X.getD i 0
        · exact ⟨i, by omega, h2⟩
        · obtain ⟨j, hj, h3⟩ := h1.1 (by omega)
          exact ⟨j, by omega, h3⟩
      · rintro ⟨j, hj, h⟩
        by_cases hji : j = i
        · subst hji; omega
        · have := h1.2 ⟨j, by omega, h⟩; omega
set_option maxRecDepth 20000 in
set_option maxHeartbeats 4000000 in
theorem Max_any {w : World} (b c n : Nat) (X : List Int) (hr : Rd .u64 w b 0 X) (hn : X.length = n) (h0 : 0 < n) (hl : n ≤ 4000) (hu : U64s X) :
    Calls Tryz.prog 87 #[.slice (some ⟨b, 0, none⟩) n c] w fun e w' => e = .returned (.int .u64 (mxN X n)) ∧ w = w' := by
  have HX : Hid (Rd .u64 w b 0 X ∧ X.length = n ∧ U64s X) := ⟨hr, hn, hu⟩
  obtain ⟨x, hx⟩ : ∃ x, X.getD 0 0 = x := ⟨_, rfl⟩
  have c0 : w.cell? ⟨b, 0, none⟩ = some (.int .u64 x) := by have := hr 0 (by omega); rw [hx] at this; exact this
  have HX0 : Hid (mxN X 1 = x) := by show max (X.getD 0 0) (X.getD 0 0) = _; rw [hx]; omega
  clear hr hn hu hx
  have nI : (1 : Int) ≤ (n : Int) := by omega
  have nI2 : (n : Int) ≤ 4000 := by omega
  go_enter Tryz.func87, Tryz.ntmps87
  go_wp2_with fail
  go_loopw [3, 4] (fun mv iv wr => ∃ (i : Nat) (t : Int), mv = .int .u64 t ∧ iv = .int .i64 i ∧ 1 ≤ i ∧ i ≤ n ∧ mxN X i = t ∧ w = wr) (fun _ iv _ => n - (intOf iv).toNat)
  case atStart => exact ⟨1, x, rfl, rfl, by omega, by omega, HX0.out, rfl⟩
  case round =>
    obtain ⟨i, t, rfl, rfl, hi1, hi, ht, rfl⟩ := hrel
    by_cases hlt : i < n
    · have l1 : (i : Int) < (n : Int) := by omega
      obtain ⟨y, hy⟩ : ∃ y, X.getD i 0 = y := ⟨_, rfl⟩
      have cy : w.cell? ⟨b, i, none⟩ = some (.int .u64 y) := by have := HX.out.1 i (by have := HX.out.2.1; omega); rw [hy, Nat.zero_add] at this; exact this
      have hm : mxN X (i + 1) = max t y := by show max (mxN X i) (X.getD i 0) = _; rw [ht, hy]
      have HM : Hid (mxN X (i + 1) = max t y) := hm
      clear ht hy hm c0
      go_wp2
      go_roundw
      case rel => exact ⟨i + 1, _, rfl, by go_num, by omega, by omega, by rw [HM.out]; split <;> omega, trivial⟩
      case measure => simp [intOf]; omega
    · obtain rfl : i = n := by omega
      have l1 : ¬ (i : Int) < (i : Int) := by omega
      have HT : Hid (mxN X i = t) := ht
      clear ht c0
      go_wp2
      go_ret
      exact ⟨by rw [HT.out]; rfl, rfl⟩
end Go.Proofs.YtjmiaakfdclfjaaGreatDoor
/-
  append onto an empty slice without room, whatever it points at; steps of regions that draw their order.
-/
namespace Go.Proofs.YtjmiaakfdclfjaaGreatDoor
open Go.RowKit
/-- A row of the call's own, or a slice that is empty. -/
def Rw (k : IntKind) (e : TypeId) (B : Nat) (w : World) (v : Value) (xs : List Int) : Prop := Row k e B w v xs ∨ (xs = [] ∧ ∃ a c, v = .slice a 0 c)
theorem Rw.sl {k : IntKind} {e : TypeId} {B : Nat} {w : World} {v : Value} {xs : List Int} (h : Rw k e B w v xs) : Sl k w v xs := by
  rcases h with h | ⟨rfl, a, c, rfl⟩
  · exact h.sl
  · exact ⟨a, c, rfl, Nat.zero_le _, .inl rfl⟩
theorem Rw.below {k : IntKind} {e : TypeId} {B : Nat} {w w' : World} {v : Value} {xs : List Int} (h : Rw k e B w v xs) (hb : Below w.heap.size w w') : Rw k e B w' v xs := by
  rcases h with h | h
  · exact .inl (h.below hb)
  · exact .inr h
theorem Rw.alloc {k : IntKind} {e : TypeId} {B : Nat} {w : World} {v : Value} {xs : List Int} (h : Rw k e B w v xs) (o : Obj) : Rw k e B (w.alloc o) v xs := h.below ((Below.refl _ _).alloc (Nat.le_refl _) o)
theorem Rw.mono {k : IntKind} {e : TypeId} {B B' : Nat} {w : World} {v : Value} {xs : List Int} (h : Rw k e B w v xs) (hb : B' ≤ B) : Rw k e B' w v xs := by
  rcases h with h | h
  · exact .inl (h.mono hb)
  · exact .inr h
theorem Rw.ne {k : IntKind} {e : TypeId} {B : Nat} {w : World} {v : Value} {xs : List Int} (h : Rw k e B w v xs) : ∃ a c, v = .slice a xs.length c := by
  rcases h with h | ⟨rfl, a, c, rfl⟩
  · exact h.ne
  · exact ⟨a, c, rfl⟩
end Go.Proofs.YtjmiaakfdclfjaaGreatDoor
/-
  Der: of a text's size (as in E74), for seats without strconv.
-/
namespace Go.Proofs.YtjmiaakfdclfjaaGreatDoor
open Go.RowKit
theorem st_size (X : List Int) : (strOfNums X).size = X.length := strOfNums_size X
end Go.Proofs.YtjmiaakfdclfjaaGreatDoor
/-
  Der: the numbers between the dots of a text.
-/
namespace Go.Proofs.YtjmiaakfdclfjaaGreatDoor
open Go.RowKit
/-- Behind i bytes: the numbers that have ended, the next one's value and how many digits it has; or nothing, where it is wrong. -/
def ast (Y : List Int) : Nat → Option (List Nat × Nat × Nat)
  | 0 => some ([], 0, 0)
  | i + 1 => (ast Y i).bind fun q =>
    if Y.getD i 0 = 46 then (if 0 < q.2.2 then some (q.1 ++ [q.2.1], 0, 0) else none)
    else if Y.getD i 0 < 48 ∨ 57 < Y.getD i 0 ∨ (q.2.1 = 0 ∧ 0 < q.2.2) then none
    else some (q.1, 10 * q.2.1 + (Y.getD i 0 - 48).toNat, q.2.2 + 1)
theorem ast_none {Y : List Int} {i : Nat} (h : ast Y i = none) : ∀ d, ast Y (i + d) = none
  | 0 => h
  | d + 1 => by
    show (ast Y (i + d)).bind _ = none
    rw [ast_none h d]; rfl
theorem ast_step {Y : List Int} {i : Nat} {A : List Nat} {v k : Nat} {x : Int} (h : ast Y i = some (A, v, k)) (hx : Y.getD i 0 = x) :
    ast Y (i + 1) = if x = 46 then (if 0 < k then some (A ++ [v], 0, 0) else none) else if x < 48 ∨ 57 < x ∨ (v = 0 ∧ 0 < k) then none else some (A, 10 * v + (x - 48).toNat, k + 1) := by
  show (ast Y i).bind _ = _
  rw [h, hx]; rfl
def arcsP (Y : List Int) : Option (List Nat) := (ast Y Y.length).bind fun q => if 0 < q.2.2 then some (q.1 ++ [q.2.1]) else none
theorem arcsP_none {Y : List Int} {i : Nat} (hi : i ≤ Y.length) (h : ast Y i = none) : arcsP Y = none := by
  unfold arcsP
  have := ast_none h (Y.length - i)
  rw [show i + (Y.length - i) = Y.length by omega] at this
  rw [this]; rfl
theorem ast_len (Y : List Int) : ∀ i A v k, ast Y i = some (A, v, k) → A.length + k ≤ i
  | 0, A, v, k, h => by cases h; simp
  | i + 1, A, v, k, h => by
    cases hq : ast Y i with
    | none => rw [show ast Y (i + 1) = none from ast_none hq 1] at h; cases h
    | some q =>
      obtain ⟨A', v', k'⟩ := q
      have := ast_len Y i A' v' k' hq
      rw [ast_step hq rfl] at h
      split at h
      · split at h
        · cases h; simp; omega
        · cases h
      · split at h
        · cases h
        · cases h; omega
def WrAns (Y : List Int) (B : Nat) (w : World) (e : Ending) : Prop :=
  (∃ A r, arcsP Y = some A ∧ e = .returned (.tuple #[r, .bool true]) ∧ Row .u64 43 B w r (capL 2147483648 A)) ∨ (arcsP Y = none ∧ ∃ r, e = .returned (.tuple #[r, .bool false]))
def ItS (g : Nat) (X : List Int) (W : World) (pos : Nat) : Prop := W.heap[g]? = some (.stringIter (strOfNums X) pos)
theorem ItS.pos {g : Nat} {X : List Int} {W : World} {pos : Nat} (h : ItS g X W pos) : W.iterPos g = pos := by
  unfold World.iterPos; rw [h]
theorem ItS.lt {g : Nat} {X : List Int} {W : World} {pos : Nat} (h : ItS g X W pos) : g < W.heap.size := (Array.getElem?_eq_some_iff.1 h).1
theorem ItS.below {g : Nat} {X : List Int} {W W' : World} {pos : Nat} (h : ItS g X W pos) (hb : Below (g + 1) W W') : ItS g X W' pos := by
  unfold ItS; rw [hb.block _ (by omega)]; exact h
theorem row_iterS {k : IntKind} {e : TypeId} {g : Nat} {W : World} {v : Value} {xs : List Int} (s : ByteArray) (pos : Nat) (h : Row k e (g + 1) W v xs) : Row k e (g + 1) (W.iterAt g s pos) v xs := by
  rcases h with h | ⟨b, S, rfl, h1, hA, h2⟩
  · exact .inl h
  · exact .inr ⟨b, S, rfl, h1, by unfold Arr; rw [Lib.iterAt_other W _ _ s pos (by omega)]; exact hA, h2⟩
theorem st_get (X : List Int) (hU : U8s X) (i : Nat) (hi : i < X.length) (h : i < (strOfNums X).size) : (((strOfNums X)[i]'h).toNat : Int) = X.getD i 0 := by
  have e : (strOfNums X)[i]'h = UInt8.ofNat (X[i]).toNat := by
    show (strOfNums X).data[i] = _
    simp [strOfNums]
  have hu := hU _ (List.getElem_mem hi)
  unfold U8 at hu
  rw [e, List.getD_eq_getElem?_getD, List.getElem?_eq_getElem hi]
  simp
  omega
/-- What the next character is: the byte itself, or, from 128 on, something above. -/
theorem next_char {P : Program} {wr : World} {g i : Nat} {Y : List Int} (hU : U8s Y) (hI : ItS g Y wr i) (hi : i < Y.length) :
    ∃ (y : Int) (p : Nat), Sem.run P (Instr.next (.pointer (some ⟨g, 0, none⟩)) true 0) wr = .ok (.tuple #[.bool true, .int .i64 i, .int .i32 y]) (wr.iterAt g (strOfNums Y) p) ∧ ((Y.getD i 0 < 128 ∧ y = Y.getD i 0 ∧ p = i + 1) ∨ (128 ≤ Y.getD i 0 ∧ 57 < y)) := by
  have hiS : i < (strOfNums Y).size := by rw [st_size]; omega
  have hg := st_get Y hU i hi hiS
  by_cases h : Y.getD i 0 < 128
  · refine ⟨Y.getD i 0, i + 1, ?_, .inl ⟨h, rfl, rfl⟩⟩
    rw [Lib.run_next_ascii_at wr g (strOfNums Y) i 0 hI hiS (by omega), hg]
  · refine ⟨_, _, Lib.run_next_any_at wr g (strOfNums Y) i 0 hI hiS, .inr ⟨by omega, ?_⟩⟩
    have := (decode_high _ _ hiS (by omega)).1
    omega
set_option maxRecDepth 20000 in
set_option maxHeartbeats 8000000 in
theorem written_any {w : World} (Y : List Int) (hU : U8s Y) (hl : Y.length ≤ 2000) :
    Calls Tryz.prog 86 #[.string (strOfNums Y)] w fun e w' => WrAns Y (w.heap.size + 1) w' e ∧ Below w.heap.size w w' := by
  obtain ⟨S, hS⟩ : ∃ S, strOfNums Y = S := ⟨_, rfl⟩
  have HX : Hid (U8s Y ∧ Y.length ≤ 2000 ∧ strOfNums Y = S) := ⟨hU, hl, hS⟩
  rw [hS]
  clear hU hS
  go_enter Tryz.func86, Tryz.ntmps86
  go_wp2_with fail
  refine wp_gen (fun W => ItS w.heap.size Y W 0 ∧ Below w.heap.size w W) ⟨by unfold ItS; rw [HX.out.2.2, World.iter_heap], al1 _⟩ ?_
  rintro w1 ⟨hI, hb⟩
  have H1 : Hid (ItS w.heap.size Y w1 0 ∧ Below w.heap.size w w1) := ⟨hI, hb⟩
  clear hI hb
  go_loopw [2, 4, 5] (fun lv nv dv wr => ∃ (i : Nat) (l0 : Value) (A : List Nat) (v k : Nat) (t : Int), l0 = lv ∧ nv = .int .u64 t ∧ dv = .int .i64 k ∧ i ≤ Y.length ∧ ast Y i = some (A, v, k) ∧ t = capN 2147483648 v ∧ ItS w.heap.size Y wr i ∧ Row .u64 43 (w.heap.size + 1) wr l0 (capL 2147483648 A) ∧ Below w.heap.size w wr) (fun _ _ _ wr => Y.length - wr.iterPos w.heap.size)
  case atStart => exact ⟨0, _, [], 0, 0, 0, rfl, rfl, rfl, by omega, rfl, rfl, H1.out.1, Row.nil _ _ _ _, H1.out.2⟩
  case round =>
    obtain ⟨i, l0, A, v, k, t, rfl, rfl, rfl, hi, ha, ht, hI, hr, hb⟩ := hrel
    have hlen := ast_len Y i A v k ha
    have t0 : 0 ≤ t := by rw [ht]; unfold capN; omega
    have t1 : t ≤ 2147483648 := by rw [ht]; unfold capN; omega
    have H2 : Hid (ast Y i = some (A, v, k) ∧ t = capN 2147483648 v ∧ ItS w.heap.size Y wr i ∧ Row .u64 43 (w.heap.size + 1) wr l0 (capL 2147483648 A) ∧ Below w.heap.size w wr ∧ wr.iterPos w.heap.size = i) := ⟨ha, ht, hI, hr, hb, hI.pos⟩
    have hk2 : (k : Int) ≤ 2000 := by omega
    clear ha hI hr hb
    by_cases hlt : i < Y.length
    · obtain ⟨y, p, hnx, hy⟩ := next_char (P := Tryz.prog) HX.out.1 H2.out.2.2.1 hlt
      rw [HX.out.2.2] at hnx
      obtain ⟨x, hx⟩ : ∃ x, Y.getD i 0 = x := ⟨_, rfl⟩
      rw [hx] at hy
      have hst := ast_step H2.out.1 hx
      have HS : Hid (ast Y (i + 1) = if x = 46 then (if 0 < k then some (A ++ [v], 0, 0) else none) else if x < 48 ∨ 57 < x ∨ (v = 0 ∧ 0 < k) then none else some (A, 10 * v + (x - 48).toNat, k + 1)) := hst
      have no : Hid (ast Y (i + 1) = none → ∀ (W : World) (e : Ending), Below w.heap.size w W → e = .returned (.tuple #[.slice none 0 0, .bool false]) → WrAns Y (w.heap.size + 1) W e ∧ Below w.heap.size w W) := fun h W e hW he => ⟨.inr ⟨arcsP_none (by omega) h, _, he⟩, hW⟩
      have hbp : Below w.heap.size w (wr.iterAt w.heap.size S p) := Lib.below_iterAt H2.out.2.2.2.2.1 (Nat.le_refl _) _ _
      have HB : Hid (Below w.heap.size w (wr.iterAt w.heap.size S p) ∧ (x < 128 → p = i + 1)) := ⟨hbp, by rcases hy with ⟨_, _, h⟩ | ⟨h, _⟩ <;> intro _ <;> omega⟩
      clear hst hx hbp
      by_cases q57 : 57 < x
      · have y57 : 57 < y := by omega
        have y46 : (y == 46) = false := by simp; omega
        have y48 : ¬ y < 48 := by omega
        have hno : ast Y (i + 1) = none := by rw [HS.out, if_neg (by omega), if_pos (by omega)]
        have HN : Hid (ast Y (i + 1) = none) := hno
        clear hno hy
        go_wp2
        go_ret2
        exact no.out HN.out _ _ HB.out.1 rfl
      obtain ⟨hyx, hp⟩ : y = x ∧ p = i + 1 := by omega
      subst hyx
      subst hp
      clear hy
      by_cases q46 : y = 46
      · subst q46
        clear ht
        by_cases qk : 0 < k
        · have qkI : (0 : Int) < (k : Int) := by omega
          have HN : Hid (ast Y (i + 1) = some (A ++ [v], 0, 0) ∧ capL 2147483648 (A ++ [v]) = capL 2147483648 A ++ [t] ∧ (capL 2147483648 A).length ≤ 2000) := by
            refine ⟨by rw [HS.out, if_pos (by simp), if_pos qk], ?_, ?_⟩
            · unfold capL; rw [List.map_append, H2.out.2.1]; rfl
            · unfold capL; rw [List.length_map]; omega
          have hrow : Row .u64 43 (w.heap.size + 1) (wr.iterAt w.heap.size S (i + 1)) l0 (capL 2147483648 A) := row_iterS _ _ H2.out.2.2.2.1
          have hit : ItS w.heap.size Y (wr.iterAt w.heap.size S (i + 1)) (i + 1) := by
            have := Lib.iterAt_heap wr w.heap.size (strOfNums Y) i (i + 1) H2.out.2.2.1
            rw [HX.out.2.2] at this; unfold ItS; rw [HX.out.2.2]; exact this
          have H3 : Hid (Row .u64 43 (w.heap.size + 1) (wr.iterAt w.heap.size S (i + 1)) l0 (capL 2147483648 A) ∧ ItS w.heap.size Y (wr.iterAt w.heap.size S (i + 1)) (i + 1)) := ⟨hrow, hit⟩
          clear hrow hit
          go_wp2_with (at_builtin; refine wpList_ap rfl (.tmp 29) (.tmp 31) 73 73 rfl .u64 43 8 Tryz.und64 Tryz.info64 (by decide) (w.heap.size + 1) _ (capL 2147483648 A) rfl (H3.out.1.alloc _) _ [_] rfl (src_sl Tryz.und64 (new_sl (k := .u64) [_] (0, 0))) (by have := HN.out.2.2; simp; omega) (by have := H3.out.2.lt; simp; omega) ?_; intro v2 w2 hr2 hg2)
          have hb2 : Below (w.heap.size + 1) (wr.iterAt w.heap.size S (i + 1)) w2 := ((al1 _).mono H3.out.2.lt).trans (hg2.below (H3.out.1.alloc _) (by have := H3.out.2.lt; simp; omega))
          have H4 : Hid (Row .u64 43 (w.heap.size + 1) w2 v2 (capL 2147483648 (A ++ [v])) ∧ ItS w.heap.size Y w2 (i + 1) ∧ Below w.heap.size w w2) := ⟨by rw [HN.out.2.1]; exact hr2, H3.out.2.below hb2, HB.out.1.trans (hb2.mono (by omega))⟩
          clear hr2 hg2 hb2
          go_roundw
          case rel => exact ⟨i + 1, _, A ++ [v], 0, 0, 0, rfl, rfl, rfl, by omega, HN.out.1, rfl, H4.out.2.1, H4.out.1, H4.out.2.2⟩
          case measure => rw [H4.out.2.1.pos, H2.out.2.2.2.2.2]; omega
        · obtain rfl : k = 0 := by omega
          have HN : Hid (ast Y (i + 1) = none) := by show _ = _; rw [HS.out, if_pos (by simp), if_neg (by simp)]
          go_wp2
          go_ret2
          exact no.out HN.out _ _ HB.out.1 rfl
      have y46 : (y == 46) = false := by simpa using q46
      by_cases q48 : y < 48
      · have HN : Hid (ast Y (i + 1) = none) := by show _ = _; rw [HS.out, if_neg q46, if_pos (by omega)]
        go_wp2
        go_ret2
        exact no.out HN.out _ _ HB.out.1 rfl
      have y57 : ¬ 57 < y := by omega
      by_cases qz : v = 0 ∧ 0 < k
      · have HN : Hid (ast Y (i + 1) = none) := by show _ = _; rw [HS.out, if_neg q46, if_pos (by omega)]
        have ht0 : t = 0 := by rw [ht, qz.1]; rfl
        have qkI : (0 : Int) < (k : Int) := by omega
        clear ht
        subst ht0
        go_wp2
        go_ret2
        exact no.out HN.out _ _ HB.out.1 rfl
      have HN : Hid (ast Y (i + 1) = some (A, 10 * v + (y - 48).toNat, k + 1)) := by show _ = _; rw [HS.out, if_neg q46, if_neg (by omega)]
      have htz : (t == 0) = false ∨ ((t == 0) = true ∧ ¬ (0 : Int) < (k : Int)) := by
        by_cases h : t = 0
        · right
          refine ⟨by simpa using h, ?_⟩
          have : v = 0 := by rw [h] at ht; unfold capN at ht; omega
          intro hk; exact qz ⟨this, by omega⟩
        · left; simpa using h
      obtain ⟨t2, ht2⟩ : ∃ t2, 10 * t + (y - 48) = t2 := ⟨_, rfl⟩
      obtain ⟨m, hm⟩ : ∃ m, min t2 2147483648 = m := ⟨_, rfl⟩
      have HM : Hid (m = capN 2147483648 (10 * v + (y - 48).toNat)) := by
        show _ = _
        unfold capN at ht ⊢
        omega
      have hy8 : 0 ≤ y - 48 := by omega
      have hy9 : y - 48 ≤ 9 := by omega
      have t20 : 0 ≤ t2 := by omega
      have t21 : t2 ≤ 21474836490 := by omega
      have hrow : Row .u64 43 (w.heap.size + 1) (wr.iterAt w.heap.size S (i + 1)) l0 (capL 2147483648 A) := row_iterS _ _ H2.out.2.2.2.1
      have hit : ItS w.heap.size Y (wr.iterAt w.heap.size S (i + 1)) (i + 1) := by
        have := Lib.iterAt_heap wr w.heap.size (strOfNums Y) i (i + 1) H2.out.2.2.1
        rw [HX.out.2.2] at this; unfold ItS; rw [HX.out.2.2]; exact this
      have H3 : Hid (Row .u64 43 (w.heap.size + 1) (wr.iterAt w.heap.size S (i + 1)) l0 (capL 2147483648 A) ∧ ItS w.heap.size Y (wr.iterAt w.heap.size S (i + 1)) (i + 1)) := ⟨hrow, hit⟩
      clear hrow hit ht qz
      rcases htz with htz | ⟨htz, hk0⟩
      all_goals
        go_wp2
        go_roundw
        case rel => exact ⟨i + 1, _, A, _, k + 1, m, rfl, by first | rfl | (congr 1; split <;> omega), by go_num, by omega, HN.out, HM.out, H3.out.2, H3.out.1, HB.out.1⟩
        case measure => rw [H3.out.2.pos, H2.out.2.2.2.2.2]; omega
    · obtain rfl : i = Y.length := by omega
      have hnx : Sem.run Tryz.prog (Instr.next (.pointer (some ⟨w.heap.size, 0, none⟩)) true 0) wr = .ok (.tuple #[.bool false]) wr := Lib.run_next_end_at wr w.heap.size (strOfNums Y) Y.length 0 H2.out.2.2.1 (by rw [st_size]; omega)
      have HN : Hid (capL 2147483648 (A ++ [v]) = capL 2147483648 A ++ [t] ∧ (capL 2147483648 A).length ≤ 2000 ∧ arcsP Y = if 0 < k then some (A ++ [v]) else none) := by
        refine ⟨?_, ?_, ?_⟩
        · unfold capL; rw [List.map_append, H2.out.2.1]; rfl
        · unfold capL; rw [List.length_map]; omega
        · unfold arcsP; rw [H2.out.1]; rfl
      clear ht
      by_cases qk : 0 < k
      · have qkI : (0 : Int) < (k : Int) := by omega
        go_wp2_with (at_builtin; refine wpList_ap rfl (.tmp 44) (.tmp 46) 73 73 rfl .u64 43 8 Tryz.und64 Tryz.info64 (by decide) (w.heap.size + 1) _ (capL 2147483648 A) rfl (H2.out.2.2.2.1.alloc _) _ [_] rfl (src_sl Tryz.und64 (new_sl (k := .u64) [_] (0, 0))) (by have := HN.out.2.1; simp; omega) (by have := H2.out.2.2.1.lt; simp; omega) ?_; intro v2 w2 hr2 hg2)
        have hb2 : Below w.heap.size w w2 := (al2' H2.out.2.2.2.2.1).trans ((hg2.below (H2.out.2.2.2.1.alloc _) (by have := H2.out.2.2.1.lt; simp; omega)).mono (by omega))
        go_ret2
        refine ⟨.inl ⟨A ++ [v], v2, by rw [HN.out.2.2, if_pos qk], rfl, ?_⟩, hb2⟩
        rw [HN.out.1]; exact hr2
      · have qkI : ¬ (0 : Int) < (k : Int) := by omega
        go_wp2_with (at_builtin; refine wpList_ap rfl (.tmp 44) (.tmp 46) 73 73 rfl .u64 43 8 Tryz.und64 Tryz.info64 (by decide) (w.heap.size + 1) _ (capL 2147483648 A) rfl (H2.out.2.2.2.1.alloc _) _ [_] rfl (src_sl Tryz.und64 (new_sl (k := .u64) [_] (0, 0))) (by have := HN.out.2.1; simp; omega) (by have := H2.out.2.2.1.lt; simp; omega) ?_; intro v2 w2 hr2 hg2)
        have hb2 : Below w.heap.size w w2 := (al2' H2.out.2.2.2.2.1).trans ((hg2.below (H2.out.2.2.2.1.alloc _) (by have := H2.out.2.2.1.lt; simp; omega)).mono (by omega))
        go_ret2
        exact ⟨.inr ⟨by rw [HN.out.2.2, if_neg qk], v2, rfl⟩, hb2⟩
end Go.Proofs.YtjmiaakfdclfjaaGreatDoor
/-
  Der: any text as an object identifier's bytes.
-/
namespace Go.Proofs.YtjmiaakfdclfjaaGreatDoor
open Go.RowKit
/-- How many groups of seven bits a number has, less one. -/
def kOfF : Nat → Nat → Nat
  | 0, _ => 0
  | f + 1, n => if n < 128 then 0 else kOfF f (n / 128) + 1
theorem kOfF_fuel : ∀ f g n, n ≤ f → n ≤ g → kOfF f n = kOfF g n
  | 0, 0, _, _, _ => rfl
  | 0, g + 1, n, h, _ => by rw [kOfF, kOfF, if_pos (by omega)]
  | f + 1, 0, n, _, h => by rw [kOfF, kOfF, if_pos (by omega)]
  | f + 1, g + 1, n, h, h' => by
    rw [kOfF, kOfF]
    by_cases h1 : n < 128
    · rw [if_pos h1, if_pos h1]
    · rw [if_neg h1, if_neg h1, kOfF_fuel f g (n / 128) (by omega) (by omega)]
def kOf (n : Nat) : Nat := kOfF n n
theorem kOf_lo {n : Nat} (h : n < 128) : kOf n = 0 := by
  unfold kOf
  cases n with
  | zero => rfl
  | succ m => rw [kOfF, if_pos h]
theorem kOf_hi {n : Nat} (h : ¬ n < 128) : kOf n = kOf (n / 128) + 1 := by
  unfold kOf
  cases n with
  | zero => exact absurd (by decide) h
  | succ m => rw [kOfF, if_neg h, kOfF_fuel m ((m + 1) / 128) _ (by omega) (Nat.le_refl _)]
theorem div_pow1 (n j : Nat) : n / 128 ^ (j + 1) = n / 128 / 128 ^ j := by rw [Nat.pow_succ, Nat.mul_comm, Nat.div_div_eq_div_mul]
theorem kOf_spec (n : Nat) : n / 128 ^ kOf n < 128 ∧ ∀ j, j < kOf n → 128 ≤ n / 128 ^ j := by
  induction n using Nat.strongRecOn with
  | _ n ih =>
    by_cases h : n < 128
    · rw [kOf_lo h]; exact ⟨by simpa using h, fun j hj => by omega⟩
    · have := ih (n / 128) (by omega)
      rw [kOf_hi h]
      refine ⟨by rw [div_pow1]; exact this.1, fun j hj => ?_⟩
      cases j with
      | zero => simp; omega
      | succ j => rw [div_pow1]; exact this.2 j (by omega)
theorem kOf_le (m : Nat) : ∀ n, n < 128 ^ (m + 1) → kOf n ≤ m := by
  induction m with
  | zero => intro n h; rw [kOf_lo (by simpa using h)]; omega
  | succ m ih =>
    intro n h
    by_cases h1 : n < 128
    · rw [kOf_lo h1]; omega
    · rw [kOf_hi h1]
      have : n / 128 < 128 ^ (m + 1) := by rw [Nat.div_lt_iff_lt_mul (by decide)]; rw [Nat.pow_succ] at h; exact h
      have := ih _ this; omega
def sevL (n : Nat) : List Int := sev (kOf n) n
theorem sevL_len (n : Nat) (h : n ≤ 4294967295) : (sevL n).length ≤ 5 := by
  unfold sevL
  have := kOf_le 4 n (by omega)
  unfold sev
  rw [List.length_append, tp_len]; simp; omega
def putOk (A : List Nat) : Bool := decide (2 ≤ A.length ∧ A.getD 0 0 ≤ 2 ∧ (A.getD 0 0 = 2 ∨ A.getD 1 0 < 40))
def putLong (A : List Nat) : Bool := A.any fun v => decide (2147483647 < v)
def putB (A : List Nat) : List Int := sevL (40 * A.getD 0 0 + A.getD 1 0) ++ (A.drop 2).flatMap sevL
/-- What PutOid tells of a text. -/
def PutR (Y b : List Int) (er : Int) : Prop :=
  ((∀ A, arcsP Y = some A → putOk A = false) ∧ b = [] ∧ er = 6) ∨ (∃ A, arcsP Y = some A ∧ putOk A = true ∧ putLong A = true ∧ b = [] ∧ er = 3) ∨ (∃ A, arcsP Y = some A ∧ putOk A = true ∧ putLong A = false ∧ b = putB A ∧ er = 0)
theorem PutR.uniq {Y b b' : List Int} {e e' : Int} (h : PutR Y b e) (h' : PutR Y b' e') : b = b' ∧ e = e' := by
  rcases h with ⟨h1, rfl, rfl⟩ | ⟨A, h1, h2, h3, rfl, rfl⟩ | ⟨A, h1, h2, h3, rfl, rfl⟩ <;> rcases h' with ⟨g1, rfl, rfl⟩ | ⟨A', g1, g2, g3, rfl, rfl⟩ | ⟨A', g1, g2, g3, rfl, rfl⟩
  · exact ⟨rfl, rfl⟩
  · rw [h1 A' g1] at g2; cases g2
  · rw [h1 A' g1] at g2; cases g2
  · rw [g1 A h1] at h2; cases h2
  · exact ⟨rfl, rfl⟩
  · rw [h1] at g1; cases g1; rw [h3] at g3; cases g3
  · rw [g1 A h1] at h2; cases h2
  · rw [h1] at g1; cases g1; rw [h3] at g3; cases g3
  · rw [h1] at g1; cases g1; exact ⟨rfl, rfl⟩
theorem arcsP_len {Y : List Int} {A : List Nat} (h : arcsP Y = some A) : A.length ≤ Y.length + 1 := by
  unfold arcsP at h
  cases hq : ast Y Y.length with
  | none => rw [hq] at h; cases h
  | some q =>
    obtain ⟨l, v, k⟩ := q
    have := ast_len Y _ l v k hq
    rw [hq] at h
    simp only [Option.bind_some] at h
    split at h
    · cases h; simp; omega
    · cases h
theorem capL_get (c : Nat) (A : List Nat) (i : Nat) : (capL c A).getD i 0 = if i < A.length then capN c (A.getD i 0) else 0 := by
  unfold capL
  by_cases h : i < A.length
  · simp [List.getD, h]
  · simp [List.getD, h]
theorem flat_snoc (T : List Nat) (i : Nat) (hi : i < T.length) : (T.take (i + 1)).flatMap sevL = (T.take i).flatMap sevL ++ sevL (T.getD i 0) := by
  rw [List.take_succ_eq_append_getElem hi, List.flatMap_append, List.getD_eq_getElem?_getD, List.getElem?_eq_getElem hi]
  simp
theorem flat_len : ∀ T : List Nat, (∀ v ∈ T, v ≤ 4294967295) → (T.flatMap sevL).length ≤ 5 * T.length
  | [], _ => by simp
  | v :: T, h => by
    have h1 := flat_len T (fun x hx => h x (by simp [hx]))
    have h2 := sevL_len v (h v (by simp))
    rw [List.flatMap_cons, List.length_append, List.length_cons]; omega
theorem sevensL_any {w : World} (B : Nat) (v : Value) (X : List Int) (n : Nat) (hr : Row .u8 5 B w v X) (hB : B ≤ w.heap.size) (hn : n ≤ 4294967295) (hX : X.length ≤ 100000000) :
    Calls Tryz.prog 88 #[v, .int .u64 n] w fun e w' => ∃ r, e = .returned r ∧ Row .u8 5 B w' r (X ++ sevL n) ∧ Below B w w' :=
  sevens_any B v X n (kOf n) hr hB (kOf_spec n).1 (kOf_spec n).2 (by have := kOf_le 4 n (by omega); omega) (by omega) hX
end Go.Proofs.YtjmiaakfdclfjaaGreatDoor
/-
  Der: PutOid of any text.
-/
namespace Go.Proofs.YtjmiaakfdclfjaaGreatDoor
open Go.RowKit
set_option maxRecDepth 20000 in
set_option maxHeartbeats 8000000 in
theorem PutOid_any {w : World} (Y : List Int) (hU : U8s Y) (hl : Y.length ≤ 2000) :
    Calls Tryz.prog 62 #[.string (strOfNums Y)] w fun e w' => (∃ r b er, PutR Y b er ∧ e = .returned (.tuple #[r, .int .i64 er]) ∧ Sl .u8 w' r b) ∧ Below w.heap.size w w' := by
  have HX : Hid (U8s Y ∧ Y.length ≤ 2000) := ⟨hU, hl⟩
  clear hU hl
  go_enter Tryz.func62, Tryz.ntmps62
  go_wp2_with fail
  refine (written_any Y HX.out.1 HX.out.2).mono ?_
  rintro e w1 ⟨ha, hb1⟩
  have HB1 : Hid (Below w.heap.size w w1) := hb1
  have six : Hid ((∀ A, arcsP Y = some A → putOk A = false) → ∀ (W : World) (e : Ending), Below w.heap.size w W → e = .returned (.tuple #[.slice none 0 0, .int .i64 6]) → (∃ r b er, PutR Y b er ∧ e = .returned (.tuple #[r, .int .i64 er]) ∧ Sl .u8 W r b) ∧ Below w.heap.size w W) := fun h W e hW he => ⟨⟨_, [], 6, .inl ⟨h, rfl, rfl⟩, he, nil_sl _⟩, hW⟩
  rcases ha with ⟨A, r1, hA, rfl, hr1⟩ | ⟨hno, r1, rfl⟩
  · have hAl : A.length ≤ 2001 := by have := arcsP_len hA; have := HX.out.2; omega
    obtain ⟨n, hn⟩ : ∃ n, A.length = n := ⟨_, rfl⟩
    have hCl : (capL 2147483648 A).length = n := by unfold capL; rw [List.length_map]; exact hn
    obtain ⟨al, cl, hv⟩ := hr1.ne
    rw [hCl] at hv
    subst hv
    have H1 : Hid (arcsP Y = some A ∧ A.length = n ∧ Row .u64 43 (w.heap.size + 1) w1 (.slice al n cl) (capL 2147483648 A) ∧ Below w.heap.size w w1) := ⟨hA, hn, hr1, hb1⟩
    have hn2 : n ≤ 2001 := by omega
    clear hb1
    by_cases h2 : n < 2
    · have h2I : (n : Int) < 2 := by omega
      have HN : Hid (∀ A', arcsP Y = some A' → putOk A' = false) := by
        intro A' h; rw [H1.out.1] at h; cases h; unfold putOk; simp; omega
      clear hr1 hA hCl
      go_wp2
      go_ret2
      exact six.out HN.out _ _ H1.out.2.2.2 rfl
    · have h2I : ¬ (n : Int) < 2 := by omega
      obtain ⟨b1, S1, hv, hB1, hA1, hl1, ht1, hm1⟩ := hr1.open n hCl (by omega)
      simp only [Value.slice.injEq] at hv
      obtain ⟨rfl, _, rfl⟩ := hv
      have hrd : Rd .u64 w1 b1 0 (capL 2147483648 A) := by
        have := hA1.rd 0 n (by omega)
        rw [List.drop_zero, ht1] at this
        exact this
      have g : ∀ i, i < n → w1.cell? ⟨b1, i, none⟩ = some (.int .u64 (capN 2147483648 (A.getD i 0))) := by
        intro i hi
        have := hrd i (by omega)
        rw [Nat.zero_add, capL_get, if_pos (by omega)] at this
        exact this
      obtain ⟨a0, ha0⟩ : ∃ a0, A.getD 0 0 = a0 := ⟨_, rfl⟩
      obtain ⟨a1, ha1⟩ : ∃ a1, A.getD 1 0 = a1 := ⟨_, rfl⟩
      obtain ⟨c0, hc0⟩ : ∃ c0, capN 2147483648 a0 = c0 := ⟨_, rfl⟩
      obtain ⟨c1, hc1⟩ : ∃ c1, capN 2147483648 a1 = c1 := ⟨_, rfl⟩
      have d0 : w1.cell? ⟨b1, 0, none⟩ = some (.int .u64 c0) := by rw [g 0 (by omega), ha0, hc0]
      have d1 : w1.cell? ⟨b1, 1, none⟩ = some (.int .u64 c1) := by rw [g 1 (by omega), ha1, hc1]
      have e0 : c0 = ((min a0 2147483648 : Nat) : Int) := by rw [← hc0]; rfl
      have e1 : c1 = ((min a1 2147483648 : Nat) : Int) := by rw [← hc1]; rfl
      have HA : Hid (A.getD 0 0 = a0 ∧ A.getD 1 0 = a1 ∧ c0 = ((min a0 2147483648 : Nat) : Int) ∧ c1 = ((min a1 2147483648 : Nat) : Int) ∧ Rd .u64 w1 b1 0 (capL 2147483648 A) ∧ b1 < w1.heap.size ∧ w.heap.size + 1 ≤ b1) := ⟨ha0, ha1, e0, e1, hrd, hA1.lt, hB1⟩
      have c00 : 0 ≤ c0 := by omega
      have c10 : 0 ≤ c1 := by omega
      have c11 : c1 ≤ 2147483648 := by omega
      have bad : Hid (¬ (a0 ≤ 2 ∧ (a0 = 2 ∨ a1 < 40)) → ∀ A', arcsP Y = some A' → putOk A' = false) := by
        intro h A' h'; rw [H1.out.1] at h'; cases h'; unfold putOk; rw [HA.out.1, HA.out.2.1]; simp only [decide_eq_false_iff_not]; omega
      clear hr1 hA hCl hA1 hrd g ht1 hm1 ha0 ha1 hc0 hc1 hB1
      obtain ⟨k1, hk1⟩ : ∃ k, S1.length = k := ⟨_, rfl⟩
      rw [hk1] at hl1 H1 ⊢
      clear hk1
      by_cases q1 : 2 < c0
      · have HN := bad.out (by omega)
        have HN' : Hid (∀ A', arcsP Y = some A' → putOk A' = false) := HN
        clear HN e0 e1
        go_wp2
        go_ret2
        exact six.out HN'.out _ _ H1.out.2.2.2 rfl
      by_cases q2 : c0 < 2 ∧ 40 ≤ c1
      · have HN' : Hid (∀ A', arcsP Y = some A' → putOk A' = false) := bad.out (by omega)
        obtain ⟨q2a, q2b⟩ := q2
        clear e0 e1
        go_wp2
        go_ret2
        exact six.out HN'.out _ _ H1.out.2.2.2 rfl
      have HOk : Hid (putOk A = true ∧ (a0 : Int) = c0 ∧ a0 ≤ 2) := by
        refine ⟨?_, by omega, by omega⟩
        unfold putOk; rw [HA.out.1, HA.out.2.1]; simp only [decide_eq_true_eq]
        have := H1.out.2.1
        omega
      have q2c : (¬ c0 < 2) ∨ (c0 < 2 ∧ ¬ 40 ≤ c1) := by omega
      have hc2 : c0 ≤ 2 := by omega
      have hU64 : U64s (capL 2147483648 A) := by
        intro z hz
        unfold capL at hz
        obtain ⟨u, _, rfl⟩ := List.mem_map.1 hz
        unfold capN; omega
      obtain ⟨m, hm⟩ : ∃ m, mxN (capL 2147483648 A) n = m := ⟨_, rfl⟩
      have HM : Hid (mxN (capL 2147483648 A) n = m ∧ U64s (capL 2147483648 A) ∧ ((2147483647 : Int) < m ↔ putLong A = true)) := by
        refine ⟨hm, hU64, ?_⟩
        have h3 := mxN_gt (X := capL 2147483648 A) 2147483647 n (by omega)
        rw [hm] at h3
        rw [h3]
        unfold putLong
        rw [List.any_eq_true]
        have hn' := H1.out.2.1
        constructor
        · rintro ⟨j, hj, h⟩
          rw [capL_get, if_pos (by omega)] at h
          refine ⟨A[j]'(by omega), List.getElem_mem _, ?_⟩
          rw [List.getD_eq_getElem?_getD, List.getElem?_eq_getElem (by omega)] at h
          unfold capN at h
          simp at h ⊢; omega
        · rintro ⟨u, hu, h⟩
          obtain ⟨j, hj, rfl⟩ := List.mem_iff_getElem.1 hu
          refine ⟨j, by omega, ?_⟩
          rw [capL_get, if_pos (by omega), List.getD_eq_getElem?_getD, List.getElem?_eq_getElem (by omega)]
          unfold capN
          simp at h ⊢; omega
      have m0 : 0 ≤ m := by rw [← hm]; exact (mxN_bd hU64 n).1
      have m1 : m < 18446744073709551616 := by rw [← hm]; exact (mxN_bd hU64 n).2
      clear hm hU64 e0 e1 q2
      rcases q2c with q2c | ⟨q2a, q2b⟩
      all_goals
        go_wp2_with fail
        refine (Max_any b1 k1 n (capL 2147483648 A) HA.out.2.2.2.2.1 (by unfold capL; rw [List.length_map]; exact H1.out.2.1) (by omega) (by omega) HM.out.2.1).mono ?_
        rw [HM.out.1]
        rintro e w2 ⟨rfl, rfl⟩
        by_cases hlong : (2147483647 : Int) < m
        · have HL : Hid (putLong A = true) := HM.out.2.2.1 hlong
          go_wp2
          go_ret2
          exact ⟨⟨_, [], 3, .inr (.inl ⟨A, H1.out.1, HOk.out.1, HL.out, rfl, rfl⟩), rfl, nil_sl _⟩, H1.out.2.2.2⟩
        have hnl : putLong A = false := by
          cases h : putLong A with
          | false => rfl
          | true => exact absurd (HM.out.2.2.2 h) hlong
        have hall : ∀ u ∈ A, u ≤ 2147483647 := by
          intro u hu
          unfold putLong at hnl
          rw [List.any_eq_false] at hnl
          have := hnl u hu
          simp at this; omega
        have hcell : ∀ i, i < n → w1.cell? ⟨b1, i, none⟩ = some (.int .u64 ((A.getD i 0 : Nat) : Int)) := by
          intro i hi
          have h3 := HA.out.2.2.2.2.1 i (by unfold capL; rw [List.length_map, H1.out.2.1]; exact hi)
          rw [Nat.zero_add, capL_get, if_pos (by rw [H1.out.2.1]; exact hi)] at h3
          rw [h3]
          have h4 : A.getD i 0 ≤ 2147483647 := by
            rw [List.getD_eq_getElem?_getD, List.getElem?_eq_getElem (by rw [H1.out.2.1]; exact hi)]
            exact hall _ (List.getElem_mem _)
          unfold capN
          congr 3
          omega
        have e1 : (a1 : Int) = c1 := by
          have h5 := HA.out.2.2.2.1
          have h4 : a1 ≤ 2147483647 := by
            rw [← HA.out.2.1, List.getD_eq_getElem?_getD, List.getElem?_eq_getElem (by rw [H1.out.2.1]; omega)]
            exact hall _ (List.getElem_mem _)
          omega
        obtain ⟨s0, hs0⟩ : ∃ s0 : Nat, 40 * a0 + a1 = s0 := ⟨_, rfl⟩
        have hs1 : 40 * c0 + c1 = (s0 : Int) := by have := HOk.out.2.1; omega
        have hs2 : s0 ≤ 4294967295 := by have := HOk.out.2.2; omega
        have HN : Hid (putLong A = false ∧ (∀ u ∈ A, u ≤ 2147483647) ∧ (∀ i, i < n → w1.cell? ⟨b1, i, none⟩ = some (.int .u64 ((A.getD i 0 : Nat) : Int))) ∧ 40 * A.getD 0 0 + A.getD 1 0 = s0) := ⟨hnl, hall, hcell, by rw [HA.out.1, HA.out.2.1]; exact hs0⟩
        clear hnl hall hcell e1 hs0
        have b1w : b1 < w1.heap.size := HA.out.2.2.2.2.2.1
        go_upto_region 6 with (fail)
        have hn1 : (1 : Int) < (n : Int) := by omega
        refine wp_region_qsd 8 (by kernel_rfl) (by kernel_rfl) ?_
        simp only [List.take_succ_cons, List.take_zero, List.drop_succ_cons, List.drop_zero]
        repeat (go_big_quiet_step (fail))
        refine wpQuiet_nil ?_
        rintro _ ⟨q3, rfl⟩
        go_wp2_with fail
        refine (sevensL_any (w := w1.drewN q3) w1.heap.size (.slice none 0 0) [] s0 (Row.nil _ _ _ _) (by exact Nat.le_refl w1.heap.size) hs2 (by simp)).mono ?_
        rintro e w3 ⟨r3, rfl, hr3, hb3⟩
        rw [List.nil_append] at hr3
        have H3 : Hid (Row .u8 5 w1.heap.size w3 r3 (sevL s0) ∧ Below w1.heap.size w1 w3) := ⟨hr3, (below_drewN _ (Below.refl _ _)).trans hb3⟩
        clear hr3 hb3 d0 d1
        obtain ⟨T, hT⟩ : ∃ T, A.drop 2 = T := ⟨_, rfl⟩
        obtain ⟨n2, hn2'⟩ : ∃ n2, n - 2 = n2 := ⟨_, rfl⟩
        have HT : Hid (A.drop 2 = T ∧ T.length = n2 ∧ n = n2 + 2) := ⟨hT, by rw [← hT, List.length_drop, H1.out.2.1]; exact hn2', by omega⟩
        have hkn : (2 : Int) ≤ (k1 : Int) := by omega
        have h2n : (2 : Int) ≤ (n : Int) := by omega
        obtain ⟨ba, hba⟩ : ∃ ba : Option Addr, (if k1 = 2 then some ⟨b1, 0, none⟩ else some ⟨b1, 2, none⟩) = ba := ⟨_, rfl⟩
        have HBA : Hid (0 < n2 → ba = some ⟨b1, 2, none⟩) := by intro h; rw [← hba, if_neg (by omega)]
        clear hT
        go_wp2_with fail
        go_loopw [6, 54] (fun bv iv wr => ∃ (i : Nat) (s1 : Value), s1 = bv ∧ iv = .int .i64 i ∧ i ≤ n2 ∧ Row .u8 5 w1.heap.size wr s1 (sevL s0 ++ (T.take i).flatMap sevL) ∧ Below w1.heap.size w1 wr) (fun _ iv _ => n2 - (intOf iv).toNat)
        case atStart => exact ⟨0, _, rfl, rfl, by omega, by simpa using H3.out.1, H3.out.2⟩
        case round =>
          obtain ⟨i, s1, rfl, rfl, hi, hr, hb⟩ := hrel
          have H5 : Hid (Row .u8 5 w1.heap.size wr s1 (sevL s0 ++ (T.take i).flatMap sevL) ∧ Below w1.heap.size w1 wr) := ⟨hr, hb⟩
          clear hr hb
          by_cases hlt : i < n2
          · have l1 : (i : Int) < (n2 : Int) := by omega
            have hb2 := HBA.out (by omega)
            obtain ⟨u, hu⟩ : ∃ u, T.getD i 0 = u := ⟨_, rfl⟩
            have hTA : T.getD i 0 = A.getD (2 + i) 0 := by rw [← HT.out.1, List.getD_eq_getElem?_getD, List.getD_eq_getElem?_getD, List.getElem?_drop]
            have hu2 : u ≤ 2147483647 := by
              have hlA : 2 + i < A.length := by have := H1.out.2.1; have := HT.out.2.2; omega
              rw [← hu, hTA, List.getD_eq_getElem?_getD, List.getElem?_eq_getElem hlA]
              exact HN.out.2.1 _ (List.getElem_mem _)
            have cu : wr.cell? ⟨b1, 2 + i, none⟩ = some (.int .u64 (u : Int)) := by
              rw [H5.out.2.cell (p := ⟨b1, 2 + i, none⟩) b1w, HN.out.2.2.1 (2 + i) (by have := HT.out.2.2; omega), ← hTA, hu]
            have HU : Hid (T.getD i 0 = u ∧ (sevL s0 ++ (T.take i).flatMap sevL).length ≤ 100000) := by
              refine ⟨hu, ?_⟩
              have h1 := sevL_len s0 hs2
              have h2 := flat_len (T.take i) (fun z hz => by
                have hz2 : z ∈ A := by have := List.mem_of_mem_take hz; rw [← HT.out.1] at this; exact List.mem_of_mem_drop this
                have := HN.out.2.1 z hz2; omega)
              rw [List.length_take] at h2
              rw [List.length_append]; omega
            clear hu hTA
            subst hb2
            go_wp2_with fail
            refine (sevensL_any w1.heap.size s1 _ u H5.out.1 H5.out.2.size (by omega) (by have := HU.out.2; omega)).mono ?_
            rintro e w6 ⟨r6, rfl, hr6, hb6⟩
            have H6 : Hid (Row .u8 5 w1.heap.size w6 r6 (sevL s0 ++ (T.take (i + 1)).flatMap sevL) ∧ Below w1.heap.size w1 w6) := ⟨by rw [flat_snoc T i (by have := HT.out.2.1; omega), HU.out.1, ← List.append_assoc]; exact hr6, H5.out.2.trans hb6⟩
            clear hr6 hb6 cu
            go_wp2
            go_roundw
            case rel => exact ⟨i + 1, _, rfl, by go_num, by omega, H6.out.1, H6.out.2⟩
            case measure => simp [intOf]; omega
          · obtain rfl : i = n2 := by omega
            have l1 : ¬ (i : Int) < (i : Int) := by omega
            have HE : Hid (sevL s0 ++ (T.take i).flatMap sevL = putB A) := by
              show _ = _
              rw [List.take_of_length_le (by have := HT.out.2.1; omega)]
              unfold putB
              rw [HN.out.2.2.2, HT.out.1]
            go_wp2
            go_ret2
            refine ⟨⟨_, putB A, 0, .inr (.inr ⟨A, H1.out.1, HOk.out.1, HN.out.1, rfl, rfl⟩), rfl, ?_⟩, H1.out.2.2.2.trans (H5.out.2.mono H1.out.2.2.2.size)⟩
            rw [← HE.out]; exact H5.out.1.sl
  · have HN : Hid (∀ A', arcsP Y = some A' → putOk A' = false) := by intro A' h; rw [hno] at h; cases h
    clear hb1 hno
    go_wp2
    go_ret2
    exact six.out HN.out _ _ HB1.out rfl
end Go.Proofs.YtjmiaakfdclfjaaGreatDoor
