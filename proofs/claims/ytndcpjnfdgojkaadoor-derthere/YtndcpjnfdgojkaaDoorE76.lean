/-
  Der: the numbers between the dots of a text.
-/
import Derived.Test.YtndcpjnfdgojkaaDoorE75
import Derived.Test.YtndcpjnfdgojkaaDoorE21
import Derived.Laws.RangeAny
import Derived.Lib.Strings
namespace Go.Proofs.YtndcpjnfdgojkaaDoor
open Go.RowKit
/-- Behind i bytes: the numbers that have ended, the next one's value and how many digits it has; or nothing, where it is wrong. -/
def ast (Y : List Int) : Nat → Option (List Nat × Nat × Nat)
  | 0 => some ([], 0, 0)
  | i + 1 => (ast Y i).bind fun q =>
    if Y.getD i 0 = 46 then (if 0 < q.2.2 then some (q.1 ++ [q.2.1], 0, 0) else none)
    else if Y.getD i 0 < 48 ∨ 57 < Y.getD i 0 ∨ (q.2.1 = 0 ∧ 0 < q.2.2) then none
    else some (q.1, 10 * q.2.1 + (Y.getD i 0 - 48).toNat, q.2.2 + 1)
theorem ast_none {Y : List Int} {i : Nat} (h : ast Y i = none) : ∀ d, ast Y (i + d) = none
  | 0 => h
  | d + 1 => by
    show (ast Y (i + d)).bind _ = none
    rw [ast_none h d]; rfl
theorem ast_step {Y : List Int} {i : Nat} {A : List Nat} {v k : Nat} {x : Int} (h : ast Y i = some (A, v, k)) (hx : Y.getD i 0 = x) :
    ast Y (i + 1) = if x = 46 then (if 0 < k then some (A ++ [v], 0, 0) else none) else if x < 48 ∨ 57 < x ∨ (v = 0 ∧ 0 < k) then none else some (A, 10 * v + (x - 48).toNat, k + 1) := by
  show (ast Y i).bind _ = _
  rw [h, hx]; rfl
def arcsP (Y : List Int) : Option (List Nat) := (ast Y Y.length).bind fun q => if 0 < q.2.2 then some (q.1 ++ [q.2.1]) else none
theorem arcsP_none {Y : List Int} {i : Nat} (hi : i ≤ Y.length) (h : ast Y i = none) : arcsP Y = none := by
  unfold arcsP
  have := ast_none h (Y.length - i)
  rw [show i + (Y.length - i) = Y.length by omega] at this
  rw [this]; rfl
theorem ast_len (Y : List Int) : ∀ i A v k, ast Y i = some (A, v, k) → A.length + k ≤ i
  | 0, A, v, k, h => by cases h; simp
  | i + 1, A, v, k, h => by
    cases hq : ast Y i with
    | none => rw [show ast Y (i + 1) = none from ast_none hq 1] at h; cases h
    | some q =>
      obtain ⟨A', v', k'⟩ := q
      have := ast_len Y i A' v' k' hq
      rw [ast_step hq rfl] at h
      split at h
      · split at h
        · cases h; simp; omega
        · cases h
      · split at h
        · cases h
        · cases h; omega
def WrAns (Y : List Int) (B : Nat) (w : World) (e : Ending) : Prop :=
  (∃ A r, arcsP Y = some A ∧ e = .returned (.tuple #[r, .bool true]) ∧ Row .u64 81 B w r (capL 2147483648 A)) ∨ (arcsP Y = none ∧ ∃ r, e = .returned (.tuple #[r, .bool false]))
def ItS (g : Nat) (X : List Int) (W : World) (pos : Nat) : Prop := W.heap[g]? = some (.stringIter (strOfNums X) pos)
theorem ItS.pos {g : Nat} {X : List Int} {W : World} {pos : Nat} (h : ItS g X W pos) : W.iterPos g = pos := by
  unfold World.iterPos; rw [h]
theorem ItS.lt {g : Nat} {X : List Int} {W : World} {pos : Nat} (h : ItS g X W pos) : g < W.heap.size := (Array.getElem?_eq_some_iff.1 h).1
theorem ItS.below {g : Nat} {X : List Int} {W W' : World} {pos : Nat} (h : ItS g X W pos) (hb : Below (g + 1) W W') : ItS g X W' pos := by
  unfold ItS; rw [hb.block _ (by omega)]; exact h
theorem row_iterS {k : IntKind} {e : TypeId} {g : Nat} {W : World} {v : Value} {xs : List Int} (s : ByteArray) (pos : Nat) (h : Row k e (g + 1) W v xs) : Row k e (g + 1) (W.iterAt g s pos) v xs := by
  rcases h with h | ⟨b, S, rfl, h1, hA, h2⟩
  · exact .inl h
  · exact .inr ⟨b, S, rfl, h1, by unfold Arr; rw [Lib.iterAt_other W _ _ s pos (by omega)]; exact hA, h2⟩
theorem st_get (X : List Int) (hU : U8s X) (i : Nat) (hi : i < X.length) (h : i < (strOfNums X).size) : (((strOfNums X)[i]'h).toNat : Int) = X.getD i 0 := by
  have e : (strOfNums X)[i]'h = UInt8.ofNat (X[i]).toNat := by
    show (strOfNums X).data[i] = _
    simp [strOfNums]
  have hu := hU _ (List.getElem_mem hi)
  unfold U8 at hu
  rw [e, List.getD_eq_getElem?_getD, List.getElem?_eq_getElem hi]
  simp
  omega
/-- What the next character is: the byte itself, or, from 128 on, something above. -/
theorem next_char {P : Program} {wr : World} {g i : Nat} {Y : List Int} (hU : U8s Y) (hI : ItS g Y wr i) (hi : i < Y.length) :
    ∃ (y : Int) (p : Nat), Sem.run P (Instr.next (.pointer (some ⟨g, 0, none⟩)) true 0) wr = .ok (.tuple #[.bool true, .int .i64 i, .int .i32 y]) (wr.iterAt g (strOfNums Y) p) ∧ ((Y.getD i 0 < 128 ∧ y = Y.getD i 0 ∧ p = i + 1) ∨ (128 ≤ Y.getD i 0 ∧ 57 < y)) := by
  have hiS : i < (strOfNums Y).size := by rw [st_size]; omega
  have hg := st_get Y hU i hi hiS
  by_cases h : Y.getD i 0 < 128
  · refine ⟨Y.getD i 0, i + 1, ?_, .inl ⟨h, rfl, rfl⟩⟩
    rw [Lib.run_next_ascii_at wr g (strOfNums Y) i 0 hI hiS (by omega), hg]
  · refine ⟨_, _, Lib.run_next_any_at wr g (strOfNums Y) i 0 hI hiS, .inr ⟨by omega, ?_⟩⟩
    have := (decode_high _ _ hiS (by omega)).1
    omega
set_option maxRecDepth 20000 in
set_option maxHeartbeats 8000000 in
theorem written_any {w : World} (Y : List Int) (hU : U8s Y) (hl : Y.length ≤ 2000) :
    Calls Tryd.prog 48 #[.string (strOfNums Y)] w fun e w' => WrAns Y (w.heap.size + 1) w' e ∧ Below w.heap.size w w' := by
  obtain ⟨S, hS⟩ : ∃ S, strOfNums Y = S := ⟨_, rfl⟩
  have HX : Hid (U8s Y ∧ Y.length ≤ 2000 ∧ strOfNums Y = S) := ⟨hU, hl, hS⟩
  rw [hS]
  clear hU hS
  go_enter Tryd.func48, Tryd.ntmps48
  go_wp2_with fail
  refine wp_gen (fun W => ItS w.heap.size Y W 0 ∧ Below w.heap.size w W) ⟨by unfold ItS; rw [HX.out.2.2, World.iter_heap], al1 _⟩ ?_
  rintro w1 ⟨hI, hb⟩
  have H1 : Hid (ItS w.heap.size Y w1 0 ∧ Below w.heap.size w w1) := ⟨hI, hb⟩
  clear hI hb
  go_loopw [2, 4, 5] (fun lv nv dv wr => ∃ (i : Nat) (l0 : Value) (A : List Nat) (v k : Nat) (t : Int), l0 = lv ∧ nv = .int .u64 t ∧ dv = .int .i64 k ∧ i ≤ Y.length ∧ ast Y i = some (A, v, k) ∧ t = capN 2147483648 v ∧ ItS w.heap.size Y wr i ∧ Row .u64 81 (w.heap.size + 1) wr l0 (capL 2147483648 A) ∧ Below w.heap.size w wr) (fun _ _ _ wr => Y.length - wr.iterPos w.heap.size)
  case atStart => exact ⟨0, _, [], 0, 0, 0, rfl, rfl, rfl, by omega, rfl, rfl, H1.out.1, Row.nil _ _ _ _, H1.out.2⟩
  case round =>
    obtain ⟨i, l0, A, v, k, t, rfl, rfl, rfl, hi, ha, ht, hI, hr, hb⟩ := hrel
    have hlen := ast_len Y i A v k ha
    have t0 : 0 ≤ t := by rw [ht]; unfold capN; omega
    have t1 : t ≤ 2147483648 := by rw [ht]; unfold capN; omega
    have H2 : Hid (ast Y i = some (A, v, k) ∧ t = capN 2147483648 v ∧ ItS w.heap.size Y wr i ∧ Row .u64 81 (w.heap.size + 1) wr l0 (capL 2147483648 A) ∧ Below w.heap.size w wr ∧ wr.iterPos w.heap.size = i) := ⟨ha, ht, hI, hr, hb, hI.pos⟩
    have hk2 : (k : Int) ≤ 2000 := by omega
    clear ha hI hr hb
    by_cases hlt : i < Y.length
    · obtain ⟨y, p, hnx, hy⟩ := next_char (P := Tryd.prog) HX.out.1 H2.out.2.2.1 hlt
      rw [HX.out.2.2] at hnx
      obtain ⟨x, hx⟩ : ∃ x, Y.getD i 0 = x := ⟨_, rfl⟩
      rw [hx] at hy
      have hst := ast_step H2.out.1 hx
      have HS : Hid (ast Y (i + 1) = if x = 46 then (if 0 < k then some (A ++ [v], 0, 0) else none) else if x < 48 ∨ 57 < x ∨ (v = 0 ∧ 0 < k) then none else some (A, 10 * v + (x - 48).toNat, k + 1)) := hst
      have no : Hid (ast Y (i + 1) = none → ∀ (W : World) (e : Ending), Below w.heap.size w W → e = .returned (.tuple #[.slice none 0 0, .bool false]) → WrAns Y (w.heap.size + 1) W e ∧ Below w.heap.size w W) := fun h W e hW he => ⟨.inr ⟨arcsP_none (by omega) h, _, he⟩, hW⟩
      have hbp : Below w.heap.size w (wr.iterAt w.heap.size S p) := Lib.below_iterAt H2.out.2.2.2.2.1 (Nat.le_refl _) _ _
      have HB : Hid (Below w.heap.size w (wr.iterAt w.heap.size S p) ∧ (x < 128 → p = i + 1)) := ⟨hbp, by rcases hy with ⟨_, _, h⟩ | ⟨h, _⟩ <;> intro _ <;> omega⟩
      clear hst hx hbp
      by_cases q57 : 57 < x
      · have y57 : 57 < y := by omega
        have y46 : (y == 46) = false := by simp; omega
        have y48 : ¬ y < 48 := by omega
        have hno : ast Y (i + 1) = none := by rw [HS.out, if_neg (by omega), if_pos (by omega)]
        have HN : Hid (ast Y (i + 1) = none) := hno
        clear hno hy
        go_wp2
        go_ret2
        exact no.out HN.out _ _ HB.out.1 rfl
      obtain ⟨hyx, hp⟩ : y = x ∧ p = i + 1 := by omega
      subst hyx
      subst hp
      clear hy
      by_cases q46 : y = 46
      · subst q46
        clear ht
        by_cases qk : 0 < k
        · have qkI : (0 : Int) < (k : Int) := by omega
          have HN : Hid (ast Y (i + 1) = some (A ++ [v], 0, 0) ∧ capL 2147483648 (A ++ [v]) = capL 2147483648 A ++ [t] ∧ (capL 2147483648 A).length ≤ 2000) := by
            refine ⟨by rw [HS.out, if_pos (by simp), if_pos qk], ?_, ?_⟩
            · unfold capL; rw [List.map_append, H2.out.2.1]; rfl
            · unfold capL; rw [List.length_map]; omega
          have hrow : Row .u64 81 (w.heap.size + 1) (wr.iterAt w.heap.size S (i + 1)) l0 (capL 2147483648 A) := row_iterS _ _ H2.out.2.2.2.1
          have hit : ItS w.heap.size Y (wr.iterAt w.heap.size S (i + 1)) (i + 1) := by
            have := Lib.iterAt_heap wr w.heap.size (strOfNums Y) i (i + 1) H2.out.2.2.1
            rw [HX.out.2.2] at this; unfold ItS; rw [HX.out.2.2]; exact this
          have H3 : Hid (Row .u64 81 (w.heap.size + 1) (wr.iterAt w.heap.size S (i + 1)) l0 (capL 2147483648 A) ∧ ItS w.heap.size Y (wr.iterAt w.heap.size S (i + 1)) (i + 1)) := ⟨hrow, hit⟩
          clear hrow hit
          go_wp2_with (at_builtin; refine wpList_ap rfl (.tmp 29) (.tmp 31) 83 83 rfl .u64 81 8 Tryd.und64 Tryd.info64 (by decide) (w.heap.size + 1) _ (capL 2147483648 A) rfl (H3.out.1.alloc _) _ [_] rfl (src_sl Tryd.und64 (new_sl (k := .u64) [_] (0, 0))) (by have := HN.out.2.2; simp; omega) (by have := H3.out.2.lt; simp; omega) ?_; intro v2 w2 hr2 hg2)
          have hb2 : Below (w.heap.size + 1) (wr.iterAt w.heap.size S (i + 1)) w2 := ((al1 _).mono H3.out.2.lt).trans (hg2.below (H3.out.1.alloc _) (by have := H3.out.2.lt; simp; omega))
          have H4 : Hid (Row .u64 81 (w.heap.size + 1) w2 v2 (capL 2147483648 (A ++ [v])) ∧ ItS w.heap.size Y w2 (i + 1) ∧ Below w.heap.size w w2) := ⟨by rw [HN.out.2.1]; exact hr2, H3.out.2.below hb2, HB.out.1.trans (hb2.mono (by omega))⟩
          clear hr2 hg2 hb2
          go_roundw
          case rel => exact ⟨i + 1, _, A ++ [v], 0, 0, 0, rfl, rfl, rfl, by omega, HN.out.1, rfl, H4.out.2.1, H4.out.1, H4.out.2.2⟩
          case measure => rw [H4.out.2.1.pos, H2.out.2.2.2.2.2]; omega
        · obtain rfl : k = 0 := by omega
          have HN : Hid (ast Y (i + 1) = none) := by show _ = _; rw [HS.out, if_pos (by simp), if_neg (by simp)]
          go_wp2
          go_ret2
          exact no.out HN.out _ _ HB.out.1 rfl
      have y46 : (y == 46) = false := by simpa using q46
      by_cases q48 : y < 48
      · have HN : Hid (ast Y (i + 1) = none) := by show _ = _; rw [HS.out, if_neg q46, if_pos (by omega)]
        go_wp2
        go_ret2
        exact no.out HN.out _ _ HB.out.1 rfl
      have y57 : ¬ 57 < y := by omega
      by_cases qz : v = 0 ∧ 0 < k
      · have HN : Hid (ast Y (i + 1) = none) := by show _ = _; rw [HS.out, if_neg q46, if_pos (by omega)]
        have ht0 : t = 0 := by rw [ht, qz.1]; rfl
        have qkI : (0 : Int) < (k : Int) := by omega
        clear ht
        subst ht0
        go_wp2
        go_ret2
        exact no.out HN.out _ _ HB.out.1 rfl
      have HN : Hid (ast Y (i + 1) = some (A, 10 * v + (y - 48).toNat, k + 1)) := by show _ = _; rw [HS.out, if_neg q46, if_neg (by omega)]
      have htz : (t == 0) = false ∨ ((t == 0) = true ∧ ¬ (0 : Int) < (k : Int)) := by
        by_cases h : t = 0
        · right
          refine ⟨by simpa using h, ?_⟩
          have : v = 0 := by rw [h] at ht; unfold capN at ht; omega
          intro hk; exact qz ⟨this, by omega⟩
        · left; simpa using h
      obtain ⟨t2, ht2⟩ : ∃ t2, 10 * t + (y - 48) = t2 := ⟨_, rfl⟩
      obtain ⟨m, hm⟩ : ∃ m, min t2 2147483648 = m := ⟨_, rfl⟩
      have HM : Hid (m = capN 2147483648 (10 * v + (y - 48).toNat)) := by
        show _ = _
        unfold capN at ht ⊢
        omega
      have hy8 : 0 ≤ y - 48 := by omega
      have hy9 : y - 48 ≤ 9 := by omega
      have t20 : 0 ≤ t2 := by omega
      have t21 : t2 ≤ 21474836490 := by omega
      have hrow : Row .u64 81 (w.heap.size + 1) (wr.iterAt w.heap.size S (i + 1)) l0 (capL 2147483648 A) := row_iterS _ _ H2.out.2.2.2.1
      have hit : ItS w.heap.size Y (wr.iterAt w.heap.size S (i + 1)) (i + 1) := by
        have := Lib.iterAt_heap wr w.heap.size (strOfNums Y) i (i + 1) H2.out.2.2.1
        rw [HX.out.2.2] at this; unfold ItS; rw [HX.out.2.2]; exact this
      have H3 : Hid (Row .u64 81 (w.heap.size + 1) (wr.iterAt w.heap.size S (i + 1)) l0 (capL 2147483648 A) ∧ ItS w.heap.size Y (wr.iterAt w.heap.size S (i + 1)) (i + 1)) := ⟨hrow, hit⟩
      clear hrow hit ht qz
      rcases htz with htz | ⟨htz, hk0⟩
      all_goals
        go_wp2
        go_roundw
        case rel => exact ⟨i + 1, _, A, _, k + 1, m, rfl, rfl, by go_num, by omega, HN.out, HM.out, H3.out.2, H3.out.1, HB.out.1⟩
        case measure => rw [H3.out.2.pos, H2.out.2.2.2.2.2]; omega
    · obtain rfl : i = Y.length := by omega
      have hnx : Sem.run Tryd.prog (Instr.next (.pointer (some ⟨w.heap.size, 0, none⟩)) true 0) wr = .ok (.tuple #[.bool false]) wr := Lib.run_next_end_at wr w.heap.size (strOfNums Y) Y.length 0 H2.out.2.2.1 (by rw [st_size]; omega)
      have HN : Hid (capL 2147483648 (A ++ [v]) = capL 2147483648 A ++ [t] ∧ (capL 2147483648 A).length ≤ 2000 ∧ arcsP Y = if 0 < k then some (A ++ [v]) else none) := by
        refine ⟨?_, ?_, ?_⟩
        · unfold capL; rw [List.map_append, H2.out.2.1]; rfl
        · unfold capL; rw [List.length_map]; omega
        · unfold arcsP; rw [H2.out.1]; rfl
      clear ht
      by_cases qk : 0 < k
      · have qkI : (0 : Int) < (k : Int) := by omega
        go_wp2_with (at_builtin; refine wpList_ap rfl (.tmp 44) (.tmp 46) 83 83 rfl .u64 81 8 Tryd.und64 Tryd.info64 (by decide) (w.heap.size + 1) _ (capL 2147483648 A) rfl (H2.out.2.2.2.1.alloc _) _ [_] rfl (src_sl Tryd.und64 (new_sl (k := .u64) [_] (0, 0))) (by have := HN.out.2.1; simp; omega) (by have := H2.out.2.2.1.lt; simp; omega) ?_; intro v2 w2 hr2 hg2)
        have hb2 : Below w.heap.size w w2 := (al2' H2.out.2.2.2.2.1).trans ((hg2.below (H2.out.2.2.2.1.alloc _) (by have := H2.out.2.2.1.lt; simp; omega)).mono (by omega))
        go_ret2
        refine ⟨.inl ⟨A ++ [v], v2, by rw [HN.out.2.2, if_pos qk], rfl, ?_⟩, hb2⟩
        rw [HN.out.1]; exact hr2
      · have qkI : ¬ (0 : Int) < (k : Int) := by omega
        go_wp2_with (at_builtin; refine wpList_ap rfl (.tmp 44) (.tmp 46) 83 83 rfl .u64 81 8 Tryd.und64 Tryd.info64 (by decide) (w.heap.size + 1) _ (capL 2147483648 A) rfl (H2.out.2.2.2.1.alloc _) _ [_] rfl (src_sl Tryd.und64 (new_sl (k := .u64) [_] (0, 0))) (by have := HN.out.2.1; simp; omega) (by have := H2.out.2.2.1.lt; simp; omega) ?_; intro v2 w2 hr2 hg2)
        have hb2 : Below w.heap.size w w2 := (al2' H2.out.2.2.2.2.1).trans ((hg2.below (H2.out.2.2.2.1.alloc _) (by have := H2.out.2.2.1.lt; simp; omega)).mono (by omega))
        go_ret2
        exact ⟨.inr ⟨by rw [HN.out.2.2, if_neg qk], v2, rfl⟩, hb2⟩
end Go.Proofs.YtndcpjnfdgojkaaDoor
