/-
  Ber: where a part ends.
-/
import Derived.Test.YtefebamomdcaaaaGreatDoorK10
namespace Go.Proofs.YtefebamomdcaaaaGreatDoor
open Go.RowKit
theorem wpList_boxE {P : Program} {ops : Array Oper} {rest : List Oper} {o : Oper} {a : Act} {w : World} {Q : Exit → Act → World → Prop} (hg : o.guard = none) (t : TypeId) (x : Operand) (ho : o.op = .box t x) (cells : Array Value) (hx : a.eval x = .agg cells)
    (h : wpList P ops Q rest (a.put o.dst (.pointer (some ⟨w.heap.size, 0, none⟩))) (w.alloc (.cells cells t))) : wpList P ops Q (o :: rest) a w := by
  refine wpList_plain hg fun K hK => ?_
  unfold Oper.wp execOp
  simp only [ho, hx, Sem.run_bind, Instr.box, newVar, newRow, run_newObj_alloc, Sem.run_pure, Result.andThen_ok]
  exact hK _ _ h
set_option maxRecDepth 20000 in
set_option maxHeartbeats 4000000 in
theorem end_shut {w : World} (v : Value) (M : List Int) (p u : Nat) :
    Calls Tryz.prog 61 #[.agg #[.bool false, .int .i64 (u : Int)], v, .int .i64 (p : Int)] w fun e w' => e = .returned (.tuple #[.int .i64 0, .bool (ends M p (false, u))]) ∧ Below w.heap.size w w' := by
  have hE : ends M p (false, u) = ((p : Int) == (u : Int)) := by
    simp only [ends, Bool.false_eq_true, if_false]
    by_cases h : p = u
    · subst h; simp
    · have : ¬ (p : Int) = (u : Int) := by omega
      simp [h, this]
  rw [hE]
  clear hE
  go_enter Tryz.func61, Tryz.ntmps61
  go_upto_region 1 with (refine wpList_boxE rfl 103 (.tmp 0) rfl #[.bool false, .int .i64 (u : Int)] rfl ?_)
  refine wp_gen (fun W => Below w.heap.size w W ∧ Blk 103 W w.heap.size [.bool false, .int .i64 (u : Int)]) ⟨al1 _, Blk.new _ _ _⟩ ?_
  rintro W0 hW
  have M0 : Hid (Below w.heap.size w W0) := hW.1
  have p0 : W0.cell? ⟨w.heap.size, 0, none⟩ = some (.bool false) := hW.2.cell 0
  have p1 : W0.cell? ⟨w.heap.size, 1, none⟩ = some (.int .i64 (u : Int)) := hW.2.cell 1
  clear hW
  go_upto_region 2 with (fail)
  go_quiet (fail)
  go_wp2
  go_ret2
  exact ⟨rfl, below_drewN _ M0.out⟩
set_option maxRecDepth 20000 in
set_option maxHeartbeats 4000000 in
theorem end_open {w : World} (b off n c p u : Nat) (M : List Int) (hM : Rd .u8 w b off M) (hMl : M.length = n) (hn : n ≤ 16777216) (hb : b < w.heap.size) (hu : u ≤ n) (hp : p ≤ n) :
    Calls Tryz.prog 61 #[.agg #[.bool true, .int .i64 (u : Int)], .slice (some ⟨b, off, none⟩) n c, .int .i64 (p : Int)] w fun e w' => e = .returned (.tuple #[.int .i64 2, .bool (ends M p (true, u))]) ∧ Below w.heap.size w w' := by
  obtain ⟨E, hE⟩ : ∃ E, ends M p (true, u) = E := ⟨_, rfl⟩
  have HE : Hid (decide (p + 1 < u ∧ M.getD p 0 = 0 ∧ M.getD (p + 1) 0 = 0) = E) := by
    show _ = _
    rw [← hE]; rfl
  have HX : Hid (Rd .u8 w b off M ∧ M.length = n) := ⟨hM, hMl⟩
  rw [hE]
  clear hM hMl hE
  go_enter Tryz.func61, Tryz.ntmps61
  go_upto_region 1 with (refine wpList_boxE rfl 103 (.tmp 0) rfl #[.bool true, .int .i64 (u : Int)] rfl ?_)
  refine wp_gen (fun W => Below w.heap.size w W ∧ Blk 103 W w.heap.size [.bool true, .int .i64 (u : Int)]) ⟨al1 _, Blk.new _ _ _⟩ ?_
  rintro W0 hW
  have M0 : Hid (Below w.heap.size w W0) := hW.1
  have p0 : W0.cell? ⟨w.heap.size, 0, none⟩ = some (.bool true) := hW.2.cell 0
  have p1 : W0.cell? ⟨w.heap.size, 1, none⟩ = some (.int .i64 (u : Int)) := hW.2.cell 1
  have HR : Hid (Rd .u8 W0 b off M) := below_rd hW.1 hb HX.out.1
  clear hW
  go_upto_region 3 with (fail)
  by_cases h1 : p + 1 < u
  · have h1I : (p : Int) + 1 < (u : Int) := by omega
    have hpI : (p : Int) ≤ 16777216 := by omega
    have hpn : (p : Int) < (n : Int) := by omega
    have hpn1 : (p : Int) + 1 < (n : Int) := by omega
    obtain ⟨x, hx⟩ : ∃ x, M.getD p 0 = x := ⟨_, rfl⟩
    obtain ⟨y, hy⟩ : ∃ y, M.getD (p + 1) 0 = y := ⟨_, rfl⟩
    have cx : W0.cell? ⟨b, off + p, none⟩ = some (.int .u8 x) := by rw [HR.out p (by have := HX.out.2; omega), hx]
    have cy : W0.cell? ⟨b, off + (p + 1), none⟩ = some (.int .u8 y) := by rw [HR.out (p + 1) (by have := HX.out.2; omega), hy]
    have HF : Hid (decide (x = 0 ∧ y = 0) = E) := by
      show _ = _
      rw [← HE.out, hx, hy]
      simp [h1]
    clear hx hy
    by_cases hx0 : x = 0
    · subst hx0
      have HG : Hid ((y == 0) = E) := by
        show _ = _
        rw [← HF.out]
        by_cases h : y = 0 <;> simp [h]
      go_quiet (fail)
      go_wp2
      go_ret2
      exact ⟨by rw [← HG.out]; rfl, below_drewN _ M0.out⟩
    · have hxb : (x == 0) = false := by simpa using hx0
      have HG : Hid (false = E) := by
        show _ = _
        rw [← HF.out]
        simp [hx0]
      go_quiet (fail)
      go_wp2
      go_ret2
      exact ⟨by rw [← HG.out]; rfl, below_drewN _ M0.out⟩
  · have h1I : ¬ (p : Int) + 1 < (u : Int) := by omega
    have hpI : (p : Int) ≤ 16777216 := by omega
    have HG : Hid (false = E) := by
      show _ = _
      rw [← HE.out]
      simp [h1]
    go_quiet (fail)
    go_wp2
    go_ret2
    exact ⟨by rw [← HG.out]; rfl, below_drewN _ M0.out⟩
end Go.Proofs.YtefebamomdcaaaaGreatDoor
/-
  Ber: rows of elements and of open parts in memory.
-/
namespace Go.Proofs.YtefebamomdcaaaaGreatDoor
open Go.RowKit
theorem MRow.mgrew {m : Nat} {e e' : TypeId} {B : Nat} {w w' : World} {v u : Value} {n : Nat} {xs : List Value} (h : MRow m e B w v n xs) (hg : MGrew e' w w' u) (hne : e ≠ e') : MRow m e B w' v n xs := by
  rcases hg with hg | ⟨b', n', c', S', rfl, hB, hU⟩
  · exact h.below hg
  · obtain ⟨h0, h⟩ := h
    refine ⟨h0, ?_⟩
    rcases h with h | ⟨b, S, c, rfl, h1, hA, h2⟩
    · exact .inl h
    · refine .inr ⟨b, S, c, rfl, h1, hU.blk hA (fun e0 => hne ?_), h2⟩
      subst e0
      unfold Blk at hA hB
      rw [hA] at hB
      simp only [Option.some.injEq, Obj.cells.injEq] at hB
      exact hB.2.1
theorem Row.mgrew8 {B : Nat} {w w' : World} {v u : Value} {xs : List Int} {e' : TypeId} (h : Row .u8 5 B w v xs) (hg : MGrew e' w w' u) (hne : 5 ≠ e') : Row .u8 5 B w' v xs := by
  rcases hg with hg | ⟨b', n', c', S', rfl, hB, hU⟩
  · exact h.below hg
  · rcases h with h | ⟨b, S, rfl, h1, hA, h2⟩
    · exact .inl h
    · refine .inr ⟨b, S, rfl, h1, hU.arr hA (fun e0 => hne ?_), h2⟩
      subst e0
      have hA' : Blk 5 w b _ := hA
      unfold Blk at hA' hB
      rw [hA'] at hB
      simp only [Option.some.injEq, Obj.cells.injEq] at hB
      exact hB.2.1
/-- An element in memory: what it is, and the slice of its data. -/
abbrev Tv := Te × Value
def cellE (y : Tv) : List Value := [.int .i64 y.1.dp, .int .i64 y.1.cl, .int .i64 y.1.tg, .bool y.1.co, y.2]
def elCells (Y : List Tv) : List Value := Y.flatMap cellE
theorem elCells_snoc (Y : List Tv) (y : Tv) : elCells (Y ++ [y]) = elCells Y ++ cellE y := by simp [elCells]
/-- A row of elements of the call's own, from block B on, no two of whose data lie in one block. -/
def Elems (B : Nat) (w : World) (v : Value) (L : List Te) : Prop :=
  ∃ Y : List Tv, Y.map (·.1) = L ∧ MRow 5 59 B w v Y.length (elCells Y) ∧ (∀ y ∈ Y, Row .u8 5 B w y.2 y.1.d) ∧ Apart (Y.map (·.2))
theorem Elems.nil (B : Nat) (w : World) : Elems B w (.slice none 0 0) [] := ⟨[], rfl, MRow.nil _ _ _ _, by simp, List.Pairwise.nil⟩
theorem Elems.len {B : Nat} {w : World} {v : Value} {L : List Te} (h : Elems B w v L) : ∃ a c, v = .slice a L.length c := by
  obtain ⟨Y, rfl, hm, _⟩ := h
  obtain ⟨a, c, h⟩ := hm.ne
  exact ⟨a, c, by rw [h, List.length_map]⟩
theorem Elems.below {B : Nat} {w w' : World} {v : Value} {L : List Te} (h : Elems B w v L) (hb : Below w.heap.size w w') : Elems B w' v L := by
  obtain ⟨Y, h1, h2, h3, h4⟩ := h
  exact ⟨Y, h1, h2.below hb, fun y hy => (h3 y hy).below hb, h4⟩
theorem Elems.upd {B : Nat} {w w' : World} {v : Value} {L : List Te} {g : Nat} (h : Elems B w v L) (hu : Upd w w' g) (hg : g < B) : Elems B w' v L := by
  obtain ⟨Y, h1, h2, h3, h4⟩ := h
  exact ⟨Y, h1, h2.upd hu hg, fun y hy => (h3 y hy).upd hu hg, h4⟩
theorem Elems.mono {B B' : Nat} {w : World} {v : Value} {L : List Te} (h : Elems B w v L) (hb : B' ≤ B) : Elems B' w v L := by
  obtain ⟨Y, h1, h2, h3, h4⟩ := h
  exact ⟨Y, h1, h2.mono hb, fun y hy => (h3 y hy).mono hb, h4⟩
theorem Elems.mgrew {B : Nat} {w w' : World} {v u : Value} {L : List Te} (h : Elems B w v L) (hg : MGrew 103 w w' u) : Elems B w' v L := by
  obtain ⟨Y, h1, h2, h3, h4⟩ := h
  exact ⟨Y, h1, h2.mgrew hg (by decide), fun y hy => (h3 y hy).mgrew8 hg (by decide), h4⟩
/-- The open parts, the innermost one last in memory, first in the list. -/
def prtCells (S : List Prt) : List Value := S.flatMap fun x => [.bool x.1, .int .i64 (x.2 : Int)]
theorem prtCells_len (S : List Prt) : (prtCells S).length = S.length * 2 := by
  induction S with
  | nil => rfl
  | cons x S ih => simp [prtCells] at ih ⊢; omega
def Prts (B : Nat) (w : World) (v : Value) (S : List Prt) : Prop := MRow 2 103 B w v S.length (prtCells S.reverse)
theorem Prts.nil (B : Nat) (w : World) : Prts B w (.slice none 0 0) [] := MRow.nil _ _ _ _
theorem prtCells_cons (x : Prt) (S : List Prt) : prtCells (x :: S).reverse = prtCells S.reverse ++ [.bool x.1, .int .i64 (x.2 : Int)] := by simp [prtCells]
/-- The innermost part in memory. -/
theorem Prts.last {B : Nat} {w : World} {v : Value} {x : Prt} {S : List Prt} (h : Prts B w v (x :: S)) : ∃ b c, v = .slice (some ⟨b, 0, none⟩) (S.length + 1) c ∧ S.length + 1 ≤ c ∧ B ≤ b ∧ b < w.heap.size ∧ w.cell? ⟨b, S.length * 2, none⟩ = some (.bool x.1) ∧ w.cell? ⟨b, S.length * 2 + 1, none⟩ = some (.int .i64 (x.2 : Int)) ∧ c ≤ maxLen := by
  obtain ⟨h0, h⟩ := h
  rcases h with ⟨_, h⟩ | ⟨b, T, c, rfl, h1, hA, h2, h3, h4, h5⟩
  · simp at h
  · have hl : (prtCells S.reverse).length = S.length * 2 := by rw [prtCells_len, List.length_reverse]
    have hc : ∀ i, i < (S.length + 1) * 2 → w.cell? ⟨b, i, none⟩ = (prtCells (x :: S).reverse)[i]? := fun i hi => by
      rw [hA.cell i, ← h4, List.getElem?_take, if_pos (by simpa using hi)]
    refine ⟨b, c, rfl, by simpa using h3, h1, hA.lt, ?_, ?_, h5⟩
    · rw [hc _ (by omega), prtCells_cons, List.getElem?_append_right (by omega), hl]; simp
    · rw [hc _ (by omega), prtCells_cons, List.getElem?_append_right (by omega), hl]; simp
/-- Without it. -/
theorem Prts.pop {B : Nat} {w : World} {b n c : Nat} {x : Prt} {S : List Prt} (h : Prts B w (.slice (some ⟨b, 0, none⟩) n c) (x :: S)) : Prts B w (.slice (some ⟨b, 0, none⟩) S.length c) S := by
  obtain ⟨h0, h⟩ := h
  rcases h with ⟨h, _⟩ | ⟨b', T, c', he, h1, hA, h2, h3, h4, h5⟩
  · cases h
  · simp only [Value.slice.injEq, Option.some.injEq, Addr.mk.injEq, and_true] at he
    obtain ⟨rfl, _, rfl⟩ := he
    refine ⟨by rw [prtCells_len, List.length_reverse], .inr ⟨b, T, c, rfl, h1, hA, h2, by simp at h3; omega, ?_, h5⟩⟩
    rw [prtCells_cons] at h4
    have h6 := congrArg (List.take (S.length * 2)) h4
    rw [List.take_take, List.take_append_of_le_length (by rw [prtCells_len, List.length_reverse]; omega)] at h6
    have h7 : List.take (S.length * 2) (prtCells S.reverse) = prtCells S.reverse := List.take_of_length_le (by rw [prtCells_len, List.length_reverse]; omega)
    rw [h7, show min (S.length * 2) ((x :: S).length * 2) = S.length * 2 by simp] at h6
    exact h6
/-- An append turns no block that lies behind its own. -/
theorem MGrew.keep {m : Nat} {e : TypeId} {B : Nat} {w w' : World} {v : Value} {n : Nat} {xs : List Value} (hg : MGrew e w w' v) (hr : MRow m e B w v n xs) {N : Nat} (hN : ∀ b, blkOf v = some b → b < N) {T : TypeId} {b : Nat} {cs : List Value} (hB : Blk T w b cs) (hb : N ≤ b) : Blk T w' b cs := by
  rcases hg with hg | ⟨b', n', c', S', rfl, _, hU⟩
  · exact below_blk hg hB.lt hB
  · have := hN b' rfl
    exact hU.blk hB (by omega)
theorem MRow.blk_lt {m : Nat} {e : TypeId} {B : Nat} {w : World} {v : Value} {n : Nat} {xs : List Value} (h : MRow m e B w v n xs) {b : Nat} (hb : blkOf v = some b) : b < w.heap.size := by
  obtain ⟨_, ⟨rfl, _⟩ | ⟨b', S, c, rfl, h1, hA, _⟩⟩ := h
  · simp [blkOf] at hb
  · simp only [blkOf, Option.some.injEq] at hb; subst hb; exact hA.lt
theorem Elems.snoc {B : Nat} {w : World} {v u : Value} {L : List Te} {Y : List Tv} {x : Te} (hY : Y.map (·.1) = L) (hm : MRow 5 59 B w v (Y.length + 1) (elCells Y ++ cellE (x, u))) (hrows : ∀ y ∈ Y, Row .u8 5 B w y.2 y.1.d) (hap : Apart (Y.map (·.2))) (hx : Row .u8 5 B w u x.d) (N : Nat) (hlt : ∀ y ∈ Y, ∀ b, blkOf y.2 = some b → b < N) (hu : ∀ b, blkOf u = some b → N ≤ b) : Elems B w v (L ++ [x]) := by
  refine ⟨Y ++ [(x, u)], by rw [List.map_append, hY]; rfl, ?_, ?_, ?_⟩
  · rw [elCells_snoc, List.length_append]; exact hm
  · intro y hy
    rcases List.mem_append.1 hy with h | h
    · exact hrows y h
    · rw [List.mem_singleton] at h; subst h; exact hx
  · unfold Apart at *
    rw [List.map_append, List.pairwise_append]
    refine ⟨hap, by simp, ?_⟩
    intro s hs r hr b hb hb'
    simp only [List.map_cons, List.map_nil, List.mem_singleton] at hr
    subst hr
    obtain ⟨y, hy, rfl⟩ := List.mem_map.1 hs
    have := hlt y hy b hb
    have := hu b hb'
    omega
def lnOf : Value → Nat
  | .slice _ k _ => k
  | _ => 0
/-- What parse answers. -/
def PrOut (B : Nat) (w : World) (e : Ending) : Tr → Prop
  | .inl (er, a) => e = .returned (.tuple #[.slice none 0 0, erV er a])
  | .inr L => ∃ v, e = .returned (.tuple #[v, .nilIface]) ∧ Elems B w v L
def trOf (n : Nat) : Ps → Tr
  | .inl e => .inl e
  | .inr (p, L) => if p < n then .inl (33, p) else .inr L
theorem parseS_tr {M : List Int} (h : M.length ≤ 16777216) : parseS M = trOf M.length (pr M 0 M.length [] []) := by
  unfold parseS
  rw [if_neg (by omega)]
  cases pr M 0 M.length [] [] with
  | inl e => rfl
  | inr x => rfl
theorem Tryz.infoE : (Tryz.prog.info? 59).map (fun i => (i.zero, i.size, i.bytes)) = some (some (.agg zE.toArray), 5, 56) := by kernel_rfl
theorem Tryz.infoP : (Tryz.prog.info? 103).map (fun i => (i.zero, i.size, i.bytes)) = some (some (.agg zP.toArray), 2, 16) := by kernel_rfl
theorem Tryz.undE : Tryz.prog.underlying 25 = some (.slice 59) := by kernel_rfl
theorem Tryz.undP : Tryz.prog.underlying 99 = some (.slice 103) := by kernel_rfl
end Go.Proofs.YtefebamomdcaaaaGreatDoor
/-
  Ber: heads, lengths, which elements may stand where.
-/
namespace Go.Proofs.YtefebamomdcaaaaGreatDoor
open Go.RowKit
set_option maxRecDepth 20000 in
set_option maxHeartbeats 2000000 in
theorem len_any {w : World} (n c : Nat) (hc : n / 256 ^ c = 0) (hc1 : ∀ j, j < c → 0 < n / 256 ^ j) (hc8 : c ≤ 7) (hn : n < 9223372036854775808) :
    Calls Tryz.prog 94 #[.int .i64 n] w fun e w' => ∃ r, e = .returned r ∧ Row .u8 5 w.heap.size w' r (lenB n c) ∧ Below w.heap.size w w' := by
  have HC : Hid (n / 256 ^ c = 0 ∧ ∀ j, j < c → 0 < n / 256 ^ j) := ⟨hc, hc1⟩
  clear hc hc1
  by_cases h1 : n < 128
  · have HL : Hid (lenB n c = [(n : Int)]) := by show _ = _; unfold lenB; rw [if_pos h1]
    have i1 : (n : Int) < 128 := by omega
    have i2 : IntKind.u8.wrap (n : Int) = (n : Int) := wrapU8 _ (by omega) (by omega)
    go_enter Tryz.func94, Tryz.ntmps94
    go_wp2
    go_ret
    rw [HL.out]
    exact ⟨_, rfl, (Row.arr (S := [_]) (arr_nw rfl rfl) (Nat.le_refl _) (by simp [maxLen])), al1 _⟩
  · have HL : Hid (lenB n c = (128 + (c : Int)) :: tb n c c) := by show _ = _; unfold lenB; rw [if_neg h1]
    have i1 : ¬ (n : Int) < 128 := by omega
    have i2 : IntKind.u8.wrap (c : Int) = (c : Int) := wrapU8 _ (by omega) (by omega)
    have i3 : IntKind.u8.wrap (128 + (c : Int)) = 128 + (c : Int) := wrapU8 _ (by omega) (by omega)
    go_enter Tryz.func94, Tryz.ntmps94
    go_wp2_with fail
    go_loopw [3, 4] (fun cv rv wr => ∃ j q : Nat, cv = .int .i64 j ∧ rv = .int .i64 q ∧ n / 256 ^ j = q ∧ j ≤ c ∧ w = wr) (fun cv _ _ => c - (intOf cv).toNat)
    case atStart => exact ⟨0, n, rfl, rfl, by simp, by omega, rfl⟩
    case round =>
      obtain ⟨j, q, rfl, rfl, hq, hj, rfl⟩ := hrel
      have HQ : Hid (n / 256 ^ j = q) := hq
      clear hq
      by_cases hlt : j < c
      · have hg : (0 : Int) < (q : Int) := by have := HC.out.2 j hlt; rw [HQ.out] at this; omega
        go_wp2
        go_roundw
        case rel => exact ⟨j + 1, q / 256, by go_num, by go_num, by rw [Nat.pow_succ, ← Nat.div_div_eq_div_mul, HQ.out], by omega, trivial⟩
        case measure => simp [intOf]; omega
      · obtain rfl : j = c := by omega
        have hg : ¬ (0 : Int) < (q : Int) := by have := HC.out.1; rw [HQ.out] at this; omega
        go_wp2
        go_loopw [5, 24] (fun bv iv wr => ∃ (i : Nat) (b0 : Value), b0 = bv ∧ iv = .int .i64 i ∧ i ≤ j ∧ Row .u8 5 w.heap.size wr b0 ((128 + (j : Int)) :: tb n j i) ∧ Below w.heap.size w wr) (fun _ iv _ => j - (intOf iv).toNat)
        case atStart => exact ⟨0, _, rfl, rfl, by omega, (Row.arr (S := [_]) (arr_nw rfl rfl) (Nat.le_refl _) (by simp [maxLen])), al1 _⟩
        case round =>
          obtain ⟨i, b0, rfl, rfl, hi, hr, hb⟩ := hrel
          have H1 : Hid (Row .u8 5 w.heap.size wr b0 ((128 + (j : Int)) :: tb n j i) ∧ Below w.heap.size w wr) := ⟨hr, hb⟩
          clear hr hb hg
          by_cases hlt : i < j
          · have l1 : (i : Int) < (j : Int) := by omega
            obtain ⟨c1, hc1⟩ : ∃ c1, j = c1 + 1 := ⟨j - 1, by omega⟩
            obtain ⟨d, hd1⟩ : ∃ d, c1 = d + i := ⟨c1 - i, by omega⟩
            have e1 : (j : Int) - 1 = (c1 : Int) := by omega
            have e2 : (c1 : Int) - (i : Int) = (d : Int) := by omega
            have e3 : (d : Int) ≤ 7 := by omega
            have e4 : (c1 : Int) ≤ 7 := by omega
            have HJ : Hid (j = d + i + 1) := by show _ = _; omega
            clear hc1 hd1
            have hd := div_by8 n d (8 * d) rfl
            obtain ⟨q', hq'⟩ : ∃ q, n / 256 ^ d = q := ⟨_, rfl⟩
            rw [hq'] at hd
            obtain ⟨y, hy⟩ : ∃ y : Int, (q' : Int) % 256 = y := ⟨_, rfl⟩
            have hy2 : IntKind.u8.wrap (q' : Int) = y := by rw [IntKind.wrap_u8]; exact hy
            have HY : Hid (by8 n d = y) := by
              show _ = _
              unfold by8
              rw [hq']
              omega
            clear hq'
            go_wp2_with (at_builtin; refine wpList_ap rfl (.tmp 27) (.tmp 36) 22 22 rfl .u8 5 1 Tryz.und8 Tryz.info8 (by decide) w.heap.size _ ((128 + (j : Int)) :: tb n j i) rfl (H1.out.1.alloc _) _ [y] rfl (src_sl Tryz.und8 (new1 y)) (by have := tb_len n j i; simp; omega) (by have := H1.out.2.size; simp; omega) ?_; intro v1 w1 hr hg)
            have hb1 : Below w.heap.size w w1 := (H1.out.2.trans ((al1 _).mono H1.out.2.size)).trans (hg.below (H1.out.1.alloc _) (by have := H1.out.2.size; simp; omega))
            have hr' : Row .u8 5 w.heap.size w1 v1 ((128 + (j : Int)) :: tb n j (i + 1)) := by
              have e : tb n j (i + 1) = tb n j i ++ [by8 n (j - 1 - i)] := rfl
              rw [e, show j - 1 - i = d by have := HJ.out; omega, HY.out]
              exact hr
            have H2 : Hid (Row .u8 5 w.heap.size w1 v1 ((128 + (j : Int)) :: tb n j (i + 1)) ∧ Below w.heap.size w w1) := ⟨hr', hb1⟩
            clear hr hg hb1 hr'
            go_roundw
            case rel => exact ⟨i + 1, _, rfl, by go_num, by omega, H2.out.1, H2.out.2⟩
            case measure => simp [intOf]; omega
          · obtain rfl : i = j := by omega
            have l1 : ¬ (i : Int) < (i : Int) := by omega
            go_wp2
            go_ret
            rw [HL.out]
            exact ⟨_, rfl, H1.out.1, H1.out.2⟩
theorem retB {a b : Bool} (h : a = b) : Ending.returned (.bool a) = .returned (.bool b) := by rw [h]
abbrev elV (x : Te) (s : Value) : Value := .agg #[.int .i64 x.dp, .int .i64 x.cl, .int .i64 x.tg, .bool x.co, s]
set_option maxHeartbeats 1000000 in
theorem mayStand_any {w : World} (x : Te) (a : Option Addr) (c : Nat) (hl : x.d.length ≤ 9223372036854775807) :
    Calls Tryz.prog 91 #[elV x (.slice a x.d.length c)] w fun e w' => e = .returned (.bool (standB x)) ∧ Below w.heap.size w w' := by
  obtain ⟨r, hr⟩ : ∃ r, standB x = r := ⟨_, rfl⟩
  have HR : Hid (standB x = r) := hr
  rw [hr]
  obtain ⟨dp, cl, tg, co, d⟩ := x
  obtain ⟨n, hn⟩ : ∃ n, d.length = n := ⟨_, rfl⟩
  have HN : Hid (d.length = n) := hn
  simp only [hn] at hl ⊢
  have hlI : (n : Int) ≤ 9223372036854775807 := by omega
  clear hr hn
  have go : ∀ b : Bool, (standB ⟨dp, cl, tg, co, d⟩ = true ↔ b = true) → b = r := fun b h => by rw [HR.out] at h; cases b <;> cases r <;> simp_all
  have HGo : Hid (∀ b : Bool, (standB ⟨dp, cl, tg, co, d⟩ = true ↔ b = true) → b = r) := go
  clear go
  unfold standB at HGo
  by_cases h1 : cl < 0
  · go_enter Tryz.func91, Tryz.ntmps91
    go_wp2
    go_ret
    exact ⟨retB (HGo.out false (by simp; omega)), al1 _⟩
  by_cases h2 : 3 < cl
  · go_enter Tryz.func91, Tryz.ntmps91
    go_wp2
    go_ret
    exact ⟨retB (HGo.out false (by simp; omega)), al1 _⟩
  by_cases h3 : tg < 0
  · go_enter Tryz.func91, Tryz.ntmps91
    go_wp2
    go_ret
    exact ⟨retB (HGo.out false (by simp; omega)), al1 _⟩
  by_cases h4 : 268435455 < tg
  · go_enter Tryz.func91, Tryz.ntmps91
    go_wp2
    go_ret
    exact ⟨retB (HGo.out false (by simp; omega)), al1 _⟩
  by_cases h5 : cl = 0 ∧ tg = 0
  · obtain ⟨rfl, rfl⟩ := h5
    go_enter Tryz.func91, Tryz.ntmps91
    go_wp2
    go_ret
    exact ⟨retB (HGo.out false (by simp)), al1 _⟩
  cases co with
  | false =>
    have HT : Hid (true = r) := HGo.out true (by simp; omega)
    by_cases h6 : cl = 0
    · subst h6
      have h7 : (tg == 0) = false := by simp; omega
      go_enter Tryz.func91, Tryz.ntmps91
      go_wp2
      go_ret
      exact ⟨retB (HT.out), al1 _⟩
    · have h7 : (cl == 0) = false := by simpa using h6
      go_enter Tryz.func91, Tryz.ntmps91
      go_wp2
      go_ret
      exact ⟨retB (HT.out), al1 _⟩
  | true =>
    have HT : Hid (decide (n = 0) = r) := HGo.out _ (by
      have := HN.out
      simp only [decide_eq_true_eq, true_implies]
      constructor
      · rintro ⟨_, _, _, _, _, h⟩; subst h; simpa using this.symm
      · intro h; subst h; exact ⟨by omega, by omega, by omega, by omega, h5, List.eq_nil_of_length_eq_zero this⟩)
    by_cases h6 : cl = 0
    · subst h6
      have h7 : (tg == 0) = false := by simp; omega
      by_cases h8 : n = 0
      · subst h8
        go_enter Tryz.func91, Tryz.ntmps91
        go_wp2
        go_ret
        exact ⟨retB (HT.out), al1 _⟩
      · have h9 : ((n : Int) == 0) = false := by simpa using h8
        go_enter Tryz.func91, Tryz.ntmps91
        go_wp2
        go_ret
        exact ⟨retB ((by simpa [h8] using HT.out)), al1 _⟩
    · have h7 : (cl == 0) = false := by simpa using h6
      by_cases h8 : n = 0
      · subst h8
        go_enter Tryz.func91, Tryz.ntmps91
        go_wp2
        go_ret
        exact ⟨retB (HT.out), al1 _⟩
      · have h9 : ((n : Int) == 0) = false := by simpa using h8
        go_enter Tryz.func91, Tryz.ntmps91
        go_wp2
        go_ret
        exact ⟨retB ((by simpa [h8] using HT.out)), al1 _⟩
set_option maxHeartbeats 1000000 in
theorem mayFollow_any {w : World} (y x : Te) (s t : Value) (hy : y.dp < 9223372036854775807) (hy0 : -9223372036854775808 ≤ y.dp) :
    Calls Tryz.prog 92 #[elV y s, elV x t] w fun e w' => e = .returned (.bool (folB y x)) ∧ Below w.heap.size w w' := by
  obtain ⟨r, hr⟩ : ∃ r, folB y x = r := ⟨_, rfl⟩
  have go : ∀ b : Bool, (folB y x = true ↔ b = true) → b = r := fun b h => by rw [hr] at h; cases b <;> cases r <;> simp_all
  rw [hr]
  clear hr
  obtain ⟨dp, cl, tg, co, d⟩ := x
  obtain ⟨dq, cl', tg', cq, d'⟩ := y
  have HGo : Hid (∀ b : Bool, (folB ⟨dq, cl', tg', cq, d'⟩ ⟨dp, cl, tg, co, d⟩ = true ↔ b = true) → b = r) := go
  clear go
  unfold folB at HGo
  simp only [] at hy hy0
  by_cases h1 : dp < 1
  · go_enter Tryz.func92, Tryz.ntmps92
    go_wp2
    go_ret
    exact ⟨retB (HGo.out false (by simp; omega)), al2' (al1 _)⟩
  by_cases h2 : 64 ≤ dp
  · go_enter Tryz.func92, Tryz.ntmps92
    go_wp2
    go_ret
    exact ⟨retB (HGo.out false (by simp; omega)), al2' (al1 _)⟩
  by_cases h3 : dp ≤ dq
  · go_enter Tryz.func92, Tryz.ntmps92
    go_wp2
    go_ret
    exact ⟨retB (HGo.out true (by simp; omega)), al2' (al1 _)⟩
  cases cq with
  | false =>
    go_enter Tryz.func92, Tryz.ntmps92
    go_wp2
    go_ret
    exact ⟨retB (HGo.out false (by simp; omega)), al2' (al1 _)⟩
  | true =>
    by_cases h4 : dp = dq + 1
    · have h5 : (dp == dq + 1) = true := by simpa using h4
      have HT : Hid (true = r) := HGo.out true (by simp; omega)
      clear h4
      go_enter Tryz.func92, Tryz.ntmps92
      go_wp2
      go_ret
      exact ⟨retB (HT.out), al2' (al1 _)⟩
    · have h5 : (dp == dq + 1) = false := by simpa using h4
      have HT : Hid (false = r) := HGo.out false (by simp; omega)
      clear h4
      go_enter Tryz.func92, Tryz.ntmps92
      go_wp2
      go_ret
      exact ⟨retB (HT.out), al2' (al1 _)⟩
end Go.Proofs.YtefebamomdcaaaaGreatDoor
/-
  Ber: any element's head.
-/
namespace Go.Proofs.YtefebamomdcaaaaGreatDoor
open Go.RowKit
/-- Behind i of the three rounds. -/
theorem tp_round (t k i : Nat) (hk : k ≤ 3) (hi : i < 3) (h : 3 - i ≤ k) : tp t k (i + 1 + k - 3) = tp t k (i + k - 3) ++ [gr t (3 - i)] := by
  rw [show i + 1 + k - 3 = (i + k - 3) + 1 by omega]
  show tp t k (i + k - 3) ++ [gr t (k - (i + k - 3))] = _
  rw [show k - (i + k - 3) = 3 - i by omega]
theorem tp_skip (t k i : Nat) (h : ¬ 3 - i ≤ k) : tp t k (i + 1 + k - 3) = tp t k (i + k - 3) := by
  rw [show i + 1 + k - 3 = 0 by omega, show i + k - 3 = 0 by omega]
theorem kOf_pos (t j : Nat) (ht : t ≤ 268435455) (h : j ≤ kOf t) (h1 : 1 ≤ j) : 0 < t / 128 ^ j := by
  have h2 := (kOf_ok t ht).2.1 (j - 1) (by omega)
  have h3 := gr_step t (j - 1)
  rw [show j - 1 + 1 = j by omega] at h3
  omega
theorem kOf_zero (t j : Nat) (ht : t ≤ 268435455) (h : ¬ j ≤ kOf t) : t / 128 ^ j = 0 := by
  have h2 := (kOf_ok t ht).1
  have h3 : t / 128 ^ j ≤ t / 128 ^ (kOf t + 1) := Nat.div_le_div_left (Nat.pow_le_pow_right (by decide) (by omega)) (Nat.pow_pos (by decide))
  have h4 : t / 128 ^ (kOf t + 1) = t / 128 ^ kOf t / 128 := by rw [Nat.pow_succ, ← Nat.div_div_eq_div_mul]
  rw [h4, Nat.div_eq_of_lt h2] at h3
  exact Nat.le_zero.1 h3
theorem and_127i (z : Int) (h0 : 0 ≤ z) (h1 : z < 9223372036854775808) : bits .and .i64 z 127 = z % 128 := by
  obtain ⟨a, rfl⟩ := Int.eq_ofNat_of_zero_le h0
  have h := (bits_nat .i64 63 (by decide) (fun n h₀ h₁ => by rw [IntKind.wrap_i64]; omega) a 127 (by omega) (by decide)).1
  rw [show (127 : Nat) = 2 ^ 7 - 1 from rfl, Nat.and_two_pow_sub_one_eq_mod] at h
  exact h
set_option maxRecDepth 20000 in
set_option maxHeartbeats 4000000 in
theorem hd_any {w : World} (x : Te) (s : Value) (h0 : 0 ≤ x.cl) (h3 : x.cl ≤ 3) (ht0 : 0 ≤ x.tg) (ht : x.tg ≤ 268435455) :
    Calls Tryz.prog 93 #[elV x s] w fun e w' => ∃ r, e = .returned r ∧ Row .u8 5 w.heap.size w' r (headB x.cl x.co x.tg.toNat (kOf x.tg.toNat)) ∧ Below w.heap.size w w' := by
  obtain ⟨dp, c, tg, cons, d⟩ := x
  simp only [] at h0 h3 ht0 ht ⊢
  obtain ⟨t, htt⟩ : ∃ t, tg.toNat = t := ⟨_, rfl⟩
  obtain rfl : tg = (t : Int) := by omega
  rw [htt]
  clear htt ht0
  have htn : t ≤ 268435455 := by omega
  obtain ⟨k, hk⟩ : ∃ k, kOf t = k := ⟨_, rfl⟩
  have HK : Hid (kOf t = k) := hk
  have hk3 : k ≤ 3 := by rw [← hk]; exact (kOf_ok t htn).2.2
  rw [hk]
  clear hk
  obtain ⟨a, ha, hf⟩ : ∃ a : Nat, a < 8 ∧ frst c cons = 32 * (a : Int) := by
    unfold frst
    cases cons
    · exact ⟨(2 * c).toNat, by omega, by simp; omega⟩
    · exact ⟨(2 * c + 1).toNat, by omega, by simp; omega⟩
  have o0 := or_c0
  have o1 := or_c1
  have o2 := or_c2
  have o3 := or_c3
  have hc : c = 0 ∨ c = 1 ∨ c = 2 ∨ c = 3 := by omega
  by_cases hlt : t < 31
  · have HB : Hid (headB c cons t k = [32 * (a : Int) + t]) := by show _ = _; unfold headB; rw [if_pos hlt, hf]
    have ho := or_low a t ha (by omega)
    have w1 : IntKind.u8.wrap (t : Int) = (t : Int) := wrapU8 _ (by omega) (by omega)
    have l1 : (t : Int) < 31 := by omega
    rcases hc with rfl | rfl | rfl | rfl <;> cases cons
    all_goals
      have hf' := hf
      unfold frst at hf'
      simp at hf'
      obtain ⟨y, hy⟩ : ∃ y : Int, 32 * (a : Int) + t = y := ⟨_, rfl⟩
      rw [hy] at HB ho
      rw [← hf'] at ho
      clear hf hf' ha hy
      go_enter Tryz.func93, Tryz.ntmps93
      go_wp2
      go_ret
      rw [HB.out]
      exact ⟨_, rfl, (Row.arr (S := [_]) (arr_nw (by simp) rfl) (by simp) (by simp [maxLen])), al2' (al1 _)⟩
  · have HB : Hid (headB c cons t k = (32 * (a : Int) + 31) :: sev k t) := by show _ = _; unfold headB; rw [if_neg hlt, hf]
    have ho := or_31 a ha
    have l1 : ¬ (t : Int) < 31 := by omega
    have a127 := and_127i (t : Int) (by omega) (by omega)
    have w127 : IntKind.u8.wrap ((t : Int) % 128) = (t : Int) % 128 := wrapU8 _ (by omega) (by omega)
    rcases hc with rfl | rfl | rfl | rfl <;> cases cons
    all_goals
      have hf' := hf
      unfold frst at hf'
      simp at hf'
      obtain ⟨y, hy⟩ : ∃ y : Int, 32 * (a : Int) + 31 = y := ⟨_, rfl⟩
      rw [hy] at HB ho
      rw [← hf'] at ho
      clear hf hf' ha hy
      go_enter Tryz.func93, Tryz.ntmps93
      go_wp2_with fail
      go_loopw [4, 5] (fun hv sv wr => ∃ (i s' : Nat) (b0 : Value), b0 = hv ∧ sv = .int .i64 s' ∧ s' + 7 * i = 21 ∧ Row .u8 5 (w.heap.size + 1) wr b0 (y :: tp t k (i + k - 3)) ∧ Below (w.heap.size + 1) (w.alloc (.cells #[.int .i64 dp, .int .i64 _, .int .i64 (t : Int), .bool _, s] 59)) wr) (fun _ sv _ => (intOf sv).toNat)
      case atStart => exact ⟨0, 21, _, rfl, rfl, rfl, by rw [show 0 + k - 3 = 0 by omega]; exact Row.arr (S := [_]) (arr_nw (by simp) rfl) (by simp) (by simp [maxLen]), (Below.refl _ _).alloc (by simp) _⟩
      case round =>
        obtain ⟨i, s', b0, rfl, rfl, hs', hr, hb⟩ := hrel
        have H1 : Hid (Row .u8 5 (w.heap.size + 1) wr b0 (y :: tp t k (i + k - 3)) ∧ Below (w.heap.size + 1) (w.alloc (.cells #[.int .i64 dp, .int .i64 _, .int .i64 (t : Int), .bool _, s] 59)) wr ∧ s' + 7 * i = 21) := ⟨hr, hb, hs'⟩
        have c2 : wr.cell? ⟨w.heap.size, 2, none⟩ = some (.int .i64 (t : Int)) := (hb.cell (p := ⟨w.heap.size, 2, none⟩) (by simp)).trans (by simp)
        have hsz : w.heap.size + 1 ≤ wr.heap.size := by have := hb.size; simpa using this
        by_cases hs0 : 0 < s'
        · have h0I : (0 : Int) < (s' : Int) := by omega
          have hi3 : i < 3 := by omega
          have hsj : s' = 7 * (3 - i) := by omega
          obtain ⟨q, hq⟩ : ∃ q, t / 128 ^ (3 - i) = q := ⟨_, rfl⟩
          have hd := div_sev t (3 - i) s' hsj
          rw [hq] at hd
          have s0 : (s' : Int) ≤ 21 := by omega
          have h7 : 7 ≤ s' := by omega
          have hqt : q ≤ 268435455 := by rw [← hq]; exact Nat.le_trans (Nat.div_le_self _ _) htn
          by_cases hj : 3 - i ≤ k
          · have hq0 : (0 : Int) < (q : Int) := by have := kOf_pos t (3 - i) htn (by rw [HK.out]; exact hj) (by omega); omega
            obtain ⟨z, hz⟩ : ∃ z : Int, IntKind.u8.wrap (q : Int) = z := ⟨_, rfl⟩
            have ho2 : bits .or .u8 z 128 = gr t (3 - i) := by
              rw [IntKind.wrap_u8] at hz
              rw [or_128 z ⟨by omega, by omega⟩]
              unfold gr
              rw [hq]
              omega
            obtain ⟨u, hu⟩ : ∃ u : Int, gr t (3 - i) = u := ⟨_, rfl⟩
            have HU : Hid (gr t (3 - i) = u) := hu
            rw [hu] at ho2
            have HL : Hid ((tp t k (i + k - 3)).length ≤ 3) := by show _ ≤ _; rw [tp_len]; omega
            clear hq hu hr hb hs' hsj
            go_wp2_with (at_builtin; refine wpList_ap rfl (.tmp 35) (.tmp 42) 22 22 rfl .u8 5 1 Tryz.und8 Tryz.info8 (by decide) (w.heap.size + 1) _ (y :: tp t k (i + k - 3)) rfl (H1.out.1.alloc _) _ [u] rfl (src_sl Tryz.und8 (new1 u)) (by have := HL.out; simp; omega) (by simp; omega) ?_; intro v1 w1 hr hg)
            have hb1 : Below (w.heap.size + 1) (w.alloc (.cells #[.int .i64 dp, .int .i64 _, .int .i64 (t : Int), .bool _, s] 59)) w1 := (H1.out.2.1.trans ((al1 _).mono hsz)).trans (hg.below (H1.out.1.alloc _) (by simp; omega))
            have hr' : Row .u8 5 (w.heap.size + 1) w1 v1 (y :: tp t k (i + 1 + k - 3)) := by
              rw [tp_round t k i hk3 hi3 hj, HU.out]; exact hr
            have H2 : Hid (Row .u8 5 (w.heap.size + 1) w1 v1 (y :: tp t k (i + 1 + k - 3)) ∧ Below (w.heap.size + 1) (w.alloc (.cells #[.int .i64 dp, .int .i64 _, .int .i64 (t : Int), .bool _, s] 59)) w1) := ⟨hr', hb1⟩
            clear hr hg hb1 hr'
            go_wp2
            go_roundw
            case rel => exact ⟨i + 1, s' - 7, _, rfl, by go_num, by have := H1.out.2.2; omega, H2.out.1, H2.out.2⟩
            case measure => have := H1.out.2.2; simp [intOf]; omega
          · have hq0 : ¬ (0 : Int) < (q : Int) := by have := kOf_zero t (3 - i) htn (by rw [HK.out]; exact hj); omega
            clear hq hr hb hs' hsj
            go_wp2
            go_roundw
            case rel => exact ⟨i + 1, s' - 7, _, rfl, by go_num, by have := H1.out.2.2; omega, by rw [tp_skip t k i hj]; exact H1.out.1, H1.out.2.1⟩
            case measure => have := H1.out.2.2; simp [intOf]; omega
        · have h0I : ¬ (0 : Int) < (s' : Int) := by omega
          obtain rfl : i = 3 := by omega
          obtain ⟨z, hz⟩ : ∃ z : Int, (t : Int) % 128 = z := ⟨_, rfl⟩
          have HZ : Hid ((t : Int) % 128 = z) := hz
          rw [hz] at a127 w127
          have HL : Hid ((tp t k k).length ≤ 3) := by show _ ≤ _; rw [tp_len]; omega
          rw [show 3 + k - 3 = k by omega] at hr
          have H3 : Hid (Row .u8 5 (w.heap.size + 1) wr b0 (y :: tp t k k)) := hr
          clear hr hb hs' hz
          go_wp2_with (at_builtin; refine wpList_ap rfl (.tmp 44) (.tmp 49) 22 22 rfl .u8 5 1 Tryz.und8 Tryz.info8 (by decide) (w.heap.size + 1) _ (y :: tp t k k) rfl (H3.out.alloc _) _ [z] rfl (src_sl Tryz.und8 (new1 z)) (by have := HL.out; simp; omega) (by simp; omega) ?_; intro v1 w1 hr hg)
          have hb1 : Below (w.heap.size + 1) (w.alloc (.cells #[.int .i64 dp, .int .i64 _, .int .i64 (t : Int), .bool _, s] 59)) w1 := (H1.out.2.1.trans ((al1 _).mono hsz)).trans (hg.below (H3.out.alloc _) (by simp; omega))
          go_ret
          refine ⟨_, rfl, ?_, (al1 _).trans (hb1.mono (by omega))⟩
          rw [HB.out]
          unfold sev
          have e : ((t % 128 : Nat) : Int) = z := by have := HZ.out; omega
          rw [e]
          exact hr.mono (Nat.le_succ _)
end Go.Proofs.YtefebamomdcaaaaGreatDoor
/-
  make of rows of structs.
-/
namespace Go.Proofs.YtefebamomdcaaaaGreatDoor
open Go.RowKit
theorem range_map_rep (zs : List Value) (n : Nat) : (List.range (n * zs.length)).map (fun j => zs.toArray[j % zs.toArray.size]!) = (List.replicate n zs).flatten := by
  induction n with
  | zero => simp
  | succ n ih =>
    rw [Nat.add_mul, Nat.one_mul, List.range_add, List.map_append, ih, List.replicate_succ', List.flatten_append]
    congr 1
    rw [List.map_map]
    refine List.ext_getElem (by simp) fun k h1 h2 => ?_
    have hk : k < zs.length := by simpa using h1
    simp only [List.getElem_map, List.getElem_range, Function.comp, List.size_toArray]
    rw [Nat.mul_comm n, Nat.mul_add_mod, Nat.mod_eq_of_lt hk]
    simp [hk]
theorem madeCells_rep (zs : List Value) (n : Nat) : (madeCells zs.toArray (n * zs.length)).toList = (List.replicate n zs).flatten := by
  rw [← range_map_rep]
  simp [madeCells]
/-- 'make([]T, l, c)' of structs: c noughts in a block of their own. -/
theorem wpList_mkM {P : Program} (w : World) {ops : Array Oper} {rest : List Oper} {o : Oper} {a : Act} {Q : Exit → Act → World → Prop} (hg : o.guard = none) (l c : Operand) (t : TypeId) (hop : o.op = .makeSlice t l c)
    (zs : List Value) (e : TypeId) (bytes : Nat) (ht : P.underlying t = some (.slice e)) (hi : (P.info? e).map (fun i => (i.zero, i.size, i.bytes)) = some (some (.agg zs.toArray), zs.length, bytes))
    (n m : Nat) (hl : a.eval l = .int .i64 n) (hc : a.eval c = .int .i64 m) (hnm : n ≤ m) (hb : bytes * m ≤ 281474976710656) (hm : m ≤ 1152921504606846976)
    (hK : ∀ w', Blk e w' w.heap.size (List.replicate m zs).flatten → Below w.heap.size w w' → w'.heap.size = w.heap.size + 1 → wpList P ops Q rest (a.put o.dst (.slice (some ⟨w.heap.size, 0, none⟩) n m)) w') :
    wpList P ops Q (o :: rest) a w := by
  obtain ⟨i0, hi0, hz0, hz1, hz2⟩ := info_parts hi
  refine wpList_plain hg fun K hK' => ?_
  have hb' : (i0.bytes : Int) * (m : Int) ≤ 281474976710656 := by
    have h : ((i0.bytes * m : Nat) : Int) ≤ 281474976710656 := by rw [hz2]; omega
    rwa [Int.natCast_mul] at h
  have hr := run_make (P := P) w t e i0 (.agg zs.toArray) ht hi0 hz0 .i64 .i64 n m (by omega) (by omega) hb' (by omega)
  simp only [Int.toNat_natCast, hz1] at hr
  have hA : Blk e (w.alloc (.cells (madeCells (Value.agg zs.toArray).cells (m * zs.length)) e)) w.heap.size (List.replicate m zs).flatten := blk_nw rfl (toArray_of_toList (madeCells_rep zs m))
  unfold Oper.wp
  simp [execOp, hop, hl, hc, hr, Result.andThen]
  exact hK' _ _ (hK _ hA (al1 _) (by simp))
end Go.Proofs.YtefebamomdcaaaaGreatDoor
/-
  Ber: kinds of tags, forms, what is wrong with an element: over lists; no Go text in sight.
-/
namespace Go.Proofs.YtefebamomdcaaaaGreatDoor
open Go.RowKit
def kdB (t : Int) : Int := if t = 1 ∨ t = 2 ∨ t = 5 ∨ t = 6 ∨ t = 10 then 1 else if t = 16 ∨ t = 17 then 2 else if t = 3 ∨ t = 4 ∨ t = 12 ∨ t = 18 ∨ t = 19 ∨ t = 22 ∨ t = 23 ∨ t = 24 ∨ t = 26 ∨ t = 30 then 3 else 0
def isB (x : Te) (t : Int) : Bool := decide (x.cl = 0 ∧ x.tg = t)
/-- A string in segments. -/
def cstr (x : Te) : Bool := decide (x.cl = 0 ∧ kdB x.tg = 3 ∧ x.co = true)
def sgT (t : Int) : Int := if t = 3 then 3 else 4
def intF (d : List Int) : Bool := decide (d.length = 1 ∨ (2 ≤ d.length ∧ ¬ (d.getD 0 0 = 0 ∧ d.getD 1 0 < 128) ∧ ¬ (d.getD 0 0 = 255 ∧ 128 ≤ d.getD 1 0)))
def oidG : Bool → List Int → Bool
  | bt, [] => bt
  | bt, c :: r => if bt = true ∧ c = 128 then false else oidG (decide (c < 128)) r
def oidF (d : List Int) : Bool := decide (0 < d.length) && oidG true d
def bitF (d : List Int) : Bool := decide ((d.length = 1 ∧ d.getD 0 0 = 0) ∨ (2 ≤ d.length ∧ d.getD 0 0 ≤ 7))
def formB (t : Int) (d : List Int) : Bool := if t = 1 then decide (d.length = 1) else if t = 2 ∨ t = 10 then intF d else if t = 5 then decide (d.length = 0) else if t = 6 then oidF d else if t = 3 then bitF d else true
def spareB (x : Te) : Bool := decide (x.tg = 3 ∧ x.d.getD 0 0 ≠ 0)
/-- What is wrong with an element in its seat: the tag of the string about it (0: none), whether more segments follow. -/
def flB (x : Te) (st : Int) (mo : Bool) : Int :=
  if st ≠ 0 ∧ isB x (sgT st) = false then 30 else if x.cl ≠ 0 then 0 else if kdB x.tg = 0 then 30
  else if (kdB x.tg = 2 ∧ x.co = false) ∨ (kdB x.tg = 1 ∧ x.co = true) then 34 else if x.co = true then 0
  else if formB x.tg x.d = false ∨ (mo = true ∧ spareB x = true) then 6 else 0
end Go.Proofs.YtefebamomdcaaaaGreatDoor
/-
  Ber: data as they must be, strings of segments: over lists; no Go text in sight.
-/
namespace Go.Proofs.YtefebamomdcaaaaGreatDoor
open Go.RowKit
/-- Without the last s bits. -/
def clr (x s : Int) : Int := x / 2 ^ s.toNat * 2 ^ s.toNat
/-- Data as they must be. -/
def setD (x : Te) : List Int :=
  if isB x 1 = true then (if x.d.getD 0 0 ≠ 0 then x.d.set 0 255 else x.d)
  else if isB x 3 = true then (if x.d.getD 0 0 ≠ 0 then x.d.set (x.d.length - 1) (clr (x.d.getD (x.d.length - 1) 0) (x.d.getD 0 0)) else x.d)
  else x.d
/-- The bits of segments, one behind the other. -/
def jbits : List Int → List Te → List Int
  | A, [] => A
  | A, x :: r => if x.co = true then jbits A r else jbits (A.set 0 (x.d.getD 0 0) ++ x.d.drop 1) r
def joinB (t : Int) (S : List Te) : List Int := if t = 3 then jbits [0] S else S.flatMap (·.d)
/-- The tree with whole strings, data as they must be; f: enough of it. -/
def setF : Nat → List Te → List Te
  | 0, _ => []
  | _ + 1, [] => []
  | f + 1, x :: r =>
    if cstr x = true then ⟨x.dp, x.cl, x.tg, false, setD ⟨x.dp, x.cl, x.tg, false, joinB x.tg (r.takeWhile fun y => decide (x.dp < y.dp))⟩⟩ :: setF f (r.dropWhile fun y => decide (x.dp < y.dp))
    else ⟨x.dp, x.cl, x.tg, x.co, setD x⟩ :: setF f r
def setL (L : List Te) : List Te := setF L.length L
theorem clr_and (x s : Int) (hx : U8 x) (h0 : 0 ≤ s) (h7 : s ≤ 7) : bits .and .u8 x ((255 * 2 ^ s.toNat) % 256) = clr x s := by
  obtain ⟨a, rfl⟩ := Int.eq_ofNat_of_zero_le h0
  obtain ⟨k, rfl⟩ := Int.eq_ofNat_of_zero_le hx.1
  have : ∀ (y : Fin 256) (t : Fin 8), bits .and .u8 ((y : Nat) : Int) ((255 * 2 ^ (t : Nat)) % 256) = ((y : Nat) : Int) / 2 ^ (t : Nat) * 2 ^ (t : Nat) := by decide +kernel
  exact this ⟨k, by have := hx.2; omega⟩ ⟨a, by omega⟩
end Go.Proofs.YtefebamomdcaaaaGreatDoor
