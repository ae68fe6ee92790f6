/-
  Der: the page's examples of numbers.
-/
import Derived.LoopN
import Derived.BigQuiet
import Derived.Deep.QuietTactic
import Derived.Deep.CutRange
import Derived.Laws.MathBits
import Derived.Test.YtedoghjefdkmaaaGreatK14
namespace Go.Proofs.YtedoghjefdkmaaaGreat
open Go.RowKit
theorem isInt_live {w : World} (b : Nat) (c0 : w.cell? ⟨b, 0, none⟩ = some (.int .u8 255)) (c1 : w.cell? ⟨b, 1, none⟩ = some (.int .u8 127)) :
    Calls Tryz.prog 146 #[.slice (some ⟨b, 0, none⟩) 2 2] w fun e w' => e = .returned (.bool true) ∧ w = w' := by
  go_enter Tryz.func146, Tryz.ntmps146
  go_wp2
  go_ret
  exact ⟨rfl, rfl⟩
theorem isInt_one {w : World} (b : Nat) : Calls Tryz.prog 146 #[.slice (some ⟨b, 0, none⟩) 1 1] w fun e w' => e = .returned (.bool true) ∧ w = w' := by
  go_enter Tryz.func146, Tryz.ntmps146
  go_wp2
  go_ret
  exact ⟨rfl, rfl⟩
theorem int_val : bits BinOp.or IntKind.i64 (wrap64 (wrap64 (IntKind.i8.wrap 255) * 256)) 127 = -129 := by decide +kernel
theorem Uint_live {w : World} (b : Nat) (hA : Arr .u8 5 w b [128]) :
    Calls Tryz.prog 122 #[.slice (some ⟨b, 0, none⟩) 1 1] w fun e w' => e = .returned (.tuple #[.slice none 0 0, .int .i64 40]) ∧ w = w' := by
  have c0 : w.cell? ⟨b, 0, none⟩ = some (.int .u8 128) := hA.cell 0 (by simp)
  clear hA
  go_enter Tryz.func122, Tryz.ntmps122
  go_wp2_with (go_at_call 146; refine (isInt_one b).mono ?_; rintro e w' ⟨rfl, rfl⟩)
  go_ret2
  exact ⟨rfl, rfl⟩
end Go.Proofs.YtedoghjefdkmaaaGreat
/-
  Der: the reader's next byte.
-/
namespace Go.Proofs.YtedoghjefdkmaaaGreat
open Go.RowKit
/-- A reader lies at block g: it reads n bytes of block b from off on, and stands at p. -/
def Rdr (w : World) (g b off n c p : Nat) : Prop := Blk 153 w g [.slice (some ⟨b, off, none⟩) n c, .int .i64 p]
set_option maxHeartbeats 1000000 in
theorem next_any {w : World} (g b off n c p : Nat) (x : Int) (hR : Rdr w g b off n c p) (hp : p < n) (hn : n ≤ 16777216) (hx : w.cell? ⟨b, off + p, none⟩ = some (.int .u8 x)) :
    Calls Tryz.prog 159 #[.pointer (some ⟨g, 0, none⟩)] w fun e w' => e = .returned (.tuple #[.int .u8 x, .int .i64 0]) ∧ Upd w w' g ∧ Rdr w' g b off n c (p + 1) := by
  have c0 : w.cell? ⟨g, 0, none⟩ = some (.slice (some ⟨b, off, none⟩) n c) := hR.cell 0
  have c1 : w.cell? ⟨g, 1, none⟩ = some (.int .i64 p) := hR.cell 1
  have f1 := hR.frozen 1
  have HR : Hid (Rdr w g b off n c p) := hR
  have hpI : (p : Int) < (n : Int) := by omega
  have hne : ¬ (p : Int) = (n : Int) := by omega
  clear hR
  go_enter Tryz.func159, Tryz.ntmps159
  go_upto_region 1 with (fail)
  go_quiet (fail)
  go_upto_region 3 with (fail)
  refine wp_gen (fun W => W = w.drewN nq) rfl ?_
  intro w1 hw1
  have HW1 : Hid (w1 = w.drewN nq) := hw1
  replace c0 : w1.cell? ⟨g, 0, none⟩ = some (.slice (some ⟨b, off, none⟩) n c) := by rw [hw1]; exact c0
  replace c1 : w1.cell? ⟨g, 1, none⟩ = some (.int .i64 p) := by rw [hw1]; exact c1
  replace f1 : w1.frozen? ⟨g, 1, none⟩ = false := by rw [hw1]; exact f1
  replace hx : w1.cell? ⟨b, off + p, none⟩ = some (.int .u8 x) := by rw [hw1]; exact hx
  clear hw1
  go_quiet (fail)
  go_wp2
  go_ret2
  refine ⟨rfl, ?_, ?_⟩
  · have h1 : Upd w (w1.drewN nq) g := by rw [HW1.out]; exact ⟨rfl, rfl, rfl, Nat.le_refl _, fun _ _ _ => rfl⟩
    exact h1.trans (Upd.set _ _ _ _)
  · have h1 : Blk 153 (w1.drewN nq) g [.slice (some ⟨b, off, none⟩) n c, .int .i64 p] := by rw [HW1.out]; exact HR.out
    have := h1.set 1 (.int .i64 ((p + 1 : Nat) : Int))
    exact this
set_option maxHeartbeats 1000000 in
theorem isHead_ok {w : World} (cl tg : Int) (h0 : 0 ≤ cl) (h1 : cl ≤ 3) (h2 : 1 ≤ tg) (h3 : tg ≤ 30) :
    Calls Tryz.prog 147 #[.int .i64 cl, .int .i64 tg] w fun e w' => e = .returned (.bool true) ∧ w = w' := by
  have h4 : ¬ tg = 0 := by omega
  have h5 : (tg != 0) = true := by simpa using h4
  clear h4
  by_cases h : cl = 0
  · subst h
    go_enter Tryz.func147, Tryz.ntmps147
    go_wp2
    go_ret
    exact ⟨rfl, rfl⟩
  · have h6 : (cl != 0) = true := by simpa using h
    go_enter Tryz.func147, Tryz.ntmps147
    go_wp2
    go_ret
    exact ⟨rfl, rfl⟩
theorem Upd.old {w w1 w2 : World} {o : Obj} {g : Nat} (h : Upd (w.alloc o) w1 g) (h2 : Upd w1 w2 w.heap.size) : Upd w w2 g := by
  have hs := (al1 (w := w) o).size
  have h1 := h.size
  refine ⟨h2.os.trans h.os, h2.tape.trans h.tape, h2.output.trans h.output, by have := h2.size; omega, fun j hj hne => ?_⟩
  rw [h2.block j (by omega) (fun e => by simp at e; omega), h.block j (by omega) hne]
  exact (al1 (w := w) o).block j hj
theorem Tryz.sizeT : (Tryz.prog.info? 105).map (·.size) = some 5 := by kernel_rfl
set_option maxHeartbeats 1000000 in
theorem head_short {w : World} (g b off n c p : Nat) (x cl tg y : Int) (hR : Rdr w g b off n c p) (hp : p < n) (hn : n ≤ 16777216) (hx : w.cell? ⟨b, off + p, none⟩ = some (.int .u8 x)) (hbg : b < w.heap.size)
    (e6 : x / 64 = cl) (e31 : bits .and .u8 x 31 = tg) (e32 : bits .and .u8 x 32 = y) (h0 : 0 ≤ cl) (h1 : cl ≤ 3) (h2 : 1 ≤ tg) (h3 : tg ≤ 30) :
    Calls Tryz.prog 143 #[.pointer (some ⟨g, 0, none⟩)] w fun e w' => e = .returned (.tuple #[.agg #[.int .i64 cl, .int .i64 tg, .bool (y != 0), .slice none 0 0, .slice none 0 0], .int .i64 0]) ∧ Upd w w' g ∧ Rdr w' g b off n c (p + 1) := by
  have HR : Hid (Rdr w g b off n c p ∧ w.cell? ⟨b, off + p, none⟩ = some (.int .u8 x)) := ⟨hR, hx⟩
  clear hR hx
  go_enter Tryz.func143, Tryz.ntmps143
  go_wp2_with fail
  refine (next_any g b off n c p x (HR.out.1.alloc _) hp hn ?_).mono ?_
  · rw [← HR.out.2]; exact (al1 _).cell (p := ⟨b, off + p, none⟩) hbg
  rintro e w1 ⟨rfl, hu, hr⟩
  have hgl := HR.out.1.lt
  have hB1 : Blk 105 w1 w.heap.size [.int .i64 0, .int .i64 0, .bool false, .slice none 0 0, .slice none 0 0] := hu.blk (Blk.new _ w _) (by omega)
  have d0 : w1.cell? ⟨w.heap.size, 0, none⟩ = some (.int .i64 0) := hB1.cell 0
  have d1 : w1.cell? ⟨w.heap.size, 1, none⟩ = some (.int .i64 0) := hB1.cell 1
  have d2 : w1.cell? ⟨w.heap.size, 2, none⟩ = some (.bool false) := hB1.cell 2
  have d3 : w1.cell? ⟨w.heap.size, 3, none⟩ = some (.slice none 0 0) := hB1.cell 3
  have d4 : w1.cell? ⟨w.heap.size, 4, none⟩ = some (.slice none 0 0) := hB1.cell 4
  have f0 := hB1.frozen 0
  have f1 := hB1.frozen 1
  have f2 := hB1.frozen 2
  have f3 := hB1.frozen 3
  have f4 := hB1.frozen 4
  have H1 : Hid (Upd (w.alloc (.cells #[.int .i64 0, .int .i64 0, .bool false, .slice none 0 0, .slice none 0 0] 105)) w1 g ∧ Rdr w1 g b off n c (p + 1) ∧ Blk 105 w1 w.heap.size [.int .i64 0, .int .i64 0, .bool false, .slice none 0 0, .slice none 0 0]) := ⟨hu, hr, hB1⟩
  clear hu hr hB1
  have h41 : ¬ tg = 31 := by omega
  go_wp2_with (go_at_call 147; refine (isHead_ok cl tg h0 h1 h2 h3).mono ?_; rintro e w' ⟨rfl, rfl⟩)
  have hB := (((((((H1.out.2.2.set 0 (.int .i64 cl)).set 2 (.bool (y != 0))).set 1 (.int .i64 tg)).set 0 (.int .i64 cl)).set 1 (.int .i64 tg)).set 2 (.bool (y != 0))).set 3 (.slice none 0 0)).set 4 (.slice none 0 0)
  have hU := (((((((Upd.set w1 w.heap.size 0 (.int .i64 cl)).trans (Upd.set _ _ 2 (.bool (y != 0)))).trans (Upd.set _ _ 1 (.int .i64 tg))).trans (Upd.set _ _ 0 (.int .i64 cl))).trans (Upd.set _ _ 1 (.int .i64 tg))).trans (Upd.set _ _ 2 (.bool (y != 0)))).trans (Upd.set _ _ 3 (.slice none 0 0))).trans (Upd.set _ _ 4 (.slice none 0 0))
  have hgl := HR.out.1.lt
  refine bodyPost_ret (results_blk2 rfl rfl hB Tryz.underlying105 rfl Tryz.sizeT rfl) rfl ⟨rfl, H1.out.1.old hU, ?_⟩
  exact hU.blk H1.out.2.1 (by omega)
end Go.Proofs.YtedoghjefdkmaaaGreat
/-
  Der: decimal numbers of the page's example.
-/
namespace Go.Proofs.YtedoghjefdkmaaaGreat
open Go.RowKit
end Go.Proofs.YtedoghjefdkmaaaGreat
/-
  append of elements of m cells each (structs), in the words of Blk.
-/
namespace Go.Proofs.YtedoghjefdkmaaaGreat
open Go.RowKit

/-- A slice of the call's own whose n elements have m cells each: memory from block B on, the head of a whole block, or nil; its cells are xs. -/
def MRow (m : Nat) (e : TypeId) (B : Nat) (w : World) (v : Value) (n : Nat) (xs : List Value) : Prop :=
  xs.length = n * m ∧ ((v = .slice none 0 0 ∧ n = 0) ∨ ∃ b S c, v = .slice (some ⟨b, 0, none⟩) n c ∧ B ≤ b ∧ Blk e w b S ∧ S.length = c * m ∧ n ≤ c ∧ S.take (n * m) = xs ∧ c ≤ maxLen)
/-- What an append has done: only new memory, or the spare room of v's block has been written. -/
def MGrew (e : TypeId) (w w' : World) (v : Value) : Prop :=
  Below w.heap.size w w' ∨ ∃ b n c S, v = .slice (some ⟨b, 0, none⟩) n c ∧ Blk e w b S ∧ Upd w w' b
theorem MRow.nil (m : Nat) (e : TypeId) (B : Nat) (w : World) : MRow m e B w (.slice none 0 0) 0 [] := ⟨by simp, .inl ⟨rfl, rfl⟩⟩
theorem MRow.below {m : Nat} {e : TypeId} {B : Nat} {w w' : World} {v : Value} {n : Nat} {xs : List Value} (h : MRow m e B w v n xs) (hb : Below w.heap.size w w') : MRow m e B w' v n xs := by
  obtain ⟨h0, h⟩ := h
  refine ⟨h0, ?_⟩
  rcases h with h | ⟨b, S, c, rfl, h1, hA, h2⟩
  · exact .inl h
  · exact .inr ⟨b, S, c, rfl, h1, below_blk hb hA.lt hA, h2⟩
theorem MRow.ne {m : Nat} {e : TypeId} {B : Nat} {w : World} {v : Value} {n : Nat} {xs : List Value} (h : MRow m e B w v n xs) : ∃ a c, v = .slice a n c := by
  rcases h with ⟨_, ⟨rfl, rfl⟩ | ⟨b, S, c, rfl, _⟩⟩
  · exact ⟨_, _, rfl⟩
  · exact ⟨_, _, rfl⟩
theorem MRow.alloc {m : Nat} {e : TypeId} {B : Nat} {w : World} {v : Value} {n : Nat} {xs : List Value} (h : MRow m e B w v n xs) (o : Obj) : MRow m e B (w.alloc o) v n xs :=
  h.below ((Below.refl _ _).alloc (Nat.le_refl _) o)
theorem MGrew.below {m : Nat} {e : TypeId} {B : Nat} {w w' : World} {v : Value} {n : Nat} {xs : List Value} (h : MGrew e w w' v) (hr : MRow m e B w v n xs) (hB : B ≤ w.heap.size) : Below B w w' := by
  rcases h with h | ⟨b, n', c', S, rfl, _, hU⟩
  · exact h.mono hB
  · rcases hr with ⟨_, ⟨h, _⟩ | ⟨b', S', c, h, hb, _⟩⟩
    · cases h
    · simp only [Value.slice.injEq, Option.some.injEq, Addr.mk.injEq, and_true] at h
      obtain ⟨rfl, _, _⟩ := h
      exact hU.below (Below.refl _ _) hB hb
theorem run_apm {P : Program} (w : World) (t tx ty e : TypeId) (i : TypeInfo) (m : Nat) (z : Value) (ht : P.underlying t = some (.slice e)) (hi : P.info? e = some i) (hz : i.zero = some z) (hsize : i.size = m) (hzs : z.cells.size = m) (hby : 0 < i.bytes)
    {B : Nat} {v : Value} {n : Nat} {xs : List Value} (hr : MRow m e B w v n xs) {x : Value} {k : Nat} {ys : List Value} (hs : Src P m tx x k ys w)
    (hb : (n + k) * i.bytes ≤ 140737488355328) (hB : B ≤ w.heap.size) :
    ∃ v' w', (Builtin.append_ #[t, tx] ty #[v, x]).run P w = .ok v' w' ∧ MRow m e B w' v' (n + k) (xs ++ ys) ∧ MGrew e w w' v := by
  have hle : n + k ≤ 140737488355328 := Nat.le_trans (Nat.le_mul_of_pos_right _ hby) hb
  have hs1 : Src P i.size tx x k ys w := by rw [hsize]; exact hs
  obtain ⟨hxl, hr⟩ := hr
  have hxy : (xs ++ ys).length = (n + k) * m := by rw [List.length_append, hxl, hs.newsLen, Nat.add_mul]
  have grown : ∀ (base : Option Addr) (old : Nat), old < n + k → (Builtin.firstCells i.size n (.slice base n old)).run P w.drew = .ok xs.toArray w.drew →
      ∃ v' w', (Builtin.append_ #[t, tx] ty #[.slice base n old, x]).run P w = .ok v' w' ∧ MRow m e B w' v' (n + k) (xs ++ ys) ∧ MGrew e w w' (.slice base n old) := by
    intro base old ho hold
    have h1 := run_append_grow_src (P := P) w t tx ty e i z ht hi hz base n old _ hold x k _ hs1 ho (by omega) (growslice_fits (by omega) hb)
    refine ⟨_, _, h1, ⟨hxy, ?_⟩, .inl ((Below.refl _ _).drew.alloc (Nat.le_refl _) _)⟩
    have hge := grownCap_ge w (n + k) old e
    have hcm : grownCap w (n + k) old e ≤ maxLen := grownCap_le_maxLen w _ old e (by unfold maxLen; omega)
    refine .inr ⟨w.heap.size, xs ++ ys ++ (Builtin.zeroCells z.cells (grownCap w (n + k) old e - (n + k))).toList, grownCap w (n + k) old e, rfl, hB, ?_, ?_, hge, ?_, hcm⟩
    · unfold Blk
      have := heap_alloc_new w.drew (.cells ((xs ++ ys).toArray ++ Builtin.zeroCells z.cells (grownCap w (n + k) old e - (n + k))) e)
      rw [show (w.drew.heap.size) = w.heap.size from rfl] at this
      rw [this]; simp
    · rw [List.length_append, hxy]
      simp only [Builtin.zeroCells, Array.length_toList, Array.size_map, Array.size_range, hzs]
      rw [← Nat.add_mul]; congr 1; omega
    · exact List.take_left' hxy
  rcases hr with ⟨rfl, rfl⟩ | ⟨b, S, c, rfl, hBb, hA, hSl, hl, htk, hm⟩
  · have hx0 : xs = [] := List.eq_nil_of_length_eq_zero (by simpa using hxl)
    subst hx0
    by_cases h0 : k = 0
    · subst h0
      have hy : ys = [] := List.eq_nil_of_length_eq_zero (by simpa using hs.newsLen)
      subst hy
      refine ⟨.slice none 0 0, w, ?_, ⟨by simp, .inl ⟨rfl, rfl⟩⟩, .inl (Below.refl _ _)⟩
      have h1 := hs1.cells
      have h2 := hs1.len
      rcases hs1.kind with ⟨e', hk⟩ | hk
      · simp [Builtin.append_, run_underlying ht, run_underlying hk, sizeOf, typeInfo, hi, h2, h1]
      · simp [Builtin.append_, run_underlying ht, run_underlying hk, sizeOf, typeInfo, hi, h2, h1]
    · exact grown none 0 (by omega) (run_firstCells_none w.drew i.size 0 0 0)
  · by_cases hroom : n + k ≤ c
    · have hkm : n * m + k * m ≤ c * m := by rw [← Nat.add_mul]; exact Nat.mul_le_mul_right _ hroom
      have hst := run_storeCells_at P b (n * i.size) e ys 0 _ w hA (by rw [hsize, hs.newsLen, List.size_toArray, hSl]; omega) hs1.one
      simp only [Nat.add_zero] at hst
      have hrun : (Builtin.append_ #[t, tx] ty #[.slice (some ⟨b, 0, none⟩) n c, x]).run P w = .ok (.slice (some ⟨b, 0, none⟩) (n + k) c) (w.setRow b ((S.toArray.toList.take (n * i.size)) ++ ys ++ (S.toArray.toList.drop (n * i.size + ys.length))).toArray) := by
        rcases hs1.kind with ⟨e', hk⟩ | hk <;> simp [Builtin.append_, run_underlying ht, run_underlying hk, sizeOf, typeInfo, hi, hs1.len, hroom, hs1.cells, Addr.add_lit, hst]
      have hA' : Blk e (w.setRow b ((S.toArray.toList.take (n * i.size)) ++ ys ++ (S.toArray.toList.drop (n * i.size + ys.length))).toArray) b (S.take (n * m) ++ ys ++ S.drop (n * m + k * m)) := by
        unfold Blk
        rw [setRow_heap w b _ _ e _ hA]
        simp [hsize, hs.newsLen]
      refine ⟨_, _, hrun, ⟨hxy, .inr ⟨b, _, c, rfl, hBb, hA', ?_, hroom, ?_, hm⟩⟩, .inr ⟨b, n, c, S, rfl, hA, ⟨rfl, rfl, rfl, by simp [World.setRow], fun j _ hj => setRow_other w b j _ (fun e => hj (by simp [e]))⟩⟩⟩
      · rw [List.length_append, htk, hxy, List.length_drop, hSl, Nat.add_mul]; omega
      · rw [htk]; exact List.take_left' hxy
    · refine grown (some ⟨b, 0, none⟩) c (by omega) (run_firstCells_some w.drew i.size n ⟨b, 0, none⟩ n c _ (by rw [hsize]; exact hxl) (fun j u hj => ?_))
      have hj' : j < xs.length := (List.getElem?_eq_some_iff.1 hj).1
      have hadd : (⟨b, 0, none⟩ : Addr).add j = ⟨b, j, none⟩ := by simp [Addr.add] <;> omega
      have e1 : (w.drew).cell? ⟨b, j, none⟩ = w.cell? ⟨b, j, none⟩ := rfl
      rw [hadd, e1, hA.cell j, ← hj, ← htk, List.getElem?_take, if_pos (by omega)]

theorem wpList_apm {P : Program} {w : World} {ops : Array Oper} {rest : List Oper} {o : Oper} {a : Act} {Q : Exit → Act → World → Prop} (hgd : o.guard = none) (s x : Operand) (t tx : TypeId)
    (ho : o.op = .call { callee := .builtin .append, args := #[s, x], argTypes := #[t, tx] }) (m : Nat) (z : Value) (hzs : z.cells.size = m) (e : TypeId) (bytes : Nat) (ht : P.underlying t = some (.slice e))
    (hi : (P.info? e).map (fun i => (i.zero, i.size, i.bytes)) = some (some z, m, bytes)) (hby : 0 < bytes)
    (B : Nat) (v : Value) (n : Nat) (xs : List Value) (hs : a.eval s = v) (hr : MRow m e B w v n xs) (u : Value) (k : Nat) (ys : List Value) (hx : a.eval x = u) (hy : Src P m tx u k ys w)
    (hb : (n + k) * bytes ≤ 140737488355328) (hB : B ≤ w.heap.size)
    (h : ∀ v' w', MRow m e B w' v' (n + k) (xs ++ ys) → MGrew e w w' v → wpList P ops Q rest (a.put o.dst v') w') : wpList P ops Q (o :: rest) a w := by
  obtain ⟨i0, hi0, hz0, hz1, hz2⟩ := info_parts hi
  refine wpList_plain hgd fun K hK => ?_
  obtain ⟨v', w', hrun, h2, h3⟩ := run_apm (P := P) w t tx o.type e i0 m z ht hi0 hz0 hz1 hzs (by omega) hr hy (by rw [hz2]; exact hb) hB
  unfold Oper.wp execOp
  simp only [ho, resolve, invoke, builtin, Sem.run_bind, Sem.run_pure, Result.andThen_ok, List.map_toArray, List.map_cons, List.map_nil, hs, hx, hrun]
  exact hK _ _ (h v' w' h2 h3)
end Go.Proofs.YtedoghjefdkmaaaGreat
/-
  Der: a short length; bytes copied; a short element.
-/
namespace Go.Proofs.YtedoghjefdkmaaaGreat
open Go.RowKit
set_option maxHeartbeats 1000000 in
theorem length_short {w : World} (g b off n c p : Nat) (x : Int) (hR : Rdr w g b off n c p) (hp : p < n) (hn : n ≤ 16777216) (hx : w.cell? ⟨b, off + p, none⟩ = some (.int .u8 x)) (h0 : 0 ≤ x) (h1 : x < 128) (hf : x + p + 1 ≤ n) :
    Calls Tryz.prog 144 #[.pointer (some ⟨g, 0, none⟩)] w fun e w' => e = .returned (.tuple #[.int .i64 x, .int .i64 0]) ∧ Upd w w' g ∧ Rdr w' g b off n c (p + 1) := by
  have HR : Hid (Rdr w g b off n c p ∧ w.cell? ⟨b, off + p, none⟩ = some (.int .u8 x)) := ⟨hR, hx⟩
  have c1 : w.cell? ⟨g, 1, none⟩ = some (.int .i64 p) := hR.cell 1
  clear hR hx
  have n1 : ¬ x = 128 := by omega
  have n2 : ¬ x = 255 := by omega
  have b1 : (x != 128) = true := by simpa using n1
  have b2 : (x != 255) = true := by simpa using n2
  clear n1 n2
  go_enter Tryz.func144, Tryz.ntmps144
  go_wp2_with fail
  refine (next_any g b off n c p x HR.out.1 hp hn HR.out.2).mono ?_
  rintro e w1 ⟨rfl, hu, hr⟩
  have H1 : Hid (Upd w w1 g ∧ Rdr w1 g b off n c (p + 1)) := ⟨hu, hr⟩
  have d0 : w1.cell? ⟨g, 0, none⟩ = some (.slice (some ⟨b, off, none⟩) n c) := hr.cell 0
  have d1 : w1.cell? ⟨g, 1, none⟩ = some (.int .i64 ((p + 1 : Nat) : Int)) := hr.cell 1
  have hle : x ≤ (n : Int) - ((p + 1 : Nat) : Int) := by omega
  clear hu hr c1
  go_upto_region 11 with (fail)
  go_quiet (fail)
  go_wp2
  go_ret2
  refine ⟨rfl, ?_, H1.out.2⟩
  exact H1.out.1.trans ⟨rfl, rfl, rfl, Nat.le_refl _, fun _ _ _ => rfl⟩
set_option maxHeartbeats 1000000 in
theorem copied_any {w : World} (v : Value) (X : List Int) (hX : Sl .u8 w v X) (hl : X.length ≤ 16777216) :
    Calls Tryz.prog 145 #[v] w fun e w' => ∃ r, e = .returned r ∧ Row .u8 5 w.heap.size w' r X ∧ Below w.heap.size w w' := by
  obtain ⟨a, c, hv⟩ : ∃ a c, v = .slice a X.length c := by obtain ⟨a, c, h, h', _⟩ := hX; exact ⟨a, c, h⟩
  subst hv
  have HX : Hid (Sl .u8 w (.slice a X.length c) X) := hX
  clear hX
  go_enter Tryz.func145, Tryz.ntmps145
  go_wp2_with (at_builtin; refine wpList_ap rfl (.const (.slice none 0 0)) (.tmp 3) 25 25 rfl .u8 5 1 Tryz.und8 Tryz.info8 (by decide) w.heap.size _ [] rfl (Row.nil _ _ _ _) _ X rfl (src_sl Tryz.und8 HX.out) (by simp; omega) (Nat.le_refl _) ?_; intro v1 w1 hr hg)
  have hb := hg.below (Row.nil _ _ w.heap.size _) (Nat.le_refl _)
  go_ret
  exact ⟨_, rfl, hr, hb⟩
end Go.Proofs.YtedoghjefdkmaaaGreat
/-
  Der: a short element.
-/
namespace Go.Proofs.YtedoghjefdkmaaaGreat
open Go.RowKit
theorem rd_sl {w : World} {b c : Nat} {M : List Int} (hb : b < w.heap.size) (hr : Rd .u8 w b 0 M) (i j : Nat) (hij : i ≤ j) (hj : j ≤ M.length) (hc : j ≤ c) : Sl .u8 w (.slice (if c = i then some ⟨b, 0, none⟩ else some ⟨b, i, none⟩) (j - i) (c - i)) ((M.drop i).take (j - i)) := by
  have hl : ((M.drop i).take (j - i)).length = j - i := by rw [List.length_take, List.length_drop]; omega
  refine ⟨_, _, by rw [hl], by omega, ?_⟩
  by_cases h : c = i
  · exact .inl (List.eq_nil_of_length_eq_zero (by omega))
  · rw [if_neg h]
    refine .inr ⟨b, i, rfl, hb, fun k hk => ?_⟩
    have := hr (i + k) (by omega)
    rw [Nat.zero_add] at this
    rw [this, List.getD_eq_getElem?_getD, List.getD_eq_getElem?_getD, List.getElem?_take, if_pos (by omega), List.getElem?_drop]
theorem Row.upd {k : IntKind} {e : TypeId} {B : Nat} {w w' : World} {v : Value} {xs : List Int} {g : Nat} (h : Row k e B w v xs) (hu : Upd w w' g) (hg : g < B) : Row k e B w' v xs := by
  rcases h with h | ⟨b, S, rfl, h1, hA, h2⟩
  · exact .inl h
  · exact .inr ⟨b, S, rfl, h1, hu.arr hA (by omega), h2⟩
theorem Upd.more {w w1 w2 : World} {g m : Nat} (h1 : Upd w w1 g) (hu : Upd w1 w2 m) (hm : w.heap.size ≤ m) : Upd w w2 g :=
  ⟨hu.os.trans h1.os, hu.tape.trans h1.tape, hu.output.trans h1.output, Nat.le_trans h1.size hu.size, fun j hj hne => (hu.block j (Nat.lt_of_lt_of_le hj h1.size) (fun e => by simp at e; omega)).trans (h1.block j hj hne)⟩
theorem Below.upd {w w' : World} {g : Nat} (h : Below w.heap.size w w') : Upd w w' g := ⟨h.os, h.tape, h.output, h.size, fun j hj _ => h.block j hj⟩
set_option maxRecDepth 20000 in
set_option maxHeartbeats 2000000 in
theorem element_short {w : World} (g b n c p l : Nat) (M : List Int) (x cl tg y : Int) (hR : Rdr w g b 0 n c p) (hM : Rd .u8 w b 0 M) (hMl : M.length = n) (hn : n ≤ 16777216) (hnc : n ≤ c) (hb : b < w.heap.size) (hbg : b ≠ g)
    (hp : p + 2 + l ≤ n) (ex : M.getD p 0 = x) (el : M.getD (p + 1) 0 = l) (hl : l < 128)
    (e6 : x / 64 = cl) (e31 : bits .and .u8 x 31 = tg) (e32 : bits .and .u8 x 32 = y) (h0 : 0 ≤ cl) (h1 : cl ≤ 3) (h2 : 1 ≤ tg) (h3 : tg ≤ 30) :
    Calls Tryz.prog 121 #[.pointer (some ⟨g, 0, none⟩)] w fun e w' => ∃ d r, e = .returned (.tuple #[.agg #[.int .i64 cl, .int .i64 tg, .bool (y != 0), d, r], .int .i64 0]) ∧ Upd w w' g ∧ Rdr w' g b 0 n c (p + 2 + l) ∧ Row .u8 5 w.heap.size w' d ((M.drop (p + 2)).take l) ∧ Row .u8 5 w.heap.size w' r ((M.drop p).take (2 + l)) := by
  have HX : Hid (Rdr w g b 0 n c p ∧ Rd .u8 w b 0 M ∧ M.length = n ∧ M.getD p 0 = x ∧ M.getD (p + 1) 0 = l) := ⟨hR, hM, hMl, ex, el⟩
  have hgl := hR.lt
  have c1 : w.cell? ⟨g, 1, none⟩ = some (.int .i64 p) := hR.cell 1
  clear hR hM hMl ex el
  go_enter Tryz.func121, Tryz.ntmps121
  go_wp2_with fail
  refine (head_short g b 0 n c p x cl tg y (HX.out.1.alloc _) (by omega) hn ?_ ?_ e6 e31 e32 h0 h1 h2 h3).mono ?_
  · rw [(al1 _).cell (p := ⟨b, 0 + p, none⟩) hb, HX.out.2.1 p (by have := HX.out.2.2.1; omega), HX.out.2.2.2.1]
  · exact Nat.lt_of_lt_of_le hb (al1 _).size
  rintro e w1 ⟨rfl, hu, hr⟩
  have hB1 : Blk 105 w1 w.heap.size [.int .i64 0, .int .i64 0, .bool false, .slice none 0 0, .slice none 0 0] := hu.blk (Blk.new _ w _) (by omega)
  have H1 : Hid (Upd (w.alloc (.cells #[.int .i64 0, .int .i64 0, .bool false, .slice none 0 0, .slice none 0 0] 105)) w1 g ∧ Rdr w1 g b 0 n c (p + 1) ∧ Blk 105 w1 w.heap.size [.int .i64 0, .int .i64 0, .bool false, .slice none 0 0, .slice none 0 0]) := ⟨hu, hr, hB1⟩
  have d0 : w1.cell? ⟨w.heap.size, 0, none⟩ = some (.int .i64 0) := hB1.cell 0
  have d1 : w1.cell? ⟨w.heap.size, 1, none⟩ = some (.int .i64 0) := hB1.cell 1
  have d2 : w1.cell? ⟨w.heap.size, 2, none⟩ = some (.bool false) := hB1.cell 2
  have d3 : w1.cell? ⟨w.heap.size, 3, none⟩ = some (.slice none 0 0) := hB1.cell 3
  have d4 : w1.cell? ⟨w.heap.size, 4, none⟩ = some (.slice none 0 0) := hB1.cell 4
  have f0 := hB1.frozen 0
  have f1 := hB1.frozen 1
  have f2 := hB1.frozen 2
  have f3 := hB1.frozen 3
  have f4 := hB1.frozen 4
  clear hu hr hB1 c1
  go_upto_region 5 with (fail)
  refine wp_gen (fun W => Upd w1 W w.heap.size ∧ Blk 105 W w.heap.size [.int .i64 cl, .int .i64 tg, .bool (y != 0), .slice none 0 0, .slice none 0 0]) ⟨((((Upd.set _ _ _ _).trans (Upd.set _ _ _ _)).trans (Upd.set _ _ _ _)).trans (Upd.set _ _ _ _)).trans (Upd.set _ _ _ _), ((((H1.out.2.2.set 0 (.int .i64 cl)).set 1 (.int .i64 tg)).set 2 (.bool (y != 0))).set 3 (.slice none 0 0)).set 4 (.slice none 0 0)⟩ ?_
  rintro w2 ⟨hu2, hb2⟩
  clear d0 d1 d2 d3 d4 f0 f1 f2 f3 f4
  have H2 : Hid (Upd w w2 g ∧ Rdr w2 g b 0 n c (p + 1) ∧ Blk 105 w2 w.heap.size [.int .i64 cl, .int .i64 tg, .bool (y != 0), .slice none 0 0, .slice none 0 0] ∧ Rd .u8 w2 b 0 M) := by
    have h1 := H1.out.1.old hu2
    exact ⟨h1, hu2.blk H1.out.2.1 (by omega), hb2, h1.rd hb HX.out.2.1 hbg⟩
  clear hu2 hb2
  go_wp2_with fail
  refine (length_short g b 0 n c (p + 1) l H2.out.2.1 (by omega) hn ?_ (by omega) (by omega) (by omega)).mono ?_
  · rw [H2.out.2.2.2 (p + 1) (by have := HX.out.2.2.1; omega), HX.out.2.2.2.2]
  rintro e w3 ⟨rfl, hu3, hr3⟩
  obtain ⟨A, hA⟩ : ∃ A, p + 1 + 1 = A := ⟨_, rfl⟩
  obtain ⟨E, hE⟩ : ∃ E, A + l = E := ⟨_, rfl⟩
  have hEI : (A : Int) + (l : Int) = (E : Int) := by omega
  have HA : Hid (p + 1 + 1 = A ∧ A + l = E) := ⟨hA, hE⟩
  have hAE : A ≤ E := by omega
  have hEn : E ≤ n := by omega
  rw [hA] at hr3
  have r0 : w3.cell? ⟨g, 0, none⟩ = some (.slice (some ⟨b, 0, none⟩) n c) := hr3.cell 0
  have r1 : w3.cell? ⟨g, 1, none⟩ = some (.int .i64 (A : Int)) := hr3.cell 1
  have fr := hr3.frozen 1
  have H3 : Hid (Upd w w3 g ∧ Rdr w3 g b 0 n c A ∧ Blk 105 w3 w.heap.size [.int .i64 cl, .int .i64 tg, .bool (y != 0), .slice none 0 0, .slice none 0 0] ∧ Rd .u8 w3 b 0 M) := by
    have h1 := H2.out.1.trans hu3
    exact ⟨h1, hr3, hu3.blk H2.out.2.2.1 (by omega), h1.rd hb HX.out.2.1 hbg⟩
  clear hu3 hr3 hA hE
  go_upto_region 10 with (fail)
  refine wp_gen (fun W => Upd w W g ∧ Rdr W g b 0 n c E ∧ Blk 105 W w.heap.size [.int .i64 cl, .int .i64 tg, .bool (y != 0), .slice none 0 0, .slice none 0 0] ∧ Rd .u8 W b 0 M) ?_ ?_
  · have hu := Upd.set w3 g 1 (.int .i64 (E : Int))
    have h1 := H3.out.1.trans hu
    have h5 : Rdr (w3.setCell ⟨g, 1, none⟩ (.int .i64 (E : Int))) g b 0 n c E := H3.out.2.1.set 1 (.int .i64 (E : Int))
    rw [← hEI] at *
    exact ⟨h1, h5, hu.blk H3.out.2.2.1 (by omega), h1.rd hb HX.out.2.1 hbg⟩
  rintro w4 h4
  have H4 : Hid (Upd w w4 g ∧ Rdr w4 g b 0 n c E ∧ Blk 105 w4 w.heap.size [.int .i64 cl, .int .i64 tg, .bool (y != 0), .slice none 0 0, .slice none 0 0] ∧ Rd .u8 w4 b 0 M) := h4
  have q0 : w4.cell? ⟨g, 0, none⟩ = some (.slice (some ⟨b, 0, none⟩) n c) := h4.2.1.cell 0
  have q1 : w4.cell? ⟨g, 1, none⟩ = some (.int .i64 (E : Int)) := h4.2.1.cell 1
  have d3 : w4.cell? ⟨w.heap.size, 3, none⟩ = some (.slice none 0 0) := h4.2.2.1.cell 3
  have f3 := h4.2.2.1.frozen 3
  obtain ⟨ba, hba⟩ : ∃ ba : Option Addr, (if c = A then some ⟨b, 0, none⟩ else some ⟨b, A, none⟩) = ba := ⟨_, rfl⟩
  have HC : Hid (∀ W : World, Rd .u8 W b 0 M → b < W.heap.size → Sl .u8 W (.slice ba (E - A) (c - A)) ((M.drop (p + 2)).take l)) := fun W h hb' => by
    have h1 := HA.out
    have := rd_sl (c := c) hb' h A E hAE (by have := HX.out.2.2.1; omega) (by omega)
    have e : (M.drop (p + 2)).take l = (M.drop A).take (E - A) := by rw [show E - A = l by omega, show A = p + 2 by omega]
    rw [e, ← hba]; exact this
  have hAEI : (A : Int) ≤ (E : Int) := by omega
  have hEcI : (E : Int) ≤ (c : Int) := by omega
  have hb4 : b < w4.heap.size := Nat.lt_of_lt_of_le hb H4.out.1.size
  have hg4 : g < w4.heap.size := Nat.lt_of_lt_of_le hgl H4.out.1.size
  have hgw : ¬ g = w.heap.size := by omega
  have hwg : ¬ w.heap.size = g := by omega
  clear h4 r0 r1 fr hEI d3 f3
  refine wp_region_qsd 10 (by kernel_rfl) (by kernel_rfl) ?_
  simp only [List.take_succ_cons, List.take_zero, List.drop_succ_cons, List.drop_zero]
  repeat (go_big_quiet_step (fail))
  refine wpQuiet_nil ?_
  rintro _ ⟨q2, rfl⟩
  go_wp2_with fail
  refine (copied_any (w := w4.drewN q2) _ ((M.drop (p + 2)).take l) (HC.out _ (by exact H4.out.2.2.2) (by exact hb4)) (by rw [List.length_take]; omega)).mono ?_
  rintro e w5 ⟨r5, rfl, hr5, hb5⟩
  obtain ⟨a5, c5, hv5⟩ := hr5.ne
  obtain ⟨n5, hn5⟩ : ∃ n, ((M.drop (p + 2)).take l).length = n := ⟨_, rfl⟩
  rw [hn5] at hv5
  subst hv5
  clear hn5
  have hu5 : ∀ g', Upd w4 w5 g' := fun g' => Upd.trans (w' := w4.drewN q2) ⟨rfl, rfl, rfl, Nat.le_refl _, fun _ _ _ => rfl⟩ (Below.upd hb5)
  have hsz4 : w.heap.size < w4.heap.size := H4.out.2.2.1.lt
  have hB5 : Blk 105 w5 w.heap.size [.int .i64 cl, .int .i64 tg, .bool (y != 0), .slice none 0 0, .slice none 0 0] := (hu5 g).blk H4.out.2.2.1 (by omega)
  have H5 : Hid ((∀ g', Upd w4 w5 g') ∧ Blk 105 w5 w.heap.size [.int .i64 cl, .int .i64 tg, .bool (y != 0), .slice none 0 0, .slice none 0 0] ∧ Row .u8 5 w4.heap.size w5 (Value.slice a5 n5 c5) ((M.drop (p + 2)).take l)) := ⟨hu5, hB5, hr5⟩
  have d3 : w5.cell? ⟨w.heap.size, 3, none⟩ = some (.slice none 0 0) := hB5.cell 3
  have f3 := hB5.frozen 3
  clear hr5 hb5 hu5 hB5 q0 q1 hba
  go_upto_region 11 with (fail)
  refine wp_gen (fun W => Upd w W g ∧ Rdr W g b 0 n c E ∧ Blk 105 W w.heap.size [.int .i64 cl, .int .i64 tg, .bool (y != 0), (Value.slice a5 n5 c5), .slice none 0 0] ∧ Rd .u8 W b 0 M ∧ Row .u8 5 w4.heap.size W (Value.slice a5 n5 c5) ((M.drop (p + 2)).take l) ∧ w4.heap.size ≤ W.heap.size) ?_ ?_
  · have hu := Upd.set w5 w.heap.size 3 (Value.slice a5 n5 c5)
    have h1 : Upd w w5 g := H4.out.1.trans (H5.out.1 g)
    have h2 : Upd w (w5.setCell ⟨w.heap.size, 3, none⟩ (Value.slice a5 n5 c5)) g := ⟨hu.os.trans h1.os, hu.tape.trans h1.tape, hu.output.trans h1.output, Nat.le_trans h1.size hu.size, fun j hj hne => (hu.block j (Nat.lt_of_lt_of_le hj h1.size) (fun e => by simp at e; omega)).trans (h1.block j hj hne)⟩
    have h3 : Rdr w5 g b 0 n c E := (H5.out.1 w.heap.size).blk H4.out.2.1 (by omega)
    exact ⟨h2, hu.blk h3 (by omega), H5.out.2.1.set 3 (Value.slice a5 n5 c5), h2.rd hb HX.out.2.1 hbg, H5.out.2.2.upd hu hsz4, Nat.le_trans (H5.out.1 g).size hu.size⟩
  rintro w6 h6
  have H6 : Hid (Upd w w6 g ∧ Rdr w6 g b 0 n c E ∧ Blk 105 w6 w.heap.size [.int .i64 cl, .int .i64 tg, .bool (y != 0), (Value.slice a5 n5 c5), .slice none 0 0] ∧ Rd .u8 w6 b 0 M ∧ Row .u8 5 w4.heap.size w6 (Value.slice a5 n5 c5) ((M.drop (p + 2)).take l) ∧ w4.heap.size ≤ w6.heap.size) := h6
  have q0 : w6.cell? ⟨g, 0, none⟩ = some (.slice (some ⟨b, 0, none⟩) n c) := h6.2.1.cell 0
  have q1 : w6.cell? ⟨g, 1, none⟩ = some (.int .i64 (E : Int)) := h6.2.1.cell 1
  have HC2 : Hid (∀ W : World, Rd .u8 W b 0 M → b < W.heap.size → Sl .u8 W (.slice (some ⟨b, p, none⟩) (E - p) (c - p)) ((M.drop p).take (2 + l))) := fun W h hb' => by
    have h1 := HA.out
    have := rd_sl (c := c) hb' h p E (by omega) (by have := HX.out.2.2.1; omega) (by omega)
    have e : (M.drop p).take (2 + l) = (M.drop p).take (E - p) := by rw [show E - p = 2 + l by omega]
    rw [if_neg (by omega)] at this
    rw [e]; exact this
  have hpEI : (p : Int) ≤ (E : Int) := by have := HA.out; omega
  have hb6 : b < w6.heap.size := Nat.lt_of_lt_of_le hb H6.out.1.size
  clear h6 d3 f3
  refine wp_region_qsd 10 (by kernel_rfl) (by kernel_rfl) ?_
  simp only [List.take_succ_cons, List.take_zero, List.drop_succ_cons, List.drop_zero]
  repeat (go_big_quiet_step (fail))
  refine wpQuiet_nil ?_
  rintro _ ⟨q3, rfl⟩
  go_wp2_with fail
  refine (copied_any (w := w6.drewN q3) _ ((M.drop p).take (2 + l)) (HC2.out _ (by exact H6.out.2.2.2.1) (by exact hb6)) (by rw [List.length_take]; omega)).mono ?_
  rintro e w7 ⟨r7, rfl, hr7, hb7⟩
  obtain ⟨a7, c7, hv7⟩ := hr7.ne
  obtain ⟨n7, hn7⟩ : ∃ n, ((M.drop p).take (2 + l)).length = n := ⟨_, rfl⟩
  rw [hn7] at hv7
  subst hv7
  clear hn7
  have hu7 : ∀ g', Upd w6 w7 g' := fun g' => Upd.trans (w' := w6.drewN q3) ⟨rfl, rfl, rfl, Nat.le_refl _, fun _ _ _ => rfl⟩ (Below.upd hb7)
  have hB7 : Blk 105 w7 w.heap.size [.int .i64 cl, .int .i64 tg, .bool (y != 0), (Value.slice a5 n5 c5), .slice none 0 0] := (hu7 g).blk H6.out.2.2.1 (by omega)
  have hsz6 := H6.out.2.2.2.2.2
  have H7 : Hid ((∀ g', Upd w6 w7 g') ∧ Blk 105 w7 w.heap.size [.int .i64 cl, .int .i64 tg, .bool (y != 0), (Value.slice a5 n5 c5), .slice none 0 0] ∧ Row .u8 5 w6.heap.size w7 (Value.slice a7 n7 c7) ((M.drop p).take (2 + l)) ∧ Row .u8 5 w4.heap.size w7 (Value.slice a5 n5 c5) ((M.drop (p + 2)).take l)) := ⟨hu7, hB7, hr7, H6.out.2.2.2.2.1.below ⟨(hu7 g).os, (hu7 g).tape, (hu7 g).output, (hu7 g).size, fun j hj => (hu7 w6.heap.size).block j hj (fun e => by simp at e; omega)⟩⟩
  have d0 : w7.cell? ⟨w.heap.size, 0, none⟩ = some (.int .i64 cl) := hB7.cell 0
  have d1 : w7.cell? ⟨w.heap.size, 1, none⟩ = some (.int .i64 tg) := hB7.cell 1
  have d2 : w7.cell? ⟨w.heap.size, 2, none⟩ = some (.bool (y != 0)) := hB7.cell 2
  have d3 : w7.cell? ⟨w.heap.size, 3, none⟩ = some (Value.slice a5 n5 c5) := hB7.cell 3
  have d4 : w7.cell? ⟨w.heap.size, 4, none⟩ = some (.slice none 0 0) := hB7.cell 4
  have f0 := hB7.frozen 0
  have f1 := hB7.frozen 1
  have f2 := hB7.frozen 2
  have f3 := hB7.frozen 3
  have f4 := hB7.frozen 4
  clear hr7 hb7 hu7 hB7 q0 q1
  go_wp2
  have hB := (((((H7.out.2.1.set 4 (Value.slice a7 n7 c7)).set 0 (.int .i64 cl)).set 1 (.int .i64 tg)).set 2 (.bool (y != 0))).set 3 (Value.slice a5 n5 c5)).set 4 (Value.slice a7 n7 c7)
  have hU := (((((Upd.set w7 w.heap.size 4 (Value.slice a7 n7 c7)).trans (Upd.set _ _ 0 (.int .i64 cl))).trans (Upd.set _ _ 1 (.int .i64 tg))).trans (Upd.set _ _ 2 (.bool (y != 0)))).trans (Upd.set _ _ 3 (Value.slice a5 n5 c5))).trans (Upd.set _ _ 4 (Value.slice a7 n7 c7))
  have h6s := H6.out.2.2.2.2.2
  refine bodyPost_ret (results_blk2 rfl rfl hB Tryz.underlying105 rfl Tryz.sizeT rfl) rfl ⟨_, _, rfl, (H6.out.1.trans (H7.out.1 g)).more hU (Nat.le_refl _), ?_, ?_, ?_⟩
  · have h3 : Rdr w7 g b 0 n c E := (H7.out.1 w.heap.size).blk H6.out.2.1 (by omega)
    have := HA.out
    rw [show p + 2 + l = E by omega]
    exact hU.blk h3 (by omega)
  · exact (H7.out.2.2.2.upd hU hsz4).mono (by omega)
  · exact (H7.out.2.2.1.upd hU (by omega)).mono (by omega)
end Go.Proofs.YtedoghjefdkmaaaGreat
