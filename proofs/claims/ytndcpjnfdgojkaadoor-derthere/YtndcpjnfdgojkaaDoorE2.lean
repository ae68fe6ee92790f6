/-
  Der: the reader's next byte.
-/
import Derived.Test.YtndcpjnfdgojkaaDoorE1
import Derived.BigQuiet
import Derived.Deep.QuietTactic
import Derived.Deep.CutRange
namespace Go.Proofs.YtndcpjnfdgojkaaDoor
open Go.RowKit
theorem wp_gen {P : Program} {c : Code} {Q : Exit → Act → World → Prop} {a : Act} {W : World} (R : World → Prop) (hR : R W) (h : ∀ W', R W' → Code.wp P c Q a W') : Code.wp P c Q a W := h W hR
/-- A reader lies at block g: it reads n bytes of block b from off on, and stands at p. -/
def Rdr (w : World) (g b off n c p : Nat) : Prop := Blk 75 w g [.slice (some ⟨b, off, none⟩) n c, .int .i64 p]
set_option maxHeartbeats 1000000 in
theorem next_any {w : World} (g b off n c p : Nat) (x : Int) (hR : Rdr w g b off n c p) (hp : p < n) (hn : n ≤ 16777216) (hx : w.cell? ⟨b, off + p, none⟩ = some (.int .u8 x)) :
    Calls Tryd.prog 67 #[.pointer (some ⟨g, 0, none⟩)] w fun e w' => e = .returned (.tuple #[.int .u8 x, .int .i64 0]) ∧ Upd w w' g ∧ Rdr w' g b off n c (p + 1) := by
  have c0 : w.cell? ⟨g, 0, none⟩ = some (.slice (some ⟨b, off, none⟩) n c) := hR.cell 0
  have c1 : w.cell? ⟨g, 1, none⟩ = some (.int .i64 p) := hR.cell 1
  have f1 := hR.frozen 1
  have HR : Hid (Rdr w g b off n c p) := hR
  have hpI : (p : Int) < (n : Int) := by omega
  have hne : ¬ (p : Int) = (n : Int) := by omega
  clear hR
  go_enter Tryd.func67, Tryd.ntmps67
  go_upto_region 1 with (fail)
  go_quiet (fail)
  go_upto_region 3 with (fail)
  refine wp_gen (fun W => W = w.drewN nq) rfl ?_
  intro w1 hw1
  have HW1 : Hid (w1 = w.drewN nq) := hw1
  replace c0 : w1.cell? ⟨g, 0, none⟩ = some (.slice (some ⟨b, off, none⟩) n c) := by rw [hw1]; exact c0
  replace c1 : w1.cell? ⟨g, 1, none⟩ = some (.int .i64 p) := by rw [hw1]; exact c1
  replace f1 : w1.frozen? ⟨g, 1, none⟩ = false := by rw [hw1]; exact f1
  replace hx : w1.cell? ⟨b, off + p, none⟩ = some (.int .u8 x) := by rw [hw1]; exact hx
  clear hw1
  go_quiet (fail)
  go_wp2
  go_ret2
  refine ⟨rfl, ?_, ?_⟩
  · have h1 : Upd w (w1.drewN nq) g := by rw [HW1.out]; exact ⟨rfl, rfl, rfl, Nat.le_refl _, fun _ _ _ => rfl⟩
    exact h1.trans (Upd.set _ _ _ _)
  · have h1 : Blk 75 (w1.drewN nq) g [.slice (some ⟨b, off, none⟩) n c, .int .i64 p] := by rw [HW1.out]; exact HR.out
    have := h1.set 1 (.int .i64 ((p + 1 : Nat) : Int))
    exact this
set_option maxHeartbeats 1000000 in
theorem isHead_ok {w : World} (cl tg : Int) (h0 : 0 ≤ cl) (h1 : cl ≤ 3) (h2 : 1 ≤ tg) (h3 : tg ≤ 30) :
    Calls Tryd.prog 51 #[.int .i64 cl, .int .i64 tg] w fun e w' => e = .returned (.bool true) ∧ w = w' := by
  have h4 : ¬ tg = 0 := by omega
  have h5 : (tg != 0) = true := by simpa using h4
  clear h4
  by_cases h : cl = 0
  · subst h
    go_enter Tryd.func51, Tryd.ntmps51
    go_wp2
    go_ret
    exact ⟨rfl, rfl⟩
  · have h6 : (cl != 0) = true := by simpa using h
    go_enter Tryd.func51, Tryd.ntmps51
    go_wp2
    go_ret
    exact ⟨rfl, rfl⟩
/-- A function with two results, the first in a block of its own. -/
theorem results_blk2 {P : Program} {fn : Func} {T : TypeId} {t u : Tmp} (h : fn.results = #[.cell t T, .tmp u]) {a : Array Value} {w : World} {b : Nat} {cs : List Value} {d : TypeDesc} {v : Value} (ha : a.getD t undef = .pointer (some ⟨b, 0, none⟩))
    (hb : Blk T w b cs) (hu : P.underlying T = some d) (hd : d.isRow = true) (hi : (P.info? T).map (·.size) = some cs.length) (hv : a.getD u undef = v) : (results fn a).run P w = .ok (.tuple #[.agg cs.toArray, v]) w := by
  have := run_loadVar_mid (P := P) w b 0 T cs d hb.whole hu hd hi
  have ha' : a[t]?.getD undef = .pointer (some ⟨b, 0, none⟩) := by simpa using ha
  have hv' : a[u]?.getD undef = v := by simpa using hv
  simp [results, h, ha', asAddr, this, hv']
theorem Upd.old {w w1 w2 : World} {o : Obj} {g : Nat} (h : Upd (w.alloc o) w1 g) (h2 : Upd w1 w2 w.heap.size) : Upd w w2 g := by
  have hs := (al1 (w := w) o).size
  have h1 := h.size
  refine ⟨h2.os.trans h.os, h2.tape.trans h.tape, h2.output.trans h.output, by have := h2.size; omega, fun j hj hne => ?_⟩
  rw [h2.block j (by omega) (fun e => by simp at e; omega), h.block j (by omega) hne]
  exact (al1 (w := w) o).block j hj
theorem Tryd.sizeT : (Tryd.prog.info? 32).map (·.size) = some 5 := by kernel_rfl
set_option maxHeartbeats 1000000 in
theorem head_short {w : World} (g b off n c p : Nat) (x cl tg y : Int) (hR : Rdr w g b off n c p) (hp : p < n) (hn : n ≤ 16777216) (hx : w.cell? ⟨b, off + p, none⟩ = some (.int .u8 x)) (hbg : b < w.heap.size)
    (e6 : x / 64 = cl) (e31 : bits .and .u8 x 31 = tg) (e32 : bits .and .u8 x 32 = y) (h0 : 0 ≤ cl) (h1 : cl ≤ 3) (h2 : 1 ≤ tg) (h3 : tg ≤ 30) :
    Calls Tryd.prog 58 #[.pointer (some ⟨g, 0, none⟩)] w fun e w' => e = .returned (.tuple #[.agg #[.int .i64 cl, .int .i64 tg, .bool (y != 0), .slice none 0 0, .slice none 0 0], .int .i64 0]) ∧ Upd w w' g ∧ Rdr w' g b off n c (p + 1) := by
  have HR : Hid (Rdr w g b off n c p ∧ w.cell? ⟨b, off + p, none⟩ = some (.int .u8 x)) := ⟨hR, hx⟩
  clear hR hx
  go_enter Tryd.func58, Tryd.ntmps58
  go_wp2_with fail
  refine (next_any g b off n c p x (HR.out.1.alloc _) hp hn ?_).mono ?_
  · rw [← HR.out.2]; exact (al1 _).cell (p := ⟨b, off + p, none⟩) hbg
  rintro e w1 ⟨rfl, hu, hr⟩
  have hgl := HR.out.1.lt
  have hB1 : Blk 32 w1 w.heap.size [.int .i64 0, .int .i64 0, .bool false, .slice none 0 0, .slice none 0 0] := hu.blk (Blk.new _ w _) (by omega)
  have d0 : w1.cell? ⟨w.heap.size, 0, none⟩ = some (.int .i64 0) := hB1.cell 0
  have d1 : w1.cell? ⟨w.heap.size, 1, none⟩ = some (.int .i64 0) := hB1.cell 1
  have d2 : w1.cell? ⟨w.heap.size, 2, none⟩ = some (.bool false) := hB1.cell 2
  have d3 : w1.cell? ⟨w.heap.size, 3, none⟩ = some (.slice none 0 0) := hB1.cell 3
  have d4 : w1.cell? ⟨w.heap.size, 4, none⟩ = some (.slice none 0 0) := hB1.cell 4
  have f0 := hB1.frozen 0
  have f1 := hB1.frozen 1
  have f2 := hB1.frozen 2
  have f3 := hB1.frozen 3
  have f4 := hB1.frozen 4
  have H1 : Hid (Upd (w.alloc (.cells #[.int .i64 0, .int .i64 0, .bool false, .slice none 0 0, .slice none 0 0] 32)) w1 g ∧ Rdr w1 g b off n c (p + 1) ∧ Blk 32 w1 w.heap.size [.int .i64 0, .int .i64 0, .bool false, .slice none 0 0, .slice none 0 0]) := ⟨hu, hr, hB1⟩
  clear hu hr hB1
  have h41 : ¬ tg = 31 := by omega
  go_wp2_with (go_at_call 51; refine (isHead_ok cl tg h0 h1 h2 h3).mono ?_; rintro e w' ⟨rfl, rfl⟩)
  have hB := (((((((H1.out.2.2.set 0 (.int .i64 cl)).set 2 (.bool (y != 0))).set 1 (.int .i64 tg)).set 0 (.int .i64 cl)).set 1 (.int .i64 tg)).set 2 (.bool (y != 0))).set 3 (.slice none 0 0)).set 4 (.slice none 0 0)
  have hU := (((((((Upd.set w1 w.heap.size 0 (.int .i64 cl)).trans (Upd.set _ _ 2 (.bool (y != 0)))).trans (Upd.set _ _ 1 (.int .i64 tg))).trans (Upd.set _ _ 0 (.int .i64 cl))).trans (Upd.set _ _ 1 (.int .i64 tg))).trans (Upd.set _ _ 2 (.bool (y != 0)))).trans (Upd.set _ _ 3 (.slice none 0 0))).trans (Upd.set _ _ 4 (.slice none 0 0))
  have hgl := HR.out.1.lt
  refine bodyPost_ret (results_blk2 rfl rfl hB Tryd.underlying32 rfl Tryd.sizeT rfl) rfl ⟨rfl, H1.out.1.old hU, ?_⟩
  exact hU.blk H1.out.2.1 (by omega)
end Go.Proofs.YtndcpjnfdgojkaaDoor
