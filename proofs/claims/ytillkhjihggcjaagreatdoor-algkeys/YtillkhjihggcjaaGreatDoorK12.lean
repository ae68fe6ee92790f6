/-
  Der: the page's examples of numbers.
-/
import Derived.LoopN
import Derived.BigQuiet
import Derived.Deep.QuietTactic
import Derived.Deep.CutRange
import Derived.Laws.MathBits
import Derived.Test.YtillkhjihggcjaaGreatDoorK11
namespace Go.Proofs.YtillkhjihggcjaaGreatDoor
open Go.RowKit
end Go.Proofs.YtillkhjihggcjaaGreatDoor
/-
  Der: the reader's next byte.
-/
namespace Go.Proofs.YtillkhjihggcjaaGreatDoor
open Go.RowKit
theorem wp_gen {P : Program} {c : Code} {Q : Exit → Act → World → Prop} {a : Act} {W : World} (R : World → Prop) (hR : R W) (h : ∀ W', R W' → Code.wp P c Q a W') : Code.wp P c Q a W := h W hR
/-- A reader lies at block g: it reads n bytes of block b from off on, and stands at p. -/
def Rdr (w : World) (g b off n c p : Nat) : Prop := Blk 179 w g [.slice (some ⟨b, off, none⟩) n c, .int .i64 p]
set_option maxHeartbeats 1000000 in
theorem next_any {w : World} (g b off n c p : Nat) (x : Int) (hR : Rdr w g b off n c p) (hp : p < n) (hn : n ≤ 16777216) (hx : w.cell? ⟨b, off + p, none⟩ = some (.int .u8 x)) :
    Calls Tryz.prog 131 #[.pointer (some ⟨g, 0, none⟩)] w fun e w' => e = .returned (.tuple #[.int .u8 x, .int .i64 0]) ∧ Upd w w' g ∧ Rdr w' g b off n c (p + 1) := by
  have c0 : w.cell? ⟨g, 0, none⟩ = some (.slice (some ⟨b, off, none⟩) n c) := hR.cell 0
  have c1 : w.cell? ⟨g, 1, none⟩ = some (.int .i64 p) := hR.cell 1
  have f1 := hR.frozen 1
  have HR : Hid (Rdr w g b off n c p) := hR
  have hpI : (p : Int) < (n : Int) := by omega
  have hne : ¬ (p : Int) = (n : Int) := by omega
  clear hR
  go_enter Tryz.func131, Tryz.ntmps131
  go_upto_region 1 with (fail)
  go_quiet (fail)
  go_upto_region 3 with (fail)
  refine wp_gen (fun W => W = w.drewN nq) rfl ?_
  intro w1 hw1
  have HW1 : Hid (w1 = w.drewN nq) := hw1
  replace c0 : w1.cell? ⟨g, 0, none⟩ = some (.slice (some ⟨b, off, none⟩) n c) := by rw [hw1]; exact c0
  replace c1 : w1.cell? ⟨g, 1, none⟩ = some (.int .i64 p) := by rw [hw1]; exact c1
  replace f1 : w1.frozen? ⟨g, 1, none⟩ = false := by rw [hw1]; exact f1
  replace hx : w1.cell? ⟨b, off + p, none⟩ = some (.int .u8 x) := by rw [hw1]; exact hx
  clear hw1
  go_quiet (fail)
  go_wp2
  go_ret2
  refine ⟨rfl, ?_, ?_⟩
  · have h1 : Upd w (w1.drewN nq) g := by rw [HW1.out]; exact ⟨rfl, rfl, rfl, Nat.le_refl _, fun _ _ _ => rfl⟩
    exact h1.trans (Upd.set _ _ _ _)
  · have h1 : Blk 179 (w1.drewN nq) g [.slice (some ⟨b, off, none⟩) n c, .int .i64 p] := by rw [HW1.out]; exact HR.out
    have := h1.set 1 (.int .i64 ((p + 1 : Nat) : Int))
    exact this
/-- A function with two results, the first in a block of its own. -/
theorem results_blk2 {P : Program} {fn : Func} {T : TypeId} {t u : Tmp} (h : fn.results = #[.cell t T, .tmp u]) {a : Array Value} {w : World} {b : Nat} {cs : List Value} {d : TypeDesc} {v : Value} (ha : a.getD t undef = .pointer (some ⟨b, 0, none⟩))
    (hb : Blk T w b cs) (hu : P.underlying T = some d) (hd : d.isRow = true) (hi : (P.info? T).map (·.size) = some cs.length) (hv : a.getD u undef = v) : (results fn a).run P w = .ok (.tuple #[.agg cs.toArray, v]) w := by
  have := run_loadVar_mid (P := P) w b 0 T cs d hb.whole hu hd hi
  have ha' : a[t]?.getD undef = .pointer (some ⟨b, 0, none⟩) := by simpa using ha
  have hv' : a[u]?.getD undef = v := by simpa using hv
  simp [results, h, ha', asAddr, this, hv']
theorem Upd.old {w w1 w2 : World} {o : Obj} {g : Nat} (h : Upd (w.alloc o) w1 g) (h2 : Upd w1 w2 w.heap.size) : Upd w w2 g := by
  have hs := (al1 (w := w) o).size
  have h1 := h.size
  refine ⟨h2.os.trans h.os, h2.tape.trans h.tape, h2.output.trans h.output, by have := h2.size; omega, fun j hj hne => ?_⟩
  rw [h2.block j (by omega) (fun e => by simp at e; omega), h.block j (by omega) hne]
  exact (al1 (w := w) o).block j hj
theorem Tryz.sizeT : (Tryz.prog.info? 24).map (·.size) = some 5 := by kernel_rfl
end Go.Proofs.YtillkhjihggcjaaGreatDoor
/-
  Der: decimal numbers of the page's example.
-/
namespace Go.Proofs.YtillkhjihggcjaaGreatDoor
open Go.RowKit
/-- What the examples ask of the package's tables. -/
structure Tab (w : World) : Prop where
  size : 2 < w.heap.size
  pw : w.cell? ⟨2, 3, none⟩ = some (.int .u64 1000)
theorem Tab.below {w w' : World} (h : Tab w) (hb : Below w.heap.size w w') : Tab w' :=
  ⟨Nat.lt_of_lt_of_le h.size hb.size, by rw [hb.cell (p := ⟨2, 3, none⟩) h.size]; exact h.pw⟩
end Go.Proofs.YtillkhjihggcjaaGreatDoor
/-
  Der: a short length; bytes copied; a short element.
-/
namespace Go.Proofs.YtillkhjihggcjaaGreatDoor
open Go.RowKit
set_option maxHeartbeats 1000000 in
theorem copied_any {w : World} (v : Value) (X : List Int) (hX : Sl .u8 w v X) (hl : X.length ≤ 16777216) :
    Calls Tryz.prog 98 #[v] w fun e w' => ∃ r, e = .returned r ∧ Row .u8 5 w.heap.size w' r X ∧ Below w.heap.size w w' := by
  obtain ⟨a, c, hv⟩ : ∃ a c, v = .slice a X.length c := by obtain ⟨a, c, h, h', _⟩ := hX; exact ⟨a, c, h⟩
  subst hv
  have HX : Hid (Sl .u8 w (.slice a X.length c) X) := hX
  clear hX
  go_enter Tryz.func98, Tryz.ntmps98
  go_wp2_with (at_builtin; refine wpList_ap rfl (.const (.slice none 0 0)) (.tmp 3) 22 22 rfl .u8 5 1 Tryz.und8 Tryz.info8 (by decide) w.heap.size _ [] rfl (Row.nil _ _ _ _) _ X rfl (src_sl Tryz.und8 HX.out) (by simp; omega) (Nat.le_refl _) ?_; intro v1 w1 hr hg)
  have hb := hg.below (Row.nil _ _ w.heap.size _) (Nat.le_refl _)
  go_ret
  exact ⟨_, rfl, hr, hb⟩
end Go.Proofs.YtillkhjihggcjaaGreatDoor
/-
  Der: a short element.
-/
namespace Go.Proofs.YtillkhjihggcjaaGreatDoor
open Go.RowKit
theorem Row.upd {k : IntKind} {e : TypeId} {B : Nat} {w w' : World} {v : Value} {xs : List Int} {g : Nat} (h : Row k e B w v xs) (hu : Upd w w' g) (hg : g < B) : Row k e B w' v xs := by
  rcases h with h | ⟨b, S, rfl, h1, hA, h2⟩
  · exact .inl h
  · exact .inr ⟨b, S, rfl, h1, hu.arr hA (by omega), h2⟩
theorem Upd.more {w w1 w2 : World} {g m : Nat} (h1 : Upd w w1 g) (hu : Upd w1 w2 m) (hm : w.heap.size ≤ m) : Upd w w2 g :=
  ⟨hu.os.trans h1.os, hu.tape.trans h1.tape, hu.output.trans h1.output, Nat.le_trans h1.size hu.size, fun j hj hne => (hu.block j (Nat.lt_of_lt_of_le hj h1.size) (fun e => by simp at e; omega)).trans (h1.block j hj hne)⟩
theorem Below.upd {w w' : World} {g : Nat} (h : Below w.heap.size w w') : Upd w w' g := ⟨h.os, h.tape, h.output, h.size, fun j hj _ => h.block j hj⟩
end Go.Proofs.YtillkhjihggcjaaGreatDoor
/-
  Der: the page's example of a row of elements.
-/
namespace Go.Proofs.YtillkhjihggcjaaGreatDoor
open Go.RowKit
abbrev zeroT : Value := .agg #[.int .i64 0, .int .i64 0, .bool false, .slice none 0 0, .slice none 0 0]
theorem Tryz.infoT : (Tryz.prog.info? 24).map (fun i => (i.zero, i.size, i.bytes)) = some (some zeroT, 5, 72) := by kernel_rfl
theorem Tryz.undT : Tryz.prog.underlying 66 = some (.slice 24) := by kernel_rfl
theorem src_m {P : Program} {tx e' T : TypeId} (hk : P.underlying tx = some (.slice e')) {w : World} {b : Nat} (m : Nat) {vs : List Value} (h : Blk T w b vs) (hl : vs.length = 1 * m) (ho : ∀ u ∈ vs, u.oneCell' = true) : Src P m tx (.slice (some ⟨b, 0, none⟩) 1 1) 1 vs w := by
  refine Src.ofSlice w hk _ _ _ _ hl (fun j u hj => ?_) ho
  have hadd : (⟨b, 0, none⟩ : Addr).add j = ⟨b, j, none⟩ := by simp [Addr.add] <;> omega
  rw [hadd, h.cell j, hj]
theorem blk_nw {e : TypeId} {w : World} {b : Nat} {cs : Array Value} {xs : List Value} (hb : b = w.heap.size) (h : cs = xs.toArray) : Blk e (w.alloc (.cells cs e)) b xs := by subst hb; subst h; exact Blk.new e w _
theorem MRow.upd {m : Nat} {e : TypeId} {B : Nat} {w w' : World} {v : Value} {n : Nat} {xs : List Value} {g : Nat} (h : MRow m e B w v n xs) (hu : Upd w w' g) (hg : g < B) : MRow m e B w' v n xs := by
  obtain ⟨h0, h⟩ := h
  refine ⟨h0, ?_⟩
  rcases h with h | ⟨b, S, c, rfl, h1, hA, h2⟩
  · exact .inl h
  · exact .inr ⟨b, S, c, rfl, h1, hu.blk hA (by omega), h2⟩
theorem MRow.at {m : Nat} {e : TypeId} {B : Nat} {w : World} {v : Value} {n : Nat} {xs : List Value} (h : MRow m e B w v n xs) (hn : 0 < n) : ∃ b c, v = .slice (some ⟨b, 0, none⟩) n c ∧ n ≤ c ∧ B ≤ b ∧ b < w.heap.size ∧ ∀ i, i < n * m → w.cell? ⟨b, i, none⟩ = xs[i]? := by
  obtain ⟨h0, h⟩ := h
  rcases h with ⟨_, h⟩ | ⟨b, S, c, rfl, h1, hA, h2, h3, h4, h5⟩
  · omega
  · refine ⟨b, c, rfl, h3, h1, hA.lt, fun i hi => ?_⟩
    rw [hA.cell i, ← h4, List.getElem?_take, if_pos hi]
theorem Row.mgrew {B : Nat} {w w' : World} {v u : Value} {xs : List Int} (h : Row .u8 5 B w v xs) (hg : MGrew 24 w w' u) : Row .u8 5 B w' v xs := by
  rcases hg with hg | ⟨b', n, c, S', _, hB, hU⟩
  · exact h.below hg
  · rcases h with h | ⟨b, S, rfl, h1, hA, h2⟩
    · exact .inl h
    · refine .inr ⟨b, S, rfl, h1, hU.arr hA (fun e => ?_), h2⟩
      subst e
      unfold Arr at hA
      unfold Blk at hB
      rw [hA] at hB
      simp at hB
theorem tlv_one (a b : Int) (c : Bool) (a1 a2 : Option Addr) (n1 n2 c1 c2 : Nat) : ∀ u ∈ [Value.int .i64 a, .int .i64 b, .bool c, .slice a1 n1 c1, .slice a2 n2 c2], u.oneCell' = true := by
  intro u hu
  simp only [List.mem_cons, List.not_mem_nil, or_false] at hu
  rcases hu with rfl | rfl | rfl | rfl | rfl <;> rfl
end Go.Proofs.YtillkhjihggcjaaGreatDoor
/-
  Der: the page's example of an object identifier, its numbers.
-/
namespace Go.Proofs.YtillkhjihggcjaaGreatDoor
open Go.RowKit
theorem Tryz.und64 : Tryz.prog.underlying 148 = some (.slice 136) := by kernel_rfl
theorem Tryz.info64 : (Tryz.prog.info? 136).map (fun i => (i.zero, i.size, i.bytes)) = some (some (.int .u64 0), 1, 8) := by kernel_rfl
end Go.Proofs.YtillkhjihggcjaaGreatDoor
