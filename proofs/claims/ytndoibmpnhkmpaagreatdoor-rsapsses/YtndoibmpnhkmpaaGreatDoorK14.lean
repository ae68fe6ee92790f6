/-
  Der: words of memory, bytes lent and kept, the same bytes (as for digest).
-/
import Derived.LoopN
import Derived.BigQuiet
import Derived.Deep.QuietTactic
import Derived.Deep.CutRange
import Derived.Laws.MathBits
import Derived.Laws.BytesArg
import Derived.Lib.OthersKept
import Derived.Laws.RangeString
import Derived.Lib.Tables
import Derived.Deep.RegionHeld3
import Derived.Test.YtndoibmpnhkmpaaGreatDoorK13
namespace Go.Proofs.YtndoibmpnhkmpaaGreatDoor
open Go.RowKit
theorem Tryz.und8 : Tryz.prog.underlying 25 = some (.slice 5) := by kernel_rfl
theorem Tryz.info8 : (Tryz.prog.info? 5).map (fun i => (i.zero, i.size, i.bytes)) = some (some (.int .u8 0), 1, 1) := by kernel_rfl
def U8 (x : Int) : Prop := 0 ≤ x ∧ x < 256
def U8s (xs : List Int) : Prop := ∀ x ∈ xs, U8 x
theorem U8s.at {xs : List Int} (h : U8s xs) (i : Nat) : U8 (xs.getD i 0) := by
  by_cases hi : i < xs.length
  · simp [hi]; exact h _ (List.getElem_mem hi)
  · simp [List.getD, List.getElem?_eq_none (Nat.le_of_not_lt hi), U8]
theorem U8s.append {xs ys : List Int} (h : U8s xs) (k : U8s ys) : U8s (xs ++ ys) := by
  intro y hy; rcases List.mem_append.1 hy with hy | hy
  · exact h y hy
  · exact k y hy
theorem U8s.take {xs : List Int} (h : U8s xs) (n : Nat) : U8s (xs.take n) := fun y hy => h y (List.mem_of_mem_take hy)
theorem U8s.drop {xs : List Int} (h : U8s xs) (n : Nat) : U8s (xs.drop n) := fun y hy => h y (List.mem_of_mem_drop hy)
set_option maxHeartbeats 1000000 in
theorem SameBytes_any {w : World} (v u : Value) (xs : List Int) (hx : Sl .u8 w v xs) (hy : Sl .u8 w u xs) (lx : xs.length ≤ 1152921504606846976) :
    Calls Tryz.prog 14 #[v, u] w fun e w' => e = .returned (.bool true) ∧ Below w.heap.size w w' := by
  obtain ⟨a1, c1, rfl, hc1, h1⟩ := hx
  obtain ⟨a2, c2, rfl, hc2, h2⟩ := hy
  by_cases hne : xs = []
  · subst hne
    simp only [List.length_nil]
    go_enter Tryz.func14, Tryz.ntmps14
    go_wp2
    go_loop [5] (fun i => i = .int .i64 0) (fun _ => 0)
    case atStart => rfl
    case round =>
      subst hrel
      go_wp2
      go_ret
      exact ⟨rfl, Below.refl _ _⟩
  · rcases h1 with h1 | ⟨b1, o1, rfl, hb1, hr1⟩
    · exact absurd h1 hne
    rcases h2 with h2 | ⟨b2, o2, rfl, hb2, hr2⟩
    · exact absurd h2 hne
    obtain ⟨n, hn⟩ : ∃ n, xs.length = n := ⟨_, rfl⟩
    rw [hn] at lx hc1 hc2 ⊢
    have HN : Hid (xs.length = n) := hn
    clear hn hne
    go_enter Tryz.func14, Tryz.ntmps14
    go_wp2
    go_loopw [5] (fun i wr => ∃ k : Nat, k ≤ n ∧ i = .int .i64 k ∧ Below w.heap.size w wr) (fun i _ => n - (intOf i).toNat)
    case atStart => exact ⟨0, Nat.zero_le _, rfl, Below.refl _ _⟩
    case round =>
      obtain ⟨k, hk, rfl, hB⟩ := hrel
      by_cases hkn : k < n
      · obtain ⟨x, hx⟩ : ∃ x, xs.getD k 0 = x := ⟨_, rfl⟩
        have hcx : wr.cell? ⟨b1, o1 + k, none⟩ = some (.int .u8 x) := by rw [← hx]; exact (below_rd hB hb1 hr1) k (by rw [HN.out]; exact hkn)
        have hcy : wr.cell? ⟨b2, o2 + k, none⟩ = some (.int .u8 x) := by rw [← hx]; exact (below_rd hB hb2 hr2) k (by rw [HN.out]; exact hkn)
        have HB : Hid (Below w.heap.size w wr) := hB
        clear hx hB hr1 hr2
        go_wp2
        go_quiet (fail)
        go_wp2
        go_roundw
        case rel => exact ⟨k + 1, by omega, by go_num, HB.out.trans ⟨rfl, rfl, rfl, Nat.le_refl _, fun _ _ => rfl⟩⟩
        case measure => simp [intOf]; omega
      · have HB : Hid (Below w.heap.size w wr) := hB
        clear hB
        go_wp2
        go_ret
        exact ⟨rfl, HB.out⟩
theorem arr_newB {k : IntKind} {e : TypeId} {w : World} {S : List Int} {cs : List Value} (h : cs = S.map (Value.int k)) : Arr k e (w.alloc (.cells cs.toArray e)) w.heap.size S := by subst h; exact Blk.new e w _
theorem Tryz.e8 : Tryz.prog.underlying 5 = some (.int .u8) := by kernel_rfl
theorem Tryz.str : Tryz.prog.underlying 9 = some .string := by kernel_rfl
/-- A new row of numbers, marked or not, reads them. -/
theorem new_sl {k : IntKind} {e : TypeId} {w : World} (S : List Int) (fr : Nat × Nat) : Sl k (w.alloc (.cells (S.map (Value.int k)).toArray e fr)) (.slice (some ⟨w.heap.size, 0, none⟩) S.length S.length) S :=
  ⟨_, _, rfl, Nat.le_refl _, .inr ⟨w.heap.size, 0, rfl, by simp, fun i hi => by
    rw [cell_of_row _ _ _ (S.map (Value.int k)).toArray e fr (heap_alloc_new _ _)]
    simp [hi]⟩⟩
theorem sl_alloc {k : IntKind} {w : World} {v : Value} {S : List Int} (h : Sl k w v S) (o : Obj) : Sl k (w.alloc o) v S := below_sl ((Below.refl _ _).alloc (Nat.le_refl _) o) h
theorem al1 {w : World} (o : Obj) : Below w.heap.size w (w.alloc o) := (Below.refl _ _).alloc (Nat.le_refl _) o
theorem below_via {B : Nat} {w w1 w2 : World} (h : Below B w w1) (h' : Below w1.heap.size w1 w2) (hB : B ≤ w.heap.size) : Below B w w2 := h.trans (h'.mono (Nat.le_trans hB h.size))
theorem nil_sl (w : World) : Sl .u8 w (.slice none 0 0) [] := ⟨none, 0, rfl, Nat.le_refl _, .inl rfl⟩
theorem nil_u8 : U8s [] := by intro x hx; simp at hx
theorem al2' {a w : World} {o : Obj} (h : Below a.heap.size a w) : Below a.heap.size a (w.alloc o) := h.alloc h.size o
theorem arr_nw {k : IntKind} {e : TypeId} {w : World} {b : Nat} {cs : Array Value} {xs : List Int} (hb : b = w.heap.size) (h : cs = (xs.map (Value.int k)).toArray) : Arr k e (w.alloc (.cells cs e)) b xs := by subst hb; subst h; exact Blk.new e w _
/-- A lent list: a block from B on that holds X, the two marks, and whatever else. -/
def LentR8 (B : Nat) (w : World) (v : Value) (X : List Int) : Prop :=
  ∃ b S, v = .slice (some ⟨b, 0, none⟩) X.length S.length ∧ B ≤ b ∧ Arr .u8 5 w b S ∧ S.take (X.length + 2) = X ++ [90, 165] ∧ X.length + 2 ≤ S.length ∧ S.length ≤ maxLen
theorem LentR8.sl {B : Nat} {w : World} {v : Value} {X : List Int} (h : LentR8 B w v X) : Sl .u8 w v X := by
  obtain ⟨b, S, rfl, _, hA, ht, hl, _⟩ := h
  refine ⟨_, _, rfl, by omega, .inr ⟨b, 0, rfl, hA.lt, ?_⟩⟩
  have h1 := hA.rd 0 X.length (by omega)
  have e : S.take X.length = X := by
    have : (S.take (X.length + 2)).take X.length = S.take X.length := by rw [List.take_take]; congr 1; omega
    rw [← this, ht, List.take_left]
  rw [List.drop_zero, e] at h1; exact h1
theorem LentR8.below {B : Nat} {w w' : World} {v : Value} {X : List Int} (h : LentR8 B w v X) (hb : Below w.heap.size w w') : LentR8 B w' v X := by
  obtain ⟨b, S, rfl, h1, hA, h2⟩ := h
  exact ⟨b, S, rfl, h1, below_arr hb hA.lt hA, h2⟩
theorem LentR8.mono {B B' : Nat} {w : World} {v : Value} {X : List Int} (h : LentR8 B w v X) (hb : B' ≤ B) : LentR8 B' w v X := by
  obtain ⟨b, S, rfl, h1, h2⟩ := h
  exact ⟨b, S, rfl, by omega, h2⟩
set_option maxHeartbeats 1000000 in
theorem Lent8_any (X : List Int) (v : Value) (w : World) (hX : Sl .u8 w v X) (hl : X.length * 1 ≤ 140737488351232) :
    Calls Tryz.prog 10 #[v] w fun e w' => ∃ r, e = .returned r ∧ LentR8 w.heap.size w' r X ∧ Below w.heap.size w w' := by
  obtain ⟨a, c, hv, hc⟩ : ∃ a c, v = .slice a X.length c ∧ X.length ≤ c := by obtain ⟨a, c, h, h', _⟩ := hX; exact ⟨a, c, h, h'⟩
  subst hv
  go_enter Tryz.func10, Tryz.ntmps10
  go_wp2_with (first
    | (at_builtin; replace hr1 := hr1; refine wpList_ap rfl (.tmp 6) (.tmp 7) 25 25 rfl .u8 5 1 Tryz.und8 Tryz.info8 (by decide) w.heap.size _ X rfl (hr1.alloc _) _ [90, 165] rfl (src_sl Tryz.und8 (Arr.sl (S := [90, 165]) (arr_nw rfl rfl))) (by simp; omega) (by have := hB1.size; simp at this ⊢; omega) ?_; intro v2 w2 hr2 hg2; have hB2 := hg2.below (hr1.alloc _) (by have := hB1.size; simp at this ⊢; omega); obtain ⟨b2, S2, hv2, hb2, hA2, hl2, ht2, hm2⟩ := hr2.open (X.length + 2) (by simp) (by omega); subst hv2; clear hr2 hg2)
    | (at_builtin; refine wpList_ap rfl (.tmp 4) (.tmp 5) 25 25 rfl .u8 5 1 Tryz.und8 Tryz.info8 (by decide) w.heap.size _ [] rfl (Row.arr (S := []) (arr_nw rfl rfl) (Nat.le_refl _) (by decide)) _ X rfl (src_sl Tryz.und8 (below_sl (al1 _) hX)) (by simp; omega) (by simp) ?_; intro v1 w1 hr1 hg1; have hB1 := hg1.below (Row.arr (B := w.heap.size) (S := []) (arr_nw rfl rfl) (Nat.le_refl _) (by decide)) (by simp)))
  go_ret
  have hb1 : Below w.heap.size w w1 := (al2' (Below.refl _ _)).trans hB1
  have hb' : Below w.heap.size w w2 := (al2' hb1).trans hB2
  exact ⟨_, rfl, ⟨b2, S2, rfl, hb2, hA2, by simpa using ht2, hl2, hm2⟩, hb'⟩
set_option maxHeartbeats 1000000 in
theorem Kept8_any {B : Nat} {w : World} (v u : Value) (X : List Int) (hv : LentR8 B w v X) (hu : Sl .u8 w u X) (hl : X.length ≤ 140737488351232) :
    Calls Tryz.prog 16 #[v, u] w fun e w' => e = .returned (.bool true) ∧ Below w.heap.size w w' := by
  have hs := hv.sl
  obtain ⟨b, S, rfl, hb, hA, ht, hle, hm⟩ := hv
  obtain ⟨a', c', hu', _⟩ : ∃ a c, u = .slice a X.length c ∧ X.length ≤ c := by obtain ⟨a, c, h, h', _⟩ := hu; exact ⟨a, c, h, h'⟩
  subst hu'
  have e1 : S.getD X.length 0 = 90 := by
    have : (S.take (X.length + 2)).getD X.length 0 = S.getD X.length 0 := by simp [List.getD]
    rw [← this, ht]; simp [List.getD]
  have e2 : S.getD (X.length + 1) 0 = 165 := by
    have : (S.take (X.length + 2)).getD (X.length + 1) 0 = S.getD (X.length + 1) 0 := by simp [List.getD]
    rw [← this, ht]; simp [List.getD]
  have hc1 := hA.cell X.length (by omega)
  have hc2 := hA.cell (X.length + 1) (by omega)
  rw [e1] at hc1; rw [e2] at hc2
  clear e1 e2 ht
  have hmm : (S.length : Int) ≤ 9223372036854775807 := by unfold maxLen at hm; omega
  have hlt := hA.lt
  go_enter Tryz.func16, Tryz.ntmps16
  go_wp2_with (first
    | (go_at_call 14; refine (SameBytes_any _ _ X hs hu (by omega)).mono ?_; rintro e w' ⟨rfl, hB⟩; rw [← hB.cell (p := ⟨b, X.length, none⟩) hlt] at hc1; rw [← hB.cell (p := ⟨b, X.length + 1, none⟩) hlt] at hc2))
  go_ret
  exact ⟨rfl, hB⟩
theorem Lent8_n (X : List Int) (v : Value) (w : World) (n : Nat) (hn : X.length = n) (hX : Sl .u8 w v X) (hl : n ≤ 65536) :
    Calls Tryz.prog 10 #[v] w fun e w' => ∃ b S c, e = .returned (.slice (some ⟨b, 0, none⟩) n c) ∧ LentR8 w.heap.size w' (.slice (some ⟨b, 0, none⟩) n c) X ∧ w.heap.size ≤ b ∧ Arr .u8 5 w' b S ∧ n ≤ S.length ∧ Below w.heap.size w w' := by
  subst hn
  refine (Lent8_any X v w hX (by omega)).mono ?_
  rintro e w' ⟨r, rfl, h, hb⟩
  obtain ⟨b, S, rfl, h1, hA, h2, h3, h4⟩ := h
  exact ⟨b, S, _, rfl, ⟨b, S, rfl, h1, hA, h2, h3, h4⟩, h1, hA, by omega, hb⟩
theorem new1 {w : World} {e : TypeId} (x : Int) : Sl .u8 (w.alloc (.cells #[.int .u8 x] e)) (.slice (some ⟨w.heap.size, 0, none⟩) 1 1) [x] := new_sl [x] (0, 0)
theorem row0 {w : World} : Row .u8 5 w.heap.size (w.alloc (.cells #[] 5)) (.slice (some ⟨w.heap.size, 0, none⟩) 0 0) [] := Row.arr (S := []) (Blk.new 5 w []) (Nat.le_refl _) (by decide)
theorem al2 {a w : World} {o : Obj} (h : Below a.heap.size a w) : Below a.heap.size a (w.alloc o) := h.alloc h.size o
end Go.Proofs.YtndoibmpnhkmpaaGreatDoor
/-
  Der: the page's examples of numbers.
-/
namespace Go.Proofs.YtndoibmpnhkmpaaGreatDoor
open Go.RowKit
theorem int_val : bits BinOp.or IntKind.i64 (wrap64 (wrap64 (IntKind.i8.wrap 255) * 256)) 127 = -129 := by decide +kernel
end Go.Proofs.YtndoibmpnhkmpaaGreatDoor
/-
  Der: the reader's next byte.
-/
namespace Go.Proofs.YtndoibmpnhkmpaaGreatDoor
open Go.RowKit
theorem wp_gen {P : Program} {c : Code} {Q : Exit → Act → World → Prop} {a : Act} {W : World} (R : World → Prop) (hR : R W) (h : ∀ W', R W' → Code.wp P c Q a W') : Code.wp P c Q a W := h W hR
set_option maxHeartbeats 1000000 in
theorem isHead_ok {w : World} (cl tg : Int) (h0 : 0 ≤ cl) (h1 : cl ≤ 3) (h2 : 1 ≤ tg) (h3 : tg ≤ 30) :
    Calls Tryz.prog 131 #[.int .i64 cl, .int .i64 tg] w fun e w' => e = .returned (.bool true) ∧ w = w' := by
  have h4 : ¬ tg = 0 := by omega
  have h5 : (tg != 0) = true := by simpa using h4
  clear h4
  by_cases h : cl = 0
  · subst h
    go_enter Tryz.func131, Tryz.ntmps131
    go_wp2
    go_ret
    exact ⟨rfl, rfl⟩
  · have h6 : (cl != 0) = true := by simpa using h
    go_enter Tryz.func131, Tryz.ntmps131
    go_wp2
    go_ret
    exact ⟨rfl, rfl⟩
/-- A function with two results, the first in a block of its own. -/
theorem results_blk2 {P : Program} {fn : Func} {T : TypeId} {t u : Tmp} (h : fn.results = #[.cell t T, .tmp u]) {a : Array Value} {w : World} {b : Nat} {cs : List Value} {d : TypeDesc} {v : Value} (ha : a.getD t undef = .pointer (some ⟨b, 0, none⟩))
    (hb : Blk T w b cs) (hu : P.underlying T = some d) (hd : d.isRow = true) (hi : (P.info? T).map (·.size) = some cs.length) (hv : a.getD u undef = v) : (results fn a).run P w = .ok (.tuple #[.agg cs.toArray, v]) w := by
  have := run_loadVar_mid (P := P) w b 0 T cs d hb.whole hu hd hi
  have ha' : a[t]?.getD undef = .pointer (some ⟨b, 0, none⟩) := by simpa using ha
  have hv' : a[u]?.getD undef = v := by simpa using hv
  simp [results, h, ha', asAddr, this, hv']
theorem Upd.old {w w1 w2 : World} {o : Obj} {g : Nat} (h : Upd (w.alloc o) w1 g) (h2 : Upd w1 w2 w.heap.size) : Upd w w2 g := by
  have hs := (al1 (w := w) o).size
  have h1 := h.size
  refine ⟨h2.os.trans h.os, h2.tape.trans h.tape, h2.output.trans h.output, by have := h2.size; omega, fun j hj hne => ?_⟩
  rw [h2.block j (by omega) (fun e => by simp at e; omega), h.block j (by omega) hne]
  exact (al1 (w := w) o).block j hj
end Go.Proofs.YtndoibmpnhkmpaaGreatDoor
/-
  Der: decimal numbers of the page's example.
-/
namespace Go.Proofs.YtndoibmpnhkmpaaGreatDoor
open Go.RowKit
end Go.Proofs.YtndoibmpnhkmpaaGreatDoor
/-
  append of elements of m cells each (structs), in the words of Blk.
-/
namespace Go.Proofs.YtndoibmpnhkmpaaGreatDoor
open Go.RowKit

/-- A slice of the call's own whose n elements have m cells each: memory from block B on, the head of a whole block, or nil; its cells are xs. -/
def MRow (m : Nat) (e : TypeId) (B : Nat) (w : World) (v : Value) (n : Nat) (xs : List Value) : Prop :=
  xs.length = n * m ∧ ((v = .slice none 0 0 ∧ n = 0) ∨ ∃ b S c, v = .slice (some ⟨b, 0, none⟩) n c ∧ B ≤ b ∧ Blk e w b S ∧ S.length = c * m ∧ n ≤ c ∧ S.take (n * m) = xs ∧ c ≤ maxLen)
/-- What an append has done: only new memory, or the spare room of v's block has been written. -/
def MGrew (e : TypeId) (w w' : World) (v : Value) : Prop :=
  Below w.heap.size w w' ∨ ∃ b n c S, v = .slice (some ⟨b, 0, none⟩) n c ∧ Blk e w b S ∧ Upd w w' b
theorem MRow.nil (m : Nat) (e : TypeId) (B : Nat) (w : World) : MRow m e B w (.slice none 0 0) 0 [] := ⟨by simp, .inl ⟨rfl, rfl⟩⟩
theorem MRow.below {m : Nat} {e : TypeId} {B : Nat} {w w' : World} {v : Value} {n : Nat} {xs : List Value} (h : MRow m e B w v n xs) (hb : Below w.heap.size w w') : MRow m e B w' v n xs := by
  obtain ⟨h0, h⟩ := h
  refine ⟨h0, ?_⟩
  rcases h with h | ⟨b, S, c, rfl, h1, hA, h2⟩
  · exact .inl h
  · exact .inr ⟨b, S, c, rfl, h1, below_blk hb hA.lt hA, h2⟩
theorem MRow.ne {m : Nat} {e : TypeId} {B : Nat} {w : World} {v : Value} {n : Nat} {xs : List Value} (h : MRow m e B w v n xs) : ∃ a c, v = .slice a n c := by
  rcases h with ⟨_, ⟨rfl, rfl⟩ | ⟨b, S, c, rfl, _⟩⟩
  · exact ⟨_, _, rfl⟩
  · exact ⟨_, _, rfl⟩
theorem MRow.alloc {m : Nat} {e : TypeId} {B : Nat} {w : World} {v : Value} {n : Nat} {xs : List Value} (h : MRow m e B w v n xs) (o : Obj) : MRow m e B (w.alloc o) v n xs :=
  h.below ((Below.refl _ _).alloc (Nat.le_refl _) o)
theorem MGrew.below {m : Nat} {e : TypeId} {B : Nat} {w w' : World} {v : Value} {n : Nat} {xs : List Value} (h : MGrew e w w' v) (hr : MRow m e B w v n xs) (hB : B ≤ w.heap.size) : Below B w w' := by
  rcases h with h | ⟨b, n', c', S, rfl, _, hU⟩
  · exact h.mono hB
  · rcases hr with ⟨_, ⟨h, _⟩ | ⟨b', S', c, h, hb, _⟩⟩
    · cases h
    · simp only [Value.slice.injEq, Option.some.injEq, Addr.mk.injEq, and_true] at h
      obtain ⟨rfl, _, _⟩ := h
      exact hU.below (Below.refl _ _) hB hb
theorem run_apm {P : Program} (w : World) (t tx ty e : TypeId) (i : TypeInfo) (m : Nat) (z : Value) (ht : P.underlying t = some (.slice e)) (hi : P.info? e = some i) (hz : i.zero = some z) (hsize : i.size = m) (hzs : z.cells.size = m) (hby : 0 < i.bytes)
    {B : Nat} {v : Value} {n : Nat} {xs : List Value} (hr : MRow m e B w v n xs) {x : Value} {k : Nat} {ys : List Value} (hs : Src P m tx x k ys w)
    (hb : (n + k) * i.bytes ≤ 140737488355328) (hB : B ≤ w.heap.size) :
    ∃ v' w', (Builtin.append_ #[t, tx] ty #[v, x]).run P w = .ok v' w' ∧ MRow m e B w' v' (n + k) (xs ++ ys) ∧ MGrew e w w' v := by
  have hle : n + k ≤ 140737488355328 := Nat.le_trans (Nat.le_mul_of_pos_right _ hby) hb
  have hs1 : Src P i.size tx x k ys w := by rw [hsize]; exact hs
  obtain ⟨hxl, hr⟩ := hr
  have hxy : (xs ++ ys).length = (n + k) * m := by rw [List.length_append, hxl, hs.newsLen, Nat.add_mul]
  have grown : ∀ (base : Option Addr) (old : Nat), old < n + k → (Builtin.firstCells i.size n (.slice base n old)).run P w.drew = .ok xs.toArray w.drew →
      ∃ v' w', (Builtin.append_ #[t, tx] ty #[.slice base n old, x]).run P w = .ok v' w' ∧ MRow m e B w' v' (n + k) (xs ++ ys) ∧ MGrew e w w' (.slice base n old) := by
    intro base old ho hold
    have h1 := run_append_grow_src (P := P) w t tx ty e i z ht hi hz base n old _ hold x k _ hs1 ho (by omega) (growslice_fits (by omega) hb)
    refine ⟨_, _, h1, ⟨hxy, ?_⟩, .inl ((Below.refl _ _).drew.alloc (Nat.le_refl _) _)⟩
    have hge := grownCap_ge w (n + k) old e
    have hcm : grownCap w (n + k) old e ≤ maxLen := grownCap_le_maxLen w _ old e (by unfold maxLen; omega)
    refine .inr ⟨w.heap.size, xs ++ ys ++ (Builtin.zeroCells z.cells (grownCap w (n + k) old e - (n + k))).toList, grownCap w (n + k) old e, rfl, hB, ?_, ?_, hge, ?_, hcm⟩
    · unfold Blk
      have := heap_alloc_new w.drew (.cells ((xs ++ ys).toArray ++ Builtin.zeroCells z.cells (grownCap w (n + k) old e - (n + k))) e)
      rw [show (w.drew.heap.size) = w.heap.size from rfl] at this
      rw [this]; simp
    · rw [List.length_append, hxy]
      simp only [Builtin.zeroCells, Array.length_toList, Array.size_map, Array.size_range, hzs]
      rw [← Nat.add_mul]; congr 1; omega
    · exact List.take_left' hxy
  rcases hr with ⟨rfl, rfl⟩ | ⟨b, S, c, rfl, hBb, hA, hSl, hl, htk, hm⟩
  · have hx0 : xs = [] := List.eq_nil_of_length_eq_zero (by simpa using hxl)
    subst hx0
    by_cases h0 : k = 0
    · subst h0
      have hy : ys = [] := List.eq_nil_of_length_eq_zero (by simpa using hs.newsLen)
      subst hy
      refine ⟨.slice none 0 0, w, ?_, ⟨by simp, .inl ⟨rfl, rfl⟩⟩, .inl (Below.refl _ _)⟩
      have h1 := hs1.cells
      have h2 := hs1.len
      rcases hs1.kind with ⟨e', hk⟩ | hk
      · simp [Builtin.append_, run_underlying ht, run_underlying hk, sizeOf, typeInfo, hi, h2, h1]
      · simp [Builtin.append_, run_underlying ht, run_underlying hk, sizeOf, typeInfo, hi, h2, h1]
    · exact grown none 0 (by omega) (run_firstCells_none w.drew i.size 0 0 0)
  · by_cases hroom : n + k ≤ c
    · have hkm : n * m + k * m ≤ c * m := by rw [← Nat.add_mul]; exact Nat.mul_le_mul_right _ hroom
      have hst := run_storeCells_at P b (n * i.size) e ys 0 _ w hA (by rw [hsize, hs.newsLen, List.size_toArray, hSl]; omega) hs1.one
      simp only [Nat.add_zero] at hst
      have hrun : (Builtin.append_ #[t, tx] ty #[.slice (some ⟨b, 0, none⟩) n c, x]).run P w = .ok (.slice (some ⟨b, 0, none⟩) (n + k) c) (w.setRow b ((S.toArray.toList.take (n * i.size)) ++ ys ++ (S.toArray.toList.drop (n * i.size + ys.length))).toArray) := by
        rcases hs1.kind with ⟨e', hk⟩ | hk <;> simp [Builtin.append_, run_underlying ht, run_underlying hk, sizeOf, typeInfo, hi, hs1.len, hroom, hs1.cells, Addr.add_lit, hst]
      have hA' : Blk e (w.setRow b ((S.toArray.toList.take (n * i.size)) ++ ys ++ (S.toArray.toList.drop (n * i.size + ys.length))).toArray) b (S.take (n * m) ++ ys ++ S.drop (n * m + k * m)) := by
        unfold Blk
        rw [setRow_heap w b _ _ e _ hA]
        simp [hsize, hs.newsLen]
      refine ⟨_, _, hrun, ⟨hxy, .inr ⟨b, _, c, rfl, hBb, hA', ?_, hroom, ?_, hm⟩⟩, .inr ⟨b, n, c, S, rfl, hA, ⟨rfl, rfl, rfl, by simp [World.setRow], fun j _ hj => setRow_other w b j _ (fun e => hj (by simp [e]))⟩⟩⟩
      · rw [List.length_append, htk, hxy, List.length_drop, hSl, Nat.add_mul]; omega
      · rw [htk]; exact List.take_left' hxy
    · refine grown (some ⟨b, 0, none⟩) c (by omega) (run_firstCells_some w.drew i.size n ⟨b, 0, none⟩ n c _ (by rw [hsize]; exact hxl) (fun j u hj => ?_))
      have hj' : j < xs.length := (List.getElem?_eq_some_iff.1 hj).1
      have hadd : (⟨b, 0, none⟩ : Addr).add j = ⟨b, j, none⟩ := by simp [Addr.add] <;> omega
      have e1 : (w.drew).cell? ⟨b, j, none⟩ = w.cell? ⟨b, j, none⟩ := rfl
      rw [hadd, e1, hA.cell j, ← hj, ← htk, List.getElem?_take, if_pos (by omega)]

theorem wpList_apm {P : Program} {w : World} {ops : Array Oper} {rest : List Oper} {o : Oper} {a : Act} {Q : Exit → Act → World → Prop} (hgd : o.guard = none) (s x : Operand) (t tx : TypeId)
    (ho : o.op = .call { callee := .builtin .append, args := #[s, x], argTypes := #[t, tx] }) (m : Nat) (z : Value) (hzs : z.cells.size = m) (e : TypeId) (bytes : Nat) (ht : P.underlying t = some (.slice e))
    (hi : (P.info? e).map (fun i => (i.zero, i.size, i.bytes)) = some (some z, m, bytes)) (hby : 0 < bytes)
    (B : Nat) (v : Value) (n : Nat) (xs : List Value) (hs : a.eval s = v) (hr : MRow m e B w v n xs) (u : Value) (k : Nat) (ys : List Value) (hx : a.eval x = u) (hy : Src P m tx u k ys w)
    (hb : (n + k) * bytes ≤ 140737488355328) (hB : B ≤ w.heap.size)
    (h : ∀ v' w', MRow m e B w' v' (n + k) (xs ++ ys) → MGrew e w w' v → wpList P ops Q rest (a.put o.dst v') w') : wpList P ops Q (o :: rest) a w := by
  obtain ⟨i0, hi0, hz0, hz1, hz2⟩ := info_parts hi
  refine wpList_plain hgd fun K hK => ?_
  obtain ⟨v', w', hrun, h2, h3⟩ := run_apm (P := P) w t tx o.type e i0 m z ht hi0 hz0 hz1 hzs (by omega) hr hy (by rw [hz2]; exact hb) hB
  unfold Oper.wp execOp
  simp only [ho, resolve, invoke, builtin, Sem.run_bind, Sem.run_pure, Result.andThen_ok, List.map_toArray, List.map_cons, List.map_nil, hs, hx, hrun]
  exact hK _ _ (h v' w' h2 h3)
end Go.Proofs.YtndoibmpnhkmpaaGreatDoor
/-
  Der: a short length; bytes copied; a short element.
-/
namespace Go.Proofs.YtndoibmpnhkmpaaGreatDoor
open Go.RowKit
end Go.Proofs.YtndoibmpnhkmpaaGreatDoor
/-
  Der: a short element.
-/
namespace Go.Proofs.YtndoibmpnhkmpaaGreatDoor
open Go.RowKit
theorem rd_sl {w : World} {b c : Nat} {M : List Int} (hb : b < w.heap.size) (hr : Rd .u8 w b 0 M) (i j : Nat) (hij : i ≤ j) (hj : j ≤ M.length) (hc : j ≤ c) : Sl .u8 w (.slice (if c = i then some ⟨b, 0, none⟩ else some ⟨b, i, none⟩) (j - i) (c - i)) ((M.drop i).take (j - i)) := by
  have hl : ((M.drop i).take (j - i)).length = j - i := by rw [List.length_take, List.length_drop]; omega
  refine ⟨_, _, by rw [hl], by omega, ?_⟩
  by_cases h : c = i
  · exact .inl (List.eq_nil_of_length_eq_zero (by omega))
  · rw [if_neg h]
    refine .inr ⟨b, i, rfl, hb, fun k hk => ?_⟩
    have := hr (i + k) (by omega)
    rw [Nat.zero_add] at this
    rw [this, List.getD_eq_getElem?_getD, List.getD_eq_getElem?_getD, List.getElem?_take, if_pos (by omega), List.getElem?_drop]
theorem Row.upd {k : IntKind} {e : TypeId} {B : Nat} {w w' : World} {v : Value} {xs : List Int} {g : Nat} (h : Row k e B w v xs) (hu : Upd w w' g) (hg : g < B) : Row k e B w' v xs := by
  rcases h with h | ⟨b, S, rfl, h1, hA, h2⟩
  · exact .inl h
  · exact .inr ⟨b, S, rfl, h1, hu.arr hA (by omega), h2⟩
theorem Upd.more {w w1 w2 : World} {g m : Nat} (h1 : Upd w w1 g) (hu : Upd w1 w2 m) (hm : w.heap.size ≤ m) : Upd w w2 g :=
  ⟨hu.os.trans h1.os, hu.tape.trans h1.tape, hu.output.trans h1.output, Nat.le_trans h1.size hu.size, fun j hj hne => (hu.block j (Nat.lt_of_lt_of_le hj h1.size) (fun e => by simp at e; omega)).trans (h1.block j hj hne)⟩
theorem Below.upd {w w' : World} {g : Nat} (h : Below w.heap.size w w') : Upd w w' g := ⟨h.os, h.tape, h.output, h.size, fun j hj _ => h.block j hj⟩
end Go.Proofs.YtndoibmpnhkmpaaGreatDoor
/-
  Der: the page's example of a row of elements.
-/
namespace Go.Proofs.YtndoibmpnhkmpaaGreatDoor
open Go.RowKit
abbrev zeroT : Value := .agg #[.int .i64 0, .int .i64 0, .bool false, .slice none 0 0, .slice none 0 0]
theorem src_m {P : Program} {tx e' T : TypeId} (hk : P.underlying tx = some (.slice e')) {w : World} {b : Nat} (m : Nat) {vs : List Value} (h : Blk T w b vs) (hl : vs.length = 1 * m) (ho : ∀ u ∈ vs, u.oneCell' = true) : Src P m tx (.slice (some ⟨b, 0, none⟩) 1 1) 1 vs w := by
  refine Src.ofSlice w hk _ _ _ _ hl (fun j u hj => ?_) ho
  have hadd : (⟨b, 0, none⟩ : Addr).add j = ⟨b, j, none⟩ := by simp [Addr.add] <;> omega
  rw [hadd, h.cell j, hj]
theorem blk_nw {e : TypeId} {w : World} {b : Nat} {cs : Array Value} {xs : List Value} (hb : b = w.heap.size) (h : cs = xs.toArray) : Blk e (w.alloc (.cells cs e)) b xs := by subst hb; subst h; exact Blk.new e w _
theorem MRow.upd {m : Nat} {e : TypeId} {B : Nat} {w w' : World} {v : Value} {n : Nat} {xs : List Value} {g : Nat} (h : MRow m e B w v n xs) (hu : Upd w w' g) (hg : g < B) : MRow m e B w' v n xs := by
  obtain ⟨h0, h⟩ := h
  refine ⟨h0, ?_⟩
  rcases h with h | ⟨b, S, c, rfl, h1, hA, h2⟩
  · exact .inl h
  · exact .inr ⟨b, S, c, rfl, h1, hu.blk hA (by omega), h2⟩
theorem MRow.at {m : Nat} {e : TypeId} {B : Nat} {w : World} {v : Value} {n : Nat} {xs : List Value} (h : MRow m e B w v n xs) (hn : 0 < n) : ∃ b c, v = .slice (some ⟨b, 0, none⟩) n c ∧ n ≤ c ∧ B ≤ b ∧ b < w.heap.size ∧ ∀ i, i < n * m → w.cell? ⟨b, i, none⟩ = xs[i]? := by
  obtain ⟨h0, h⟩ := h
  rcases h with ⟨_, h⟩ | ⟨b, S, c, rfl, h1, hA, h2, h3, h4, h5⟩
  · omega
  · refine ⟨b, c, rfl, h3, h1, hA.lt, fun i hi => ?_⟩
    rw [hA.cell i, ← h4, List.getElem?_take, if_pos hi]
theorem tlv_one (a b : Int) (c : Bool) (a1 a2 : Option Addr) (n1 n2 c1 c2 : Nat) : ∀ u ∈ [Value.int .i64 a, .int .i64 b, .bool c, .slice a1 n1 c1, .slice a2 n2 c2], u.oneCell' = true := by
  intro u hu
  simp only [List.mem_cons, List.not_mem_nil, or_false] at hu
  rcases hu with rfl | rfl | rfl | rfl | rfl <;> rfl
def exM : List Int := [2, 1, 5, 48, 2, 5, 0]
end Go.Proofs.YtndoibmpnhkmpaaGreatDoor
/-
  Der: the page's example of an object identifier, its numbers.
-/
namespace Go.Proofs.YtndoibmpnhkmpaaGreatDoor
open Go.RowKit
theorem Tryz.und64 : Tryz.prog.underlying 88 = some (.slice 79) := by kernel_rfl
theorem Tryz.info64 : (Tryz.prog.info? 79).map (fun i => (i.zero, i.size, i.bytes)) = some (some (.int .u64 0), 1, 8) := by kernel_rfl
theorem new64 {w : World} {e : TypeId} (x : Int) : Sl .u64 (w.alloc (.cells #[.int .u64 x] e)) (.slice (some ⟨w.heap.size, 0, none⟩) 1 1) [x] := new_sl [x] (0, 0)
theorem and7_42 : bits .and .u8 42 127 = 42 := by decide +kernel
theorem and7_134 : bits .and .u8 134 127 = 6 := by decide +kernel
theorem and7_72 : bits .and .u8 72 127 = 72 := by decide +kernel
theorem or_42 : bits .or .u64 0 42 = 42 := by decide +kernel
theorem or_6 : bits .or .u64 0 6 = 6 := by decide +kernel
theorem or_840 : bits .or .u64 768 72 = 840 := by decide +kernel
end Go.Proofs.YtndoibmpnhkmpaaGreatDoor
/-
  Der: decimal digits appended; the page's example of an object identifier.
-/
namespace Go.Proofs.YtndoibmpnhkmpaaGreatDoor
open Go.RowKit
theorem src_49 {w : World} : Src Tryz.prog 1 9 (.string ⟨#[49]⟩) [(49 : Int)].length ([(49 : Int)].map (Value.int .u8)) w := Src.ofString w Tryz.str ⟨#[49]⟩
theorem src_50 {w : World} : Src Tryz.prog 1 9 (.string ⟨#[50]⟩) [(50 : Int)].length ([(50 : Int)].map (Value.int .u8)) w := Src.ofString w Tryz.str ⟨#[50]⟩
end Go.Proofs.YtndoibmpnhkmpaaGreatDoor
/-
  Der: the page's example of an object identifier.
-/
namespace Go.Proofs.YtndoibmpnhkmpaaGreatDoor
open Go.RowKit
theorem Max_live {w : World} (b c : Nat) (x y : Int) (hxy : x < y) (h0 : w.cell? ⟨b, 0, none⟩ = some (.int .u64 x)) (h1 : w.cell? ⟨b, 1, none⟩ = some (.int .u64 y)) :
    Calls Tryz.prog 119 #[.slice (some ⟨b, 0, none⟩) 2 c] w fun e w' => e = .returned (.int .u64 y) ∧ w = w' := by
  have hm : max x y = y := by omega
  go_enter Tryz.func119, Tryz.ntmps119
  go_wp2_with fail
  refine wp_loop_rounds 2 ?_
  rw [rounds_succ]
  go_wp2_with fail
  rw [rounds_succ]
  go_wp2
  go_ret
  exact ⟨rfl, rfl⟩
theorem row_str {w : World} {B : Nat} {v : Value} {xs : List Int} {n : Nat} (h : Row .u8 5 B w v xs) (hn : xs.length = n) (h0 : 0 < n) : ∃ b c, v = .slice (some ⟨b, 0, none⟩) n c ∧ Sem.run Tryz.prog (convert 25 9 (.slice (some ⟨b, 0, none⟩) n c)) w = .ok (.string (strOfNums xs)) w := by
  obtain ⟨b, S, rfl, _, hA, hl, ht, _⟩ := h.open n hn h0
  refine ⟨b, _, rfl, run_convert_bytes_arg w _ _ Tryz.und8 Tryz.e8 b 0 n _ xs hn (fun i hi => ?_) _ Tryz.str⟩
  have e : S.getD i 0 = xs.getD i 0 := by
    rw [List.getD_eq_getElem?_getD, List.getD_eq_getElem?_getD, ← ht, List.getElem?_take, if_pos hi]
  rw [Nat.zero_add, hA.cell i (by omega), e]
end Go.Proofs.YtndoibmpnhkmpaaGreatDoor
/-
  Der: the page's example of an object identifier laid.
-/
namespace Go.Proofs.YtndoibmpnhkmpaaGreatDoor
open Go.RowKit
theorem or_136 : bits .or .u8 8 128 = 136 := by decide +kernel
theorem and_55 : bits .and .u64 1079 127 = 55 := by decide +kernel
set_option maxRecDepth 20000 in
set_option maxHeartbeats 2000000 in
theorem sevens_live {w : World} : Calls Tryz.prog 120 #[.slice none 0 0, .int .u64 1079] w fun e w' => ∃ r, e = .returned r ∧ Row .u8 5 w.heap.size w' r [136, 55] ∧ Below w.heap.size w w' := by
  have o1 := or_136
  have a1 := and_55
  go_enter Tryz.func120, Tryz.ntmps120
  go_wp2_with fail
  refine wp_loop_rounds 2 ?_
  rw [rounds_succ]
  go_wp2_with fail
  rw [rounds_succ]
  go_wp2_with fail
  refine wp_loop_rounds 2 ?_
  rw [rounds_succ]
  go_wp2_with (at_builtin; refine wpList_ap rfl (.tmp 16) (.tmp 22) 25 25 rfl .u8 5 1 Tryz.und8 Tryz.info8 (by decide) w.heap.size _ [] rfl (Row.nil _ _ _ _) _ [136] rfl (src_sl Tryz.und8 (new1 136)) (by decide) (by simp) ?_; intro v1 w1 hr hg)
  have hb1 : Below w.heap.size w w1 := (al1 _).trans (hg.below (Row.nil _ _ w.heap.size _) (by simp))
  have H1 : Hid (Row .u8 5 w.heap.size w1 v1 [136] ∧ Below w.heap.size w w1) := ⟨hr, hb1⟩
  clear hr hg hb1
  rw [rounds_succ]
  go_wp2_with (at_builtin; refine wpList_ap rfl (.tmp 24) (.tmp 28) 25 25 rfl .u8 5 1 Tryz.und8 Tryz.info8 (by decide) w.heap.size _ [136] rfl (H1.out.1.alloc _) _ [55] rfl (src_sl Tryz.und8 (new1 55)) (by decide) (by have := H1.out.2.size; simp; omega) ?_; intro v2 w2 hr hg)
  have hb2 : Below w.heap.size w w2 := (H1.out.2.alloc H1.out.2.size _).trans (hg.below (H1.out.1.alloc _) (by have := H1.out.2.size; simp; omega))
  go_ret
  exact ⟨_, rfl, hr, hb2⟩
abbrev exS : ByteArray := ⟨#[50, 46, 57, 57, 57]⟩
def It (w W : World) (pos : Nat) : Prop := W.heap[w.heap.size]? = some (.stringIter exS pos) ∧ Below w.heap.size w W
theorem It.step {w W : World} {pos : Nat} (h : It w W pos) (pos' : Nat) : It w (W.iterAt w.heap.size exS pos') pos' := ⟨Lib.iterAt_heap W _ exS pos pos' h.1, Lib.below_iterAt h.2 (Nat.le_refl _) _ _⟩
theorem It.below {w W W' : World} {pos : Nat} (h : It w W pos) (hb : Below (w.heap.size + 1) W W') : It w W' pos := ⟨by rw [hb.block _ (by omega)]; exact h.1, h.2.trans (hb.mono (by omega))⟩
theorem It.lt {w W : World} {pos : Nat} (h : It w W pos) : w.heap.size < W.heap.size := (Array.getElem?_eq_some_iff.1 h.1).1
theorem row_iter {k : IntKind} {e : TypeId} {w W : World} {v : Value} {xs : List Int} (pos : Nat) (h : Row k e (w.heap.size + 1) W v xs) : Row k e (w.heap.size + 1) (W.iterAt w.heap.size exS pos) v xs := by
  rcases h with h | ⟨b, S, rfl, h1, hA, h2⟩
  · exact .inl h
  · exact .inr ⟨b, S, rfl, h1, by unfold Arr; rw [Lib.iterAt_other W _ _ exS pos (by omega)]; exact hA, h2⟩
set_option maxRecDepth 20000 in
set_option maxHeartbeats 4000000 in
theorem written_live {w : World} : Calls Tryz.prog 118 #[.string exS] w fun e w' => ∃ r, e = .returned (.tuple #[r, .bool true]) ∧ Row .u64 79 (w.heap.size + 1) w' r [2, 999] ∧ Below w.heap.size w w' := by
  go_enter Tryz.func118, Tryz.ntmps118
  go_wp2_with fail
  refine wp_loop_rounds 6 ?_
  rw [rounds_succ]
  refine wp_gen (fun W => It w W 0) ⟨by rw [World.iter_heap], al1 _⟩ ?_
  intro v0 h0
  have H0 : Hid (It w v0 0 ∧ True) := ⟨h0, trivial⟩
  clear h0
  have hn : Sem.run Tryz.prog (Instr.next (.pointer (some ⟨w.heap.size, 0, none⟩)) true 0) v0 = .ok (.tuple #[.bool true, .int .i64 0, .int .i32 50]) (v0.iterAt w.heap.size exS 1) := Lib.run_next_ascii_at v0 w.heap.size exS 0 0 H0.out.1.1 (by decide) (by decide)
  go_wp2_with fail
  rw [rounds_succ]
  refine wp_gen (fun W => It w W 1) (H0.out.1.step 1) ?_
  clear hn
  intro v1 h1
  have H1 : Hid (It w v1 1 ∧ True) := ⟨h1, trivial⟩
  clear h1
  have hn : Sem.run Tryz.prog (Instr.next (.pointer (some ⟨w.heap.size, 0, none⟩)) true 0) v1 = .ok (.tuple #[.bool true, .int .i64 1, .int .i32 46]) (v1.iterAt w.heap.size exS 2) := Lib.run_next_ascii_at v1 w.heap.size exS 1 0 H1.out.1.1 (by decide) (by decide)
  go_wp2_with (at_builtin; refine wpList_ap rfl (.tmp 29) (.tmp 31) 88 88 rfl .u64 79 8 Tryz.und64 Tryz.info64 (by decide) (w.heap.size + 1) _ [] rfl (Row.nil _ _ _ _) _ [2] rfl (src_sl Tryz.und64 (new64 2)) (by decide) (by have := (H1.out.1.step 2).lt; simp; omega) ?_; intro u1 v2 hr hg)
  have hlt1 := (H1.out.1.step 2).lt
  have hb2 : Below (w.heap.size + 1) _ v2 := hg.below (Row.nil _ _ (w.heap.size + 1) _) (by simp; omega)
  obtain ⟨a1, c1, hv⟩ := hr.ne
  replace hv : u1 = .slice a1 1 c1 := hv
  subst hv
  have H2 : Hid (It w v2 2 ∧ Row .u64 79 (w.heap.size + 1) v2 (.slice a1 1 c1) [2]) := ⟨((H1.out.1.step 2).below ((Below.refl _ _).alloc hlt1 _)).below hb2, hr⟩
  clear hr hg hb2 hn
  rw [rounds_succ]
  have hn : Sem.run Tryz.prog (Instr.next (.pointer (some ⟨w.heap.size, 0, none⟩)) true 0) v2 = .ok (.tuple #[.bool true, .int .i64 2, .int .i32 57]) (v2.iterAt w.heap.size exS 3) := Lib.run_next_ascii_at v2 w.heap.size exS 2 0 H2.out.1.1 (by decide) (by decide)
  go_wp2_with fail
  rw [rounds_succ]
  refine wp_gen (fun W => It w W 3 ∧ Row .u64 79 (w.heap.size + 1) W (.slice a1 1 c1) [2]) ⟨H2.out.1.step 3, row_iter 3 H2.out.2⟩ ?_
  clear hn
  intro v3 h
  have H3 : Hid (It w v3 3 ∧ Row .u64 79 (w.heap.size + 1) v3 (.slice a1 1 c1) [2]) := h
  clear h
  have hn : Sem.run Tryz.prog (Instr.next (.pointer (some ⟨w.heap.size, 0, none⟩)) true 0) v3 = .ok (.tuple #[.bool true, .int .i64 3, .int .i32 57]) (v3.iterAt w.heap.size exS 4) := Lib.run_next_ascii_at v3 w.heap.size exS 3 0 H3.out.1.1 (by decide) (by decide)
  go_wp2_with fail
  rw [rounds_succ]
  refine wp_gen (fun W => It w W 4 ∧ Row .u64 79 (w.heap.size + 1) W (.slice a1 1 c1) [2]) ⟨H3.out.1.step 4, row_iter 4 H3.out.2⟩ ?_
  clear hn
  intro v4 h
  have H4 : Hid (It w v4 4 ∧ Row .u64 79 (w.heap.size + 1) v4 (.slice a1 1 c1) [2]) := h
  clear h
  have hn : Sem.run Tryz.prog (Instr.next (.pointer (some ⟨w.heap.size, 0, none⟩)) true 0) v4 = .ok (.tuple #[.bool true, .int .i64 4, .int .i32 57]) (v4.iterAt w.heap.size exS 5) := Lib.run_next_ascii_at v4 w.heap.size exS 4 0 H4.out.1.1 (by decide) (by decide)
  go_wp2_with fail
  rw [rounds_succ]
  refine wp_gen (fun W => It w W 5 ∧ Row .u64 79 (w.heap.size + 1) W (.slice a1 1 c1) [2]) ⟨H4.out.1.step 5, row_iter 5 H4.out.2⟩ ?_
  clear hn
  intro v5 h
  have H5 : Hid (It w v5 5 ∧ Row .u64 79 (w.heap.size + 1) v5 (.slice a1 1 c1) [2]) := h
  clear h
  have hn : Sem.run Tryz.prog (Instr.next (.pointer (some ⟨w.heap.size, 0, none⟩)) true 0) v5 = .ok (.tuple #[.bool false]) v5 := Lib.run_next_end_at v5 w.heap.size exS 5 0 H5.out.1.1 (by decide)
  go_wp2_with (at_builtin; refine wpList_ap rfl (.tmp 44) (.tmp 46) 88 88 rfl .u64 79 8 Tryz.und64 Tryz.info64 (by decide) (w.heap.size + 1) _ [2] rfl (H5.out.2.alloc _) _ [999] rfl (src_sl Tryz.und64 (new64 999)) (by decide) (by have := H5.out.1.lt; simp; omega) ?_; intro u6 v6 hr hg)
  have hlt5 := H5.out.1.lt
  have hb6 : Below w.heap.size w v6 := (H5.out.1.2.alloc H5.out.1.2.size _).trans ((hg.below (H5.out.2.alloc _) (by simp; omega)).mono (by omega))
  go_ret2
  exact ⟨_, rfl, hr, hb6⟩
set_option maxRecDepth 20000 in
set_option maxHeartbeats 4000000 in
theorem PutOid_live {w : World} : Calls Tryz.prog 97 #[.string exS] w fun e w' => ∃ r, e = .returned (.tuple #[r, .int .i64 0]) ∧ Row .u8 5 w.heap.size w' r [136, 55] ∧ Below w.heap.size w w' := by
  go_enter Tryz.func97, Tryz.ntmps97
  go_wp2_with fail
  refine (written_live (w := w)).mono ?_
  rintro e w1 ⟨r, rfl, hr, hb⟩
  obtain ⟨b1, S1, rfl, hB1, hA1, hl1, ht1, hm1⟩ := hr.open 2 rfl (by omega)
  obtain ⟨k1, hk1⟩ : ∃ k, S1.length = k := ⟨_, rfl⟩
  rw [hk1]
  have g0 : S1.getD 0 0 = 2 := by
    have : (S1.take 2).getD 0 0 = 2 := by rw [ht1]; rfl
    rwa [List.getD_eq_getElem?_getD, List.getElem?_take, if_pos (by omega), ← List.getD_eq_getElem?_getD] at this
  have g1 : S1.getD 1 0 = 999 := by
    have : (S1.take 2).getD 1 0 = 999 := by rw [ht1]; rfl
    rwa [List.getD_eq_getElem?_getD, List.getElem?_take, if_pos (by omega), ← List.getD_eq_getElem?_getD] at this
  have c0 : w1.cell? ⟨b1, 0, none⟩ = some (.int .u64 2) := by rw [hA1.cell 0 (by omega), g0]
  have c1 : w1.cell? ⟨b1, 1, none⟩ = some (.int .u64 999) := by rw [hA1.cell 1 (by omega), g1]
  have hk2 : 2 ≤ k1 := by omega
  have hk3 : (k1 : Int) ≤ 9223372036854775807 := by unfold maxLen at hm1; omega
  have H1 : Hid (Below w.heap.size w w1) := hb
  clear hr hb hA1 hB1 hl1 ht1 hm1 g0 g1 hk1
  go_wp2_with (go_at_call 119; refine (Max_live b1 k1 2 999 (by decide) c0 c1).mono ?_; rintro e w' ⟨rfl, rfl⟩)
  refine wp_region_qsd 8 (by kernel_rfl) (by kernel_rfl) ?_
  simp only [List.take_succ_cons, List.take_zero, List.drop_succ_cons, List.drop_zero]
  repeat (go_big_quiet_step (fail))
  refine wpQuiet_nil ?_
  rintro _ ⟨q2, rfl⟩
  go_wp2_with fail
  refine (sevens_live (w := w1.drewN q2)).mono ?_
  rintro e w2 ⟨r2, rfl, hr2, hb2⟩
  have H2 : Hid (Row .u8 5 w1.heap.size w2 r2 [136, 55] ∧ Below w1.heap.size w1 w2) := ⟨hr2, below_via (below_drewN q2 (Below.refl _ _)) hb2 (Nat.le_refl _)⟩
  clear hr2 hb2 c0 c1
  go_wp2_with fail
  all_goals refine wp_loop_rounds 1 ?_
  all_goals rw [rounds_succ]
  all_goals go_wp2
  all_goals go_ret2
  all_goals exact ⟨_, rfl, H2.out.1.mono H1.out.size, below_via H1.out H2.out.2 (Nat.le_refl _)⟩
end Go.Proofs.YtndoibmpnhkmpaaGreatDoor
/-
  Der: rows of bits.
-/
namespace Go.Proofs.YtndoibmpnhkmpaaGreatDoor
open Go.RowKit
/-- Are these bytes a row of bits? -/
def bitsOk (X : List Int) : Bool :=
  if X.length < 2 then decide (X.length = 1) && decide (X.getD 0 0 = 0) else decide (X.getD 0 0 ≤ 7) && decide (X.getD (X.length - 1) 0 % 2 ^ (X.getD 0 0).toNat = 0)
theorem and_1 (x : Int) (h : U8 x) : bits .and .u8 x 1 = x % 2 := by obtain ⟨h0, h1⟩ := h; go_bits2
theorem and_3 (x : Int) (h : U8 x) : bits .and .u8 x 3 = x % 4 := by obtain ⟨h0, h1⟩ := h; go_bits2
theorem and_7 (x : Int) (h : U8 x) : bits .and .u8 x 7 = x % 8 := by obtain ⟨h0, h1⟩ := h; go_bits2
theorem and_15 (x : Int) (h : U8 x) : bits .and .u8 x 15 = x % 16 := by obtain ⟨h0, h1⟩ := h; go_bits2
theorem and_31 (x : Int) (h : U8 x) : bits .and .u8 x 31 = x % 32 := by obtain ⟨h0, h1⟩ := h; go_bits2
theorem and_63 (x : Int) (h : U8 x) : bits .and .u8 x 63 = x % 64 := by obtain ⟨h0, h1⟩ := h; go_bits2
theorem and_127 (x : Int) (h : U8 x) : bits .and .u8 x 127 = x % 128 := by obtain ⟨h0, h1⟩ := h; go_bits2
theorem and_0 (x : Int) : bits .and .u8 x 0 = 0 := by unfold bits; simp; rfl
theorem wrapI (z : Int) (h0 : 0 ≤ z) (h1 : z < 9223372036854775808) : IntKind.i64.wrap z = z := by rw [IntKind.wrap_i64]; omega
/-- What Bits answers. -/
def BitsAns (B : Nat) (w : World) (X : List Int) (e : Ending) : Prop :=
  (bitsOk X = true ∧ ∃ r, e = .returned (.tuple #[r, .int .i64 (X.getD 0 0), .int .i64 0]) ∧ Row .u8 5 B w r (X.drop 1)) ∨ (bitsOk X = false ∧ e = .returned (.tuple #[.slice none 0 0, .int .i64 0, .int .i64 6]))
theorem bitsOk_pos {X : List Int} (h : bitsOk X = true) : 0 < X.length := by
  unfold bitsOk at h
  by_cases h0 : X.length = 0
  · rw [h0] at h; simp at h
  · omega
theorem sl_tail {w : World} {n c : Nat} {X : List Int} {b off : Nat} (hb : b < w.heap.size) (hr : Rd .u8 w b off X) (hn : X.length = n) (h0 : 0 < n) (hc : n ≤ c) : Sl .u8 w (.slice (if c = 1 then some ⟨b, off, none⟩ else some ⟨b, off + 1, none⟩) (n - 1) (c - 1)) (X.drop 1) := by
  have hl : (X.drop 1).length = n - 1 := by rw [List.length_drop, hn]
  refine ⟨_, _, by rw [hl], by omega, ?_⟩
  by_cases h : c = 1
  · exact .inl (List.eq_nil_of_length_eq_zero (by omega))
  · rw [if_neg h]
    refine .inr ⟨b, off + 1, rfl, hb, fun k hk => ?_⟩
    have := hr (1 + k) (by omega)
    rw [Nat.add_assoc, this, List.getD_eq_getElem?_getD, List.getD_eq_getElem?_getD, List.getElem?_drop]
end Go.Proofs.YtndoibmpnhkmpaaGreatDoor
