/-
  Blocks of cells of any kind (arrays, structs): loaded from and stored into whole or in part.
-/
import Derived.Deep.MidRow
import Derived.Test.YtillkhjihggcjaaGreatDoorK4
namespace Go.Proofs.YtillkhjihggcjaaGreatDoor
open Go.RowKit

/-- Block b is whole, not frozen, and holds cs. -/
def Blk (T : TypeId) (w : World) (b : Nat) (cs : List Value) : Prop := w.heap[b]? = some (.cells cs.toArray T (0, 0))
/-- cs with vs written over it from o on. -/
def over (cs : List Value) (o : Nat) (vs : List Value) : List Value := cs.take o ++ (vs ++ cs.drop (o + vs.length))
theorem Arr.blk {k : IntKind} {e : TypeId} {w : World} {b : Nat} {xs : List Int} (h : Arr k e w b xs) : Blk e w b (xs.map (Value.int k)) := h
theorem Blk.arr {k : IntKind} {e : TypeId} {w : World} {b : Nat} {xs : List Int} (h : Blk e w b (xs.map (Value.int k))) : Arr k e w b xs := h
theorem Blk.lt {T : TypeId} {w : World} {b : Nat} {cs : List Value} (h : Blk T w b cs) : b < w.heap.size := (Array.getElem?_eq_some_iff.1 h).1
theorem Blk.cell {T : TypeId} {w : World} {b : Nat} {cs : List Value} (h : Blk T w b cs) (i : Nat) : w.cell? ⟨b, i, none⟩ = cs[i]? := by
  rw [cell_of_row w b i _ T (0, 0) h]; simp
theorem Blk.frozen {T : TypeId} {w : World} {b : Nat} {cs : List Value} (h : Blk T w b cs) (i : Nat) : w.frozen? ⟨b, i, none⟩ = false := frozen_of_row w b i _ T h
theorem Blk.set {T : TypeId} {w : World} {b : Nat} {cs : List Value} (h : Blk T w b cs) (i : Nat) (v : Value) : Blk T (w.setCell ⟨b, i, none⟩ v) b (cs.set i v) := by
  unfold Blk; rw [heap_setCell_same w b i _ T _ h]; simp
theorem Blk.range {T : TypeId} {w : World} {b : Nat} {cs : List Value} (h : Blk T w b cs) (o : Nat) (vs : List Value) (hv : (cs.drop o).take vs.length = vs) : w.rangeAt b o vs := by
  intro j v hj
  rw [h.cell]
  have hlt : j < vs.length := (List.getElem?_eq_some_iff.1 hj).1
  rw [← hv, List.getElem?_take, if_pos hlt, List.getElem?_drop] at hj
  exact hj
theorem Blk.whole {T : TypeId} {w : World} {b : Nat} {cs : List Value} (h : Blk T w b cs) : w.rangeAt b 0 cs := h.range 0 cs (by simp)
theorem Blk.there {T : TypeId} {w : World} {b : Nat} {cs : List Value} (h : Blk T w b cs) (o n : Nat) (ho : o + n ≤ cs.length) : w.there b o n := by
  intro j hj
  rw [h.cell, h.frozen]
  exact ⟨by simp [show o + j < cs.length by omega], rfl⟩
theorem setCells_blk {T : TypeId} {b : Nat} : ∀ (vs : List Value) (o : Nat) (w : World) (cs : List Value), Blk T w b cs → o + vs.length ≤ cs.length → Blk T (w.setCells b o vs) b (over cs o vs)
  | [], o, w, cs, h, _ => by simpa [over, World.setCells] using h
  | v :: vs, o, w, cs, h, ho => by
    simp only [List.length_cons] at ho
    have h1 := setCells_blk vs (o + 1) _ _ (h.set o v) (by simp; omega)
    simp only [World.setCells]
    have e : over (cs.set o v) (o + 1) vs = over cs o (v :: vs) := by
      unfold over
      rw [List.take_set, List.drop_set_of_lt (by omega), List.take_succ_eq_append_getElem (by omega), List.set_append_right _ _ (by simp; omega)]
      simp [show o ≤ cs.length by omega, Nat.add_assoc, Nat.add_comm 1]
    rw [e] at h1; exact h1
theorem Blk.setCells {T : TypeId} {w : World} {b : Nat} {cs : List Value} (h : Blk T w b cs) (o : Nat) (vs : List Value) (ho : o + vs.length ≤ cs.length) : Blk T (w.setCells b o vs) b (over cs o vs) := setCells_blk vs o w cs h ho
theorem Blk.fill {T : TypeId} {w : World} {b : Nat} {cs : List Value} (h : Blk T w b cs) (vs : List Value) (ho : vs.length = cs.length) : Blk T (w.setCells b 0 vs) b vs := by
  have := h.setCells 0 vs (by omega)
  rw [show over cs 0 vs = vs by simp [over, ho]] at this; exact this
theorem Upd.setCells {b : Nat} : ∀ (vs : List Value) (o : Nat) (w : World), Upd w (w.setCells b o vs) b
  | [], _, w => Upd.refl w b
  | v :: vs, o, w => (Upd.set w b o v).trans (Upd.setCells vs (o + 1) _)
theorem Upd.blk {T : TypeId} {w w' : World} {b b' : Nat} {cs : List Value} (h : Upd w w' b) (ha : Blk T w b' cs) (hne : b' ≠ b) : Blk T w' b' cs := by
  unfold Blk; rw [h.block b' ha.lt (by simp [hne])]; exact ha
theorem below_blk {B : Nat} {T : TypeId} {w w' : World} {b : Nat} {cs : List Value} (h : Below B w w') (hb : b < B) (ha : Blk T w b cs) : Blk T w' b cs := by
  unfold Blk; rw [h.block b hb]; exact ha
theorem Blk.alloc {T : TypeId} {w : World} {b : Nat} {cs : List Value} (h : Blk T w b cs) (o : Obj) : Blk T (w.alloc o) b cs :=
  below_blk ((Below.refl _ _).alloc (Nat.le_refl _) o) h.lt h
theorem Blk.new (T : TypeId) (w : World) (cs : List Value) : Blk T (w.alloc (.cells cs.toArray T)) w.heap.size cs := by
  unfold Blk; rw [heap_alloc_new]
theorem Blk.drewN {T : TypeId} {w : World} {b : Nat} {cs : List Value} (h : Blk T w b cs) (n : Nat) : Blk T (w.drewN n) b cs := h
theorem ints_one (k : IntKind) (xs : List Int) : (xs.map (Value.int k)).toArray.all (·.oneCell') = true :=
  all_oneCell_toArray (fun v hv => by obtain ⟨x, _, rfl⟩ := List.mem_map.1 hv; rfl)
theorem below_drewN {B : Nat} {w w' : World} (n : Nat) (h : Below B w w') : Below B w (w'.drewN n) := h.trans ⟨rfl, rfl, rfl, Nat.le_refl _, fun _ _ => rfl⟩
/-- A function with one result that lies in a block of its own. -/
theorem results_blk {P : Program} {fn : Func} {T : TypeId} {t : Tmp} (h : fn.results = #[.cell t T]) {a : Array Value} {w : World} {b : Nat} {cs : List Value} {d : TypeDesc} (ha : a.getD t undef = .pointer (some ⟨b, 0, none⟩))
    (hb : Blk T w b cs) (hu : P.underlying T = some d) (hd : d.isRow = true) (hi : (P.info? T).map (·.size) = some cs.length) : (results fn a).run P w = .ok (.agg cs.toArray) w := by
  have := run_loadVar_mid (P := P) w b 0 T cs d hb.whole hu hd hi
  have ha' : a[t]?.getD undef = .pointer (some ⟨b, 0, none⟩) := by simpa using ha
  simp [results, h, ha', asAddr, this]
end Go.Proofs.YtillkhjihggcjaaGreatDoor
