/-
  Digest: live: the page's example.
-/
import Derived.Test.YtgipmjpkaemdkaaDoorG20
import Derived.Laws.BytesArg
import Derived.Lib.SlBytesConst
namespace Go.Proofs.YtgipmjpkaemdkaaDoor
open Go.RowKit
theorem arr_newB {k : IntKind} {e : TypeId} {w : World} {S : List Int} {cs : List Value} (h : cs = S.map (Value.int k)) : Arr k e (w.alloc (.cells cs.toArray e)) w.heap.size S := by subst h; exact Blk.new e w _
theorem Arr.sl {k : IntKind} {e : TypeId} {w : World} {b : Nat} {S : List Int} (h : Arr k e w b S) : Sl k w (.slice (some ⟨b, 0, none⟩) S.length S.length) S :=
  ⟨_, _, rfl, Nat.le_refl _, .inr ⟨b, 0, rfl, h.lt, by have := h.rd 0 S.length (by omega); simpa using this⟩⟩
theorem Blk.sls {T : TypeId} {w : World} {b : Nat} {vs : List Value} (h : Blk T w b vs) : SlS w (.slice (some ⟨b, 0, none⟩) vs.length vs.length) vs :=
  ⟨_, _, rfl, Nat.le_refl _, .inr ⟨b, 0, rfl, h.lt, fun i hi => by rw [h.cell]; simp [hi]⟩⟩
theorem bytes3_u8 : U8s [97, 98, 99] := by intro x hx; unfold U8; simp at hx; omega
theorem Tryd.e8 : Tryd.prog.underlying 5 = some (.int .u8) := by kernel_rfl
theorem Tryd.str : Tryd.prog.underlying 9 = some .string := by kernel_rfl
/-- A new row of numbers, marked or not, reads them. -/
theorem new_sl {k : IntKind} {e : TypeId} {w : World} (S : List Int) (fr : Nat × Nat) : Sl k (w.alloc (.cells (S.map (Value.int k)).toArray e fr)) (.slice (some ⟨w.heap.size, 0, none⟩) S.length S.length) S :=
  ⟨_, _, rfl, Nat.le_refl _, .inr ⟨w.heap.size, 0, rfl, by simp, fun i hi => by
    rw [cell_of_row _ _ _ (S.map (Value.int k)).toArray e fr (heap_alloc_new _ _)]
    simp [hi]⟩⟩
theorem sl_alloc {k : IntKind} {w : World} {v : Value} {S : List Int} (h : Sl k w v S) (o : Obj) : Sl k (w.alloc o) v S := below_sl ((Below.refl _ _).alloc (Nat.le_refl _) o) h
theorem msgs1 {w : World} {v : Value} {m : List Int} (h : Sl .u8 w v m) (u : U8s m) : Msgs w [v] [m] := ⟨rfl, fun i hi => by
  obtain rfl : i = 0 := by simp at hi; omega
  exact ⟨h, u⟩⟩
theorem to_str {w : World} {d n : Nat} {xs : List Int} (h : Arr .u8 5 w d xs) (hn : xs.length = n) : Sem.run Tryd.prog (convert 25 9 (.slice (some ⟨d, 0, none⟩) n n)) w = .ok (.string (strOfNums xs)) w :=
  run_convert_bytes_arg w _ _ Tryd.und8 Tryd.e8 d 0 n n xs hn (fun i hi => by rw [Nat.zero_add]; exact h.cell i (by omega)) _ Tryd.str
set_option maxRecDepth 4000 in
set_option maxHeartbeats 1000000 in
theorem live_any {w : World} (hT : Tabs w) : Calls Tryd.prog 10 #[] w fun e w' => e = .returned (.bool true) ∧ Below w.heap.size w w' := by
  have HT : Hid (Tabs w) := hT
  clear hT
  have kc := fun (w : World) (C : Array Value) (n c : Nat) => Lib.run_convert_bytes_const (P := Tryd.prog) w 25 5 C n c Tryd.und8 Tryd.e8
  have HB : Hid (∀ o1 o2 : Obj, Below w.heap.size w ((w.alloc o1).alloc o2)) := fun o1 o2 => ((Below.refl _ _).alloc (Nat.le_refl _) _).alloc (by simp) _
  go_enter Tryd.func10, Tryd.ntmps10
  go_wp2_with (first
    | (go_at_call 12; refine (Sum_any 1 (.inl rfl) (HT.out.below (HB.out _ _)) _ [.slice (some ⟨w.heap.size, 0, none⟩) 3 3] [[97, 98, 99]] (by have := (Blk.new 25 (w.alloc (.cells #[.int .u8 97, .int .u8 98, .int .u8 99] 5 (3, 4))) [.slice (some ⟨w.heap.size, 0, none⟩) 3 3]).sls; simpa using this) (msgs1 (sl_alloc (new_sl [97, 98, 99] (3, 4)) _) bytes3_u8) (by simp) (by simp)).mono ?_; rintro e w2 ⟨d, rfl, hd, hA, hb2⟩
       have hA2 : Arr .u8 5 w2 d [169, 153, 62, 54, 71, 6, 129, 106, 186, 62, 37, 113, 120, 80, 194, 108, 156, 208, 216, 157] := by have := hA; rw [show ([[97, 98, 99]] : List (List Int)).flatten = [97, 98, 99] from rfl, dig_abc] at this; exact this
       have hcv : Sem.run Tryd.prog (convert 25 9 (.slice (some ⟨d, 0, none⟩) 20 20)) w2 = .ok (.string ⟨#[169, 153, 62, 54, 71, 6, 129, 106, 186, 62, 37, 113, 120, 80, 194, 108, 156, 208, 216, 157]⟩) w2 := to_str hA2 rfl
       have HF : Hid (Below w.heap.size w w2) := (HB.out _ _).trans (hb2.mono (HB.out _ _).size)
       rw [show siz 1 = 20 from rfl]
       clear hA hA2 hb2 hd)
    | (go_at_call 16; refine (num_any _ _).mono ?_; rintro e w' ⟨rfl, rfl⟩)
    | (go_at_call 17; refine (Size_any 1).mono ?_; rintro e w' ⟨rfl, rfl⟩; rw [show siz 1 = 20 from rfl]))
  go_ret
  exact ⟨rfl, HF.out⟩
end Go.Proofs.YtgipmjpkaemdkaaDoor
