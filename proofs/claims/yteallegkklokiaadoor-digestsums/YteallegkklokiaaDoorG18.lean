/-
  Digest: New.
-/
import Derived.Test.YteallegkklokiaaDoorG17
namespace Go.Proofs.YteallegkklokiaaDoor
open Go.RowKit
theorem Rd.range {k : IntKind} {w : World} {b off : Nat} {xs : List Int} (h : Rd k w b off xs) : w.rangeAt b off (xs.map (Value.int k)) := by
  intro j v hj
  have hlt : j < xs.length := by have := (List.getElem?_eq_some_iff.1 hj).1; simpa using this
  rw [h j hlt, ← hj]
  simp [hlt]
/-- A Hash that was handed nothing, its state still noughts. -/
def Hs.empty (alg : Int) : Hs := ⟨alg, 0, R8.zero, R8.zero, List.replicate 128 0⟩
theorem R8.zero_ok (U : Int → Prop) (h : U 0) : R8.zero.ok U := ⟨h, h, h, h, h, h, h, h⟩
theorem zeros_u8 (n : Nat) : U8s (List.replicate n 0) := fun x hx => by rw [(List.mem_replicate.1 hx).2]; exact ⟨by decide, by decide⟩
theorem of_ok {U : Int → Prop} {xs : List Int} (h : ∀ i, i < 8 → U (xs.getD i 0)) : (R8.of xs).ok U := ⟨h 0 (by omega), h 1 (by omega), h 2 (by omega), h 3 (by omega), h 4 (by omega), h 5 (by omega), h 6 (by omega), h 7 (by omega)⟩
theorem first1_u : ∀ i, i < 8 → U32 (first1L.getD i 0) := by unfold U32; decide
theorem first256_u : ∀ i, i < 8 → U32 (first256L.getD i 0) := by unfold U32; decide
theorem first384_u : ∀ i, i < 8 → U64 (first384L.getD i 0) := by unfold U64; decide
theorem first512_u : ∀ i, i < 8 → U64 (first512L.getD i 0) := by unfold U64; decide
theorem New_no {w : World} (alg : Int) (ha : ¬ Alg alg) : Calls Tryd.prog 21 #[.int .i64 alg] w fun e w' => e = .returned (.tuple #[.pointer none, .int .i64 1]) ∧ Below w.heap.size w w' := by
  have h1 : ¬ alg = 1 := fun h => ha (.inl h)
  have h2 : ¬ alg = 2 := fun h => ha (.inr (.inl h))
  have h3 : ¬ alg = 3 := fun h => ha (.inr (.inr (.inl h)))
  have h4 : ¬ alg = 4 := fun h => ha (.inr (.inr (.inr h)))
  go_enter Tryd.func21, Tryd.ntmps21
  go_wp2
  go_ret2
  exact ⟨rfl, (Below.refl _ _).alloc (Nat.le_refl _) _⟩

set_option maxRecDepth 4000 in
set_option maxHeartbeats 1000000 in
theorem New_1 {w : World} (hT : Tabs w) : Calls Tryd.prog 21 #[.int .i64 1] w fun e w' => e = .returned (.tuple #[.pointer (some ⟨w.heap.size, 0, none⟩), .int .i64 0]) ∧ HashIs w' w.heap.size 1 [] ∧ Below w.heap.size w w' := by
  have hz7 := hT.size
  have hBa : ∀ o, Below w.heap.size w (w.alloc o) := fun o => (Below.refl _ _).alloc (Nat.le_refl _) o
  have HR : Hid (∀ o, (w.alloc o).rangeAt 0 0 (first1L.map (Value.int .u32))) := fun o => (below_rd (hBa o) (by omega) hT.f1).range
  have HS : Hid ((Tryd.prog.info? 49).map (·.size) = some (first1L.map (Value.int .u32)).length) := Tryd.size8w
  have HB : Hid (Blk HT (w.alloc (.cells (Hs.empty 1).cells.toArray HT)) w.heap.size (Hs.empty 1).cells) := Blk.new HT w _
  have hcl : (Hs.empty 1).cells.length = 146 := Hs.cells_len (by simp [Hs.empty])
  have HTh : Hid ((w.alloc (.cells (Hs.empty 1).cells.toArray HT)).there w.heap.size 2 (first1L.map (Value.int .u32)).toArray.size) := HB.out.there _ _ (by rw [hcl]; decide)
  have HF : Hid (HashIs ((w.alloc (.cells (Hs.empty 1).cells.toArray HT)).setCells w.heap.size 2 (first1L.map (Value.int .u32))) w.heap.size 1 [] ∧ Below w.heap.size w ((w.alloc (.cells (Hs.empty 1).cells.toArray HT)).setCells w.heap.size 2 (first1L.map (Value.int .u32)))) := by
    refine ⟨⟨{ Hs.empty 1 with words := R8.of first1L }, ?_, ⟨of_ok first1_u, R8.zero_ok _ ⟨by decide, by decide⟩, by simp [Hs.empty], zeros_u8 128⟩, ⟨rfl, rfl, rfl, rfl⟩⟩, (Upd.setCells _ _ _).below (hBa _) (by simp) (Nat.le_refl _)⟩
    have := HB.out.setCells 2 ((R8.of first1L).list.map (Value.int .u32)) (by rw [hcl]; decide)
    rw [Hs.over_words] at this
    exact this
  clear hBa hT hcl HB
  go_enter Tryd.func21, Tryd.ntmps21
  go_wp2_with (first
    | (refine wpList_load_mid rfl 49 (.global 0) rfl 0 0 rfl (first1L.map (Value.int .u32)) _ (HR.out _) Tryd.underlying49 rfl HS.out ?_)
    | (refine wpList_store_mid rfl 49 (.tmp 14) (.tmp 12) rfl w.heap.size 2 (first1L.map (Value.int .u32)).toArray rfl rfl HTh.out (by simpa using HS.out) (ints_one _ _) ?_))
  go_ret2
  exact ⟨rfl, HF.out⟩

set_option maxRecDepth 4000 in
set_option maxHeartbeats 1000000 in
theorem New_2 {w : World} (hT : Tabs w) : Calls Tryd.prog 21 #[.int .i64 2] w fun e w' => e = .returned (.tuple #[.pointer (some ⟨w.heap.size, 0, none⟩), .int .i64 0]) ∧ HashIs w' w.heap.size 2 [] ∧ Below w.heap.size w w' := by
  have hz7 := hT.size
  have hBa : ∀ o, Below w.heap.size w (w.alloc o) := fun o => (Below.refl _ _).alloc (Nat.le_refl _) o
  have HR : Hid (∀ o, (w.alloc o).rangeAt 1 0 (first256L.map (Value.int .u32))) := fun o => (below_rd (hBa o) (by omega) hT.f256).range
  have HS : Hid ((Tryd.prog.info? 49).map (·.size) = some (first256L.map (Value.int .u32)).length) := Tryd.size8w
  have HB : Hid (Blk HT (w.alloc (.cells (Hs.empty 2).cells.toArray HT)) w.heap.size (Hs.empty 2).cells) := Blk.new HT w _
  have hcl : (Hs.empty 2).cells.length = 146 := Hs.cells_len (by simp [Hs.empty])
  have HTh : Hid ((w.alloc (.cells (Hs.empty 2).cells.toArray HT)).there w.heap.size 2 (first256L.map (Value.int .u32)).toArray.size) := HB.out.there _ _ (by rw [hcl]; decide)
  have HF : Hid (HashIs ((w.alloc (.cells (Hs.empty 2).cells.toArray HT)).setCells w.heap.size 2 (first256L.map (Value.int .u32))) w.heap.size 2 [] ∧ Below w.heap.size w ((w.alloc (.cells (Hs.empty 2).cells.toArray HT)).setCells w.heap.size 2 (first256L.map (Value.int .u32)))) := by
    refine ⟨⟨{ Hs.empty 2 with words := R8.of first256L }, ?_, ⟨of_ok first256_u, R8.zero_ok _ ⟨by decide, by decide⟩, by simp [Hs.empty], zeros_u8 128⟩, ⟨rfl, rfl, rfl, rfl⟩⟩, (Upd.setCells _ _ _).below (hBa _) (by simp) (Nat.le_refl _)⟩
    have := HB.out.setCells 2 ((R8.of first256L).list.map (Value.int .u32)) (by rw [hcl]; decide)
    rw [Hs.over_words] at this
    exact this
  clear hBa hT hcl HB
  go_enter Tryd.func21, Tryd.ntmps21
  go_wp2_with (first
    | (refine wpList_load_mid rfl 49 (.global 1) rfl 1 0 rfl (first256L.map (Value.int .u32)) _ (HR.out _) Tryd.underlying49 rfl HS.out ?_)
    | (refine wpList_store_mid rfl 49 (.tmp 20) (.tmp 18) rfl w.heap.size 2 (first256L.map (Value.int .u32)).toArray rfl rfl HTh.out (by simpa using HS.out) (ints_one _ _) ?_))
  go_ret2
  exact ⟨rfl, HF.out⟩

set_option maxRecDepth 4000 in
set_option maxHeartbeats 1000000 in
theorem New_3 {w : World} (hT : Tabs w) : Calls Tryd.prog 21 #[.int .i64 3] w fun e w' => e = .returned (.tuple #[.pointer (some ⟨w.heap.size, 0, none⟩), .int .i64 0]) ∧ HashIs w' w.heap.size 3 [] ∧ Below w.heap.size w w' := by
  have hz7 := hT.size
  have hBa : ∀ o, Below w.heap.size w (w.alloc o) := fun o => (Below.refl _ _).alloc (Nat.le_refl _) o
  have HR : Hid (∀ o, (w.alloc o).rangeAt 2 0 (first384L.map (Value.int .u64))) := fun o => (below_rd (hBa o) (by omega) hT.f384).range
  have HS : Hid ((Tryd.prog.info? 51).map (·.size) = some (first384L.map (Value.int .u64)).length) := Tryd.eight512
  have HB : Hid (Blk HT (w.alloc (.cells (Hs.empty 3).cells.toArray HT)) w.heap.size (Hs.empty 3).cells) := Blk.new HT w _
  have hcl : (Hs.empty 3).cells.length = 146 := Hs.cells_len (by simp [Hs.empty])
  have HTh : Hid ((w.alloc (.cells (Hs.empty 3).cells.toArray HT)).there w.heap.size 10 (first384L.map (Value.int .u64)).toArray.size) := HB.out.there _ _ (by rw [hcl]; decide)
  have HF : Hid (HashIs ((w.alloc (.cells (Hs.empty 3).cells.toArray HT)).setCells w.heap.size 10 (first384L.map (Value.int .u64))) w.heap.size 3 [] ∧ Below w.heap.size w ((w.alloc (.cells (Hs.empty 3).cells.toArray HT)).setCells w.heap.size 10 (first384L.map (Value.int .u64)))) := by
    refine ⟨⟨{ Hs.empty 3 with wide := R8.of first384L }, ?_, ⟨R8.zero_ok _ ⟨by decide, by decide⟩, of_ok first384_u, by simp [Hs.empty], zeros_u8 128⟩, ⟨rfl, rfl, rfl, rfl⟩⟩, (Upd.setCells _ _ _).below (hBa _) (by simp) (Nat.le_refl _)⟩
    have := HB.out.setCells 10 ((R8.of first384L).list.map (Value.int .u64)) (by rw [hcl]; decide)
    rw [Hs.over_wide] at this
    exact this
  clear hBa hT hcl HB
  go_enter Tryd.func21, Tryd.ntmps21
  go_wp2_with (first
    | (refine wpList_load_mid rfl 51 (.global 2) rfl 2 0 rfl (first384L.map (Value.int .u64)) _ (HR.out _) Tryd.underlying51 rfl HS.out ?_)
    | (refine wpList_store_mid rfl 51 (.tmp 26) (.tmp 24) rfl w.heap.size 10 (first384L.map (Value.int .u64)).toArray rfl rfl HTh.out (by simpa using HS.out) (ints_one _ _) ?_))
  go_ret2
  exact ⟨rfl, HF.out⟩

set_option maxRecDepth 4000 in
set_option maxHeartbeats 1000000 in
theorem New_4 {w : World} (hT : Tabs w) : Calls Tryd.prog 21 #[.int .i64 4] w fun e w' => e = .returned (.tuple #[.pointer (some ⟨w.heap.size, 0, none⟩), .int .i64 0]) ∧ HashIs w' w.heap.size 4 [] ∧ Below w.heap.size w w' := by
  have hz7 := hT.size
  have hBa : ∀ o, Below w.heap.size w (w.alloc o) := fun o => (Below.refl _ _).alloc (Nat.le_refl _) o
  have HR : Hid (∀ o, (w.alloc o).rangeAt 3 0 (first512L.map (Value.int .u64))) := fun o => (below_rd (hBa o) (by omega) hT.f512).range
  have HS : Hid ((Tryd.prog.info? 51).map (·.size) = some (first512L.map (Value.int .u64)).length) := Tryd.eight512
  have HB : Hid (Blk HT (w.alloc (.cells (Hs.empty 4).cells.toArray HT)) w.heap.size (Hs.empty 4).cells) := Blk.new HT w _
  have hcl : (Hs.empty 4).cells.length = 146 := Hs.cells_len (by simp [Hs.empty])
  have HTh : Hid ((w.alloc (.cells (Hs.empty 4).cells.toArray HT)).there w.heap.size 10 (first512L.map (Value.int .u64)).toArray.size) := HB.out.there _ _ (by rw [hcl]; decide)
  have HF : Hid (HashIs ((w.alloc (.cells (Hs.empty 4).cells.toArray HT)).setCells w.heap.size 10 (first512L.map (Value.int .u64))) w.heap.size 4 [] ∧ Below w.heap.size w ((w.alloc (.cells (Hs.empty 4).cells.toArray HT)).setCells w.heap.size 10 (first512L.map (Value.int .u64)))) := by
    refine ⟨⟨{ Hs.empty 4 with wide := R8.of first512L }, ?_, ⟨R8.zero_ok _ ⟨by decide, by decide⟩, of_ok first512_u, by simp [Hs.empty], zeros_u8 128⟩, ⟨rfl, rfl, rfl, rfl⟩⟩, (Upd.setCells _ _ _).below (hBa _) (by simp) (Nat.le_refl _)⟩
    have := HB.out.setCells 10 ((R8.of first512L).list.map (Value.int .u64)) (by rw [hcl]; decide)
    rw [Hs.over_wide] at this
    exact this
  clear hBa hT hcl HB
  go_enter Tryd.func21, Tryd.ntmps21
  go_wp2_with (first
    | (refine wpList_load_mid rfl 51 (.global 3) rfl 3 0 rfl (first512L.map (Value.int .u64)) _ (HR.out _) Tryd.underlying51 rfl HS.out ?_)
    | (refine wpList_store_mid rfl 51 (.tmp 32) (.tmp 30) rfl w.heap.size 10 (first512L.map (Value.int .u64)).toArray rfl rfl HTh.out (by simpa using HS.out) (ints_one _ _) ?_))
  go_ret2
  exact ⟨rfl, HF.out⟩

theorem New_any {w : World} (alg : Int) (ha : Alg alg) (hT : Tabs w) : Calls Tryd.prog 21 #[.int .i64 alg] w fun e w' => e = .returned (.tuple #[.pointer (some ⟨w.heap.size, 0, none⟩), .int .i64 0]) ∧ HashIs w' w.heap.size alg [] ∧ Below w.heap.size w w' := by
  rcases ha with rfl | rfl | rfl | rfl
  · exact New_1 hT
  · exact New_2 hT
  · exact New_3 hT
  · exact New_4 hT
end Go.Proofs.YteallegkklokiaaDoor
