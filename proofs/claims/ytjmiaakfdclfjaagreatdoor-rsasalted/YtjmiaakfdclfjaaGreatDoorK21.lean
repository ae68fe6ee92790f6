/-
  Digest: New.
-/
import Derived.RangeFuncNested
import Derived.RangeFuncBound
import Derived.RangeFuncCalls
import Derived.RangeFuncLeaves
import Derived.Shelf.Abstract
import Derived.Shelf.RegionOpen
import Derived.WalkKit
import Derived.OwnWalkIn
import Derived.TacticsInMore
import Derived.LoopNIn
import Derived.LoopIn
import Derived.Test.YtjmiaakfdclfjaaGreatDoorK20
namespace Go.Proofs.YtjmiaakfdclfjaaGreatDoor.Sh
open Go.RowKit
set_option maxRecDepth 20000
theorem Rd.range {k : IntKind} {w : World} {b off : Nat} {xs : List Int} (h : Rd k w b off xs) : w.rangeAt b off (xs.map (Value.int k)) := by
  intro j v hj
  have hlt : j < xs.length := by have := (List.getElem?_eq_some_iff.1 hj).1; simpa using this
  rw [h j hlt, ← hj]
  simp [hlt]
/-- A Hash that was handed nothing, its state still noughts. -/
def Hs.empty (alg : Int) : Hs := ⟨alg, 0, R8.zero, R8.zero, List.replicate 128 0⟩
theorem R8.zero_ok (U : Int → Prop) (h : U 0) : R8.zero.ok U := ⟨h, h, h, h, h, h, h, h⟩
theorem zeros_u8 (n : Nat) : U8s (List.replicate n 0) := fun x hx => by rw [(List.mem_replicate.1 hx).2]; exact ⟨by decide, by decide⟩
theorem of_ok {U : Int → Prop} {xs : List Int} (h : ∀ i, i < 8 → U (xs.getD i 0)) : (R8.of xs).ok U := ⟨h 0 (by omega), h 1 (by omega), h 2 (by omega), h 3 (by omega), h 4 (by omega), h 5 (by omega), h 6 (by omega), h 7 (by omega)⟩
theorem first1_u : ∀ i, i < 8 → U32 (first1L.getD i 0) := by unfold U32; decide
theorem first256_u : ∀ i, i < 8 → U32 (first256L.getD i 0) := by unfold U32; decide
theorem first384_u : ∀ i, i < 8 → U64 (first384L.getD i 0) := by unfold U64; decide
theorem first512_u : ∀ i, i < 8 → U64 (first512L.getD i 0) := by unfold U64; decide
/-- The state ahead of the first block. -/
def Hs.start (alg : Int) : Hs := { Hs.empty alg with words := firstW alg, wide := firstQ alg }
theorem Hs.start_ok {alg : Int} (ha : Alg alg) : (Hs.start alg).ok := by
  rcases ha with rfl | rfl | rfl | rfl
  · exact ⟨of_ok first1_u, R8.zero_ok _ ⟨by decide, by decide⟩, by simp [Hs.start, Hs.empty], zeros_u8 128⟩
  · exact ⟨of_ok first256_u, R8.zero_ok _ ⟨by decide, by decide⟩, by simp [Hs.start, Hs.empty], zeros_u8 128⟩
  · exact ⟨R8.zero_ok _ ⟨by decide, by decide⟩, of_ok first384_u, by simp [Hs.start, Hs.empty], zeros_u8 128⟩
  · exact ⟨R8.zero_ok _ ⟨by decide, by decide⟩, of_ok first512_u, by simp [Hs.start, Hs.empty], zeros_u8 128⟩
theorem Hs.start_inv (alg : Int) : Inv alg (Hs.start alg) [] := ⟨rfl, rfl, by simp [Hs.start, run], by simp⟩

set_option maxRecDepth 4000 in
set_option maxHeartbeats 1000000 in
theorem Start_1 {w : World} (hT : Tabs w) : Calls Tryz.prog 59 #[.int .i64 1] w fun e w' => e = .returned (.agg (Hs.start 1).cells.toArray) ∧ Below w.heap.size w w' := by
  have hz7 := hT.size
  have hcl : (Hs.empty 1).cells.length = 146 := Hs.cells_len (by simp [Hs.empty])
  have hcs : (Hs.start 1).cells.length = 146 := Hs.cells_len (by simp [Hs.start, Hs.empty])
  have HSz : Hid ((Tryz.prog.info? 95).map (·.size) = some 146) := Tryz.sizeH
  have HI : Hid (∀ (za zb : List Value), za.length = 146 → zb.length = 146 → ((w.alloc (.cells za.toArray 95)).alloc (.cells zb.toArray 95)).there (w.heap.size + 1) 0 146 ∧
      (fun W2 : World => (∃ zs : List Value, zs.length = 146 ∧ Blk 95 W2 w.heap.size zs) ∧ Blk 95 W2 (w.heap.size + 1) (Hs.empty 1).cells ∧ Below w.heap.size w W2) (((w.alloc (.cells za.toArray 95)).alloc (.cells zb.toArray 95)).setCells (w.heap.size + 1) 0 (Hs.empty 1).cells)) := fun za zb ha hb => by
    have e1 : (w.alloc (.cells za.toArray 95)).heap.size = w.heap.size + 1 := by simp
    have h1 := (Blk.new 95 w za).alloc (.cells zb.toArray 95)
    have h2 := Blk.new 95 (w.alloc (.cells za.toArray 95)) zb
    rw [e1] at h2
    have hB1 : Below w.heap.size w ((w.alloc (.cells za.toArray 95)).alloc (.cells zb.toArray 95)) := ((Below.refl _ _).alloc (Nat.le_refl _) _).alloc (by simp) _
    refine ⟨h2.there 0 146 (by omega), ⟨za, ha, (Upd.setCells _ _ _).blk h1 (by omega)⟩, h2.fill _ (by rw [hcl, hb]), (Upd.setCells _ _ _).below hB1 hB1.size (by omega)⟩
  have HR : Hid (∀ W, Below w.heap.size w W → W.rangeAt 0 0 (first1L.map (Value.int .u32))) := fun W hW => Rd.range (below_rd hW (by omega) hT.f1)
  have HS : Hid ((Tryz.prog.info? 69).map (·.size) = some (first1L.map (Value.int .u32)).length) := Tryz.size8w
  clear hT
  go_enter Tryz.func59, Tryz.ntmps59
  go_upto_region 2 with (refine wpList_store_mid rfl 95 (.tmp 3) (.tmp 5) rfl (w.heap.size + 1) 0 (Hs.empty 1).cells.toArray rfl rfl (HI.out _ _ rfl rfl).1 HSz.out (Hs.cells_one _) ?_)
  refine wp_gen (fun W2 : World => (∃ zs : List Value, zs.length = 146 ∧ Blk 95 W2 w.heap.size zs) ∧ Blk 95 W2 (w.heap.size + 1) (Hs.empty 1).cells ∧ Below w.heap.size w W2) (HI.out _ _ rfl rfl).2 ?_
  rintro W2 ⟨⟨zs, hzl, hZ⟩, hE, hBE⟩
  have HR2 : Hid (W2.rangeAt 0 0 (first1L.map (Value.int .u32))) := HR.out W2 hBE
  have HTh : Hid (W2.there (w.heap.size + 1) 2 (first1L.map (Value.int .u32)).toArray.size) := hE.there _ _ (by rw [hcl]; decide)
  obtain ⟨W3, hW3⟩ : ∃ W3, W2.setCells (w.heap.size + 1) 2 (first1L.map (Value.int .u32)) = W3 := ⟨_, rfl⟩
  have hb3 : Blk 95 W3 (w.heap.size + 1) (Hs.start 1).cells := by
    have := hE.setCells 2 ((R8.of first1L).list.map (Value.int .u32)) (by rw [hcl]; decide)
    rw [Hs.over_words] at this
    rw [← hW3]; exact this
  have hu3 : Upd W2 W3 (w.heap.size + 1) := by rw [← hW3]; exact Upd.setCells _ _ _
  have hz3 := hu3.blk hZ (by omega)
  have HRB : Hid (W3.rangeAt (w.heap.size + 1) 0 (Hs.start 1).cells) := hb3.whole
  have HTA : Hid (W3.there w.heap.size 0 (Hs.start 1).cells.toArray.size) := hz3.there 0 _ (by simp [hcs, hzl])
  have HF : Hid (Blk 95 (W3.setCells w.heap.size 0 (Hs.start 1).cells) w.heap.size (Hs.start 1).cells ∧ Below w.heap.size w (W3.setCells w.heap.size 0 (Hs.start 1).cells)) := by
    have hB3 : Below w.heap.size w W3 := hu3.below hBE hBE.size (by omega)
    exact ⟨hz3.fill _ (by rw [hcs, hzl]), (Upd.setCells _ _ _).below hB3 hB3.size (Nat.le_refl _)⟩
  have HSc : Hid ((Tryz.prog.info? 95).map (·.size) = some (Hs.start 1).cells.length) := by rw [hcs]; exact Tryz.sizeH
  have HW3 : Hid (W2.setCells (w.heap.size + 1) 2 (first1L.map (Value.int .u32)) = W3) := hW3
  clear hZ hE hBE hb3 hu3 hz3 hW3 HI HR hcl hcs
  go_wp2_with (first
    | (refine wpList_load_mid rfl 69 (.global 0) rfl 0 0 rfl (first1L.map (Value.int .u32)) _ HR2.out Tryz.underlying69 rfl HS.out ?_)
    | (refine wpList_store_mid rfl 69 (.tmp 10) (.tmp 9) rfl (w.heap.size + 1) 2 (first1L.map (Value.int .u32)).toArray rfl rfl HTh.out (by simpa using HS.out) (ints_one _ _) ?_; rw [HW3.out])
    | (refine wpList_load_mid rfl 95 (.tmp 3) rfl (w.heap.size + 1) 0 rfl (Hs.start 1).cells _ HRB.out Tryz.underlying95 rfl HSc.out ?_)
    | (refine wpList_store_mid rfl 95 (.tmp 2) (.tmp 23) rfl w.heap.size 0 (Hs.start 1).cells.toArray rfl rfl HTA.out (by simpa using HSc.out) (Hs.cells_one _) ?_))
  refine bodyPost_ret (v := .agg (Hs.start 1).cells.toArray) (results_blk (b := w.heap.size) (cs := (Hs.start 1).cells) rfl rfl HF.out.1 Tryz.underlying95 rfl HSc.out) rfl ⟨rfl, HF.out.2⟩

set_option maxRecDepth 4000 in
set_option maxHeartbeats 1000000 in
theorem Start_2 {w : World} (hT : Tabs w) : Calls Tryz.prog 59 #[.int .i64 2] w fun e w' => e = .returned (.agg (Hs.start 2).cells.toArray) ∧ Below w.heap.size w w' := by
  have hz7 := hT.size
  have hcl : (Hs.empty 2).cells.length = 146 := Hs.cells_len (by simp [Hs.empty])
  have hcs : (Hs.start 2).cells.length = 146 := Hs.cells_len (by simp [Hs.start, Hs.empty])
  have HSz : Hid ((Tryz.prog.info? 95).map (·.size) = some 146) := Tryz.sizeH
  have HI : Hid (∀ (za zb : List Value), za.length = 146 → zb.length = 146 → ((w.alloc (.cells za.toArray 95)).alloc (.cells zb.toArray 95)).there (w.heap.size + 1) 0 146 ∧
      (fun W2 : World => (∃ zs : List Value, zs.length = 146 ∧ Blk 95 W2 w.heap.size zs) ∧ Blk 95 W2 (w.heap.size + 1) (Hs.empty 2).cells ∧ Below w.heap.size w W2) (((w.alloc (.cells za.toArray 95)).alloc (.cells zb.toArray 95)).setCells (w.heap.size + 1) 0 (Hs.empty 2).cells)) := fun za zb ha hb => by
    have e1 : (w.alloc (.cells za.toArray 95)).heap.size = w.heap.size + 1 := by simp
    have h1 := (Blk.new 95 w za).alloc (.cells zb.toArray 95)
    have h2 := Blk.new 95 (w.alloc (.cells za.toArray 95)) zb
    rw [e1] at h2
    have hB1 : Below w.heap.size w ((w.alloc (.cells za.toArray 95)).alloc (.cells zb.toArray 95)) := ((Below.refl _ _).alloc (Nat.le_refl _) _).alloc (by simp) _
    refine ⟨h2.there 0 146 (by omega), ⟨za, ha, (Upd.setCells _ _ _).blk h1 (by omega)⟩, h2.fill _ (by rw [hcl, hb]), (Upd.setCells _ _ _).below hB1 hB1.size (by omega)⟩
  have HR : Hid (∀ W, Below w.heap.size w W → W.rangeAt 1 0 (first256L.map (Value.int .u32))) := fun W hW => Rd.range (below_rd hW (by omega) hT.f256)
  have HS : Hid ((Tryz.prog.info? 69).map (·.size) = some (first256L.map (Value.int .u32)).length) := Tryz.size8w
  clear hT
  go_enter Tryz.func59, Tryz.ntmps59
  go_upto_region 2 with (refine wpList_store_mid rfl 95 (.tmp 3) (.tmp 5) rfl (w.heap.size + 1) 0 (Hs.empty 2).cells.toArray rfl rfl (HI.out _ _ rfl rfl).1 HSz.out (Hs.cells_one _) ?_)
  refine wp_gen (fun W2 : World => (∃ zs : List Value, zs.length = 146 ∧ Blk 95 W2 w.heap.size zs) ∧ Blk 95 W2 (w.heap.size + 1) (Hs.empty 2).cells ∧ Below w.heap.size w W2) (HI.out _ _ rfl rfl).2 ?_
  rintro W2 ⟨⟨zs, hzl, hZ⟩, hE, hBE⟩
  have HR2 : Hid (W2.rangeAt 1 0 (first256L.map (Value.int .u32))) := HR.out W2 hBE
  have HTh : Hid (W2.there (w.heap.size + 1) 2 (first256L.map (Value.int .u32)).toArray.size) := hE.there _ _ (by rw [hcl]; decide)
  obtain ⟨W3, hW3⟩ : ∃ W3, W2.setCells (w.heap.size + 1) 2 (first256L.map (Value.int .u32)) = W3 := ⟨_, rfl⟩
  have hb3 : Blk 95 W3 (w.heap.size + 1) (Hs.start 2).cells := by
    have := hE.setCells 2 ((R8.of first256L).list.map (Value.int .u32)) (by rw [hcl]; decide)
    rw [Hs.over_words] at this
    rw [← hW3]; exact this
  have hu3 : Upd W2 W3 (w.heap.size + 1) := by rw [← hW3]; exact Upd.setCells _ _ _
  have hz3 := hu3.blk hZ (by omega)
  have HRB : Hid (W3.rangeAt (w.heap.size + 1) 0 (Hs.start 2).cells) := hb3.whole
  have HTA : Hid (W3.there w.heap.size 0 (Hs.start 2).cells.toArray.size) := hz3.there 0 _ (by simp [hcs, hzl])
  have HF : Hid (Blk 95 (W3.setCells w.heap.size 0 (Hs.start 2).cells) w.heap.size (Hs.start 2).cells ∧ Below w.heap.size w (W3.setCells w.heap.size 0 (Hs.start 2).cells)) := by
    have hB3 : Below w.heap.size w W3 := hu3.below hBE hBE.size (by omega)
    exact ⟨hz3.fill _ (by rw [hcs, hzl]), (Upd.setCells _ _ _).below hB3 hB3.size (Nat.le_refl _)⟩
  have HSc : Hid ((Tryz.prog.info? 95).map (·.size) = some (Hs.start 2).cells.length) := by rw [hcs]; exact Tryz.sizeH
  have HW3 : Hid (W2.setCells (w.heap.size + 1) 2 (first256L.map (Value.int .u32)) = W3) := hW3
  clear hZ hE hBE hb3 hu3 hz3 hW3 HI HR hcl hcs
  go_wp2_with (first
    | (refine wpList_load_mid rfl 69 (.global 1) rfl 1 0 rfl (first256L.map (Value.int .u32)) _ HR2.out Tryz.underlying69 rfl HS.out ?_)
    | (refine wpList_store_mid rfl 69 (.tmp 14) (.tmp 13) rfl (w.heap.size + 1) 2 (first256L.map (Value.int .u32)).toArray rfl rfl HTh.out (by simpa using HS.out) (ints_one _ _) ?_; rw [HW3.out])
    | (refine wpList_load_mid rfl 95 (.tmp 3) rfl (w.heap.size + 1) 0 rfl (Hs.start 2).cells _ HRB.out Tryz.underlying95 rfl HSc.out ?_)
    | (refine wpList_store_mid rfl 95 (.tmp 2) (.tmp 23) rfl w.heap.size 0 (Hs.start 2).cells.toArray rfl rfl HTA.out (by simpa using HSc.out) (Hs.cells_one _) ?_))
  refine bodyPost_ret (v := .agg (Hs.start 2).cells.toArray) (results_blk (b := w.heap.size) (cs := (Hs.start 2).cells) rfl rfl HF.out.1 Tryz.underlying95 rfl HSc.out) rfl ⟨rfl, HF.out.2⟩

set_option maxRecDepth 4000 in
set_option maxHeartbeats 1000000 in
theorem Start_3 {w : World} (hT : Tabs w) : Calls Tryz.prog 59 #[.int .i64 3] w fun e w' => e = .returned (.agg (Hs.start 3).cells.toArray) ∧ Below w.heap.size w w' := by
  have hz7 := hT.size
  have hcl : (Hs.empty 3).cells.length = 146 := Hs.cells_len (by simp [Hs.empty])
  have hcs : (Hs.start 3).cells.length = 146 := Hs.cells_len (by simp [Hs.start, Hs.empty])
  have HSz : Hid ((Tryz.prog.info? 95).map (·.size) = some 146) := Tryz.sizeH
  have HI : Hid (∀ (za zb : List Value), za.length = 146 → zb.length = 146 → ((w.alloc (.cells za.toArray 95)).alloc (.cells zb.toArray 95)).there (w.heap.size + 1) 0 146 ∧
      (fun W2 : World => (∃ zs : List Value, zs.length = 146 ∧ Blk 95 W2 w.heap.size zs) ∧ Blk 95 W2 (w.heap.size + 1) (Hs.empty 3).cells ∧ Below w.heap.size w W2) (((w.alloc (.cells za.toArray 95)).alloc (.cells zb.toArray 95)).setCells (w.heap.size + 1) 0 (Hs.empty 3).cells)) := fun za zb ha hb => by
    have e1 : (w.alloc (.cells za.toArray 95)).heap.size = w.heap.size + 1 := by simp
    have h1 := (Blk.new 95 w za).alloc (.cells zb.toArray 95)
    have h2 := Blk.new 95 (w.alloc (.cells za.toArray 95)) zb
    rw [e1] at h2
    have hB1 : Below w.heap.size w ((w.alloc (.cells za.toArray 95)).alloc (.cells zb.toArray 95)) := ((Below.refl _ _).alloc (Nat.le_refl _) _).alloc (by simp) _
    refine ⟨h2.there 0 146 (by omega), ⟨za, ha, (Upd.setCells _ _ _).blk h1 (by omega)⟩, h2.fill _ (by rw [hcl, hb]), (Upd.setCells _ _ _).below hB1 hB1.size (by omega)⟩
  have HR : Hid (∀ W, Below w.heap.size w W → W.rangeAt 2 0 (first384L.map (Value.int .u64))) := fun W hW => Rd.range (below_rd hW (by omega) hT.f384)
  have HS : Hid ((Tryz.prog.info? 44).map (·.size) = some (first384L.map (Value.int .u64)).length) := Tryz.eight512
  clear hT
  go_enter Tryz.func59, Tryz.ntmps59
  go_upto_region 2 with (refine wpList_store_mid rfl 95 (.tmp 3) (.tmp 5) rfl (w.heap.size + 1) 0 (Hs.empty 3).cells.toArray rfl rfl (HI.out _ _ rfl rfl).1 HSz.out (Hs.cells_one _) ?_)
  refine wp_gen (fun W2 : World => (∃ zs : List Value, zs.length = 146 ∧ Blk 95 W2 w.heap.size zs) ∧ Blk 95 W2 (w.heap.size + 1) (Hs.empty 3).cells ∧ Below w.heap.size w W2) (HI.out _ _ rfl rfl).2 ?_
  rintro W2 ⟨⟨zs, hzl, hZ⟩, hE, hBE⟩
  have HR2 : Hid (W2.rangeAt 2 0 (first384L.map (Value.int .u64))) := HR.out W2 hBE
  have HTh : Hid (W2.there (w.heap.size + 1) 10 (first384L.map (Value.int .u64)).toArray.size) := hE.there _ _ (by rw [hcl]; decide)
  obtain ⟨W3, hW3⟩ : ∃ W3, W2.setCells (w.heap.size + 1) 10 (first384L.map (Value.int .u64)) = W3 := ⟨_, rfl⟩
  have hb3 : Blk 95 W3 (w.heap.size + 1) (Hs.start 3).cells := by
    have := hE.setCells 10 ((R8.of first384L).list.map (Value.int .u64)) (by rw [hcl]; decide)
    rw [Hs.over_wide] at this
    rw [← hW3]; exact this
  have hu3 : Upd W2 W3 (w.heap.size + 1) := by rw [← hW3]; exact Upd.setCells _ _ _
  have hz3 := hu3.blk hZ (by omega)
  have HRB : Hid (W3.rangeAt (w.heap.size + 1) 0 (Hs.start 3).cells) := hb3.whole
  have HTA : Hid (W3.there w.heap.size 0 (Hs.start 3).cells.toArray.size) := hz3.there 0 _ (by simp [hcs, hzl])
  have HF : Hid (Blk 95 (W3.setCells w.heap.size 0 (Hs.start 3).cells) w.heap.size (Hs.start 3).cells ∧ Below w.heap.size w (W3.setCells w.heap.size 0 (Hs.start 3).cells)) := by
    have hB3 : Below w.heap.size w W3 := hu3.below hBE hBE.size (by omega)
    exact ⟨hz3.fill _ (by rw [hcs, hzl]), (Upd.setCells _ _ _).below hB3 hB3.size (Nat.le_refl _)⟩
  have HSc : Hid ((Tryz.prog.info? 95).map (·.size) = some (Hs.start 3).cells.length) := by rw [hcs]; exact Tryz.sizeH
  have HW3 : Hid (W2.setCells (w.heap.size + 1) 10 (first384L.map (Value.int .u64)) = W3) := hW3
  clear hZ hE hBE hb3 hu3 hz3 hW3 HI HR hcl hcs
  go_wp2_with (first
    | (refine wpList_load_mid rfl 44 (.global 2) rfl 2 0 rfl (first384L.map (Value.int .u64)) _ HR2.out Tryz.underlying44 rfl HS.out ?_)
    | (refine wpList_store_mid rfl 44 (.tmp 18) (.tmp 17) rfl (w.heap.size + 1) 10 (first384L.map (Value.int .u64)).toArray rfl rfl HTh.out (by simpa using HS.out) (ints_one _ _) ?_; rw [HW3.out])
    | (refine wpList_load_mid rfl 95 (.tmp 3) rfl (w.heap.size + 1) 0 rfl (Hs.start 3).cells _ HRB.out Tryz.underlying95 rfl HSc.out ?_)
    | (refine wpList_store_mid rfl 95 (.tmp 2) (.tmp 23) rfl w.heap.size 0 (Hs.start 3).cells.toArray rfl rfl HTA.out (by simpa using HSc.out) (Hs.cells_one _) ?_))
  refine bodyPost_ret (v := .agg (Hs.start 3).cells.toArray) (results_blk (b := w.heap.size) (cs := (Hs.start 3).cells) rfl rfl HF.out.1 Tryz.underlying95 rfl HSc.out) rfl ⟨rfl, HF.out.2⟩

set_option maxRecDepth 4000 in
set_option maxHeartbeats 1000000 in
theorem Start_4 {w : World} (hT : Tabs w) : Calls Tryz.prog 59 #[.int .i64 4] w fun e w' => e = .returned (.agg (Hs.start 4).cells.toArray) ∧ Below w.heap.size w w' := by
  have hz7 := hT.size
  have hcl : (Hs.empty 4).cells.length = 146 := Hs.cells_len (by simp [Hs.empty])
  have hcs : (Hs.start 4).cells.length = 146 := Hs.cells_len (by simp [Hs.start, Hs.empty])
  have HSz : Hid ((Tryz.prog.info? 95).map (·.size) = some 146) := Tryz.sizeH
  have HI : Hid (∀ (za zb : List Value), za.length = 146 → zb.length = 146 → ((w.alloc (.cells za.toArray 95)).alloc (.cells zb.toArray 95)).there (w.heap.size + 1) 0 146 ∧
      (fun W2 : World => (∃ zs : List Value, zs.length = 146 ∧ Blk 95 W2 w.heap.size zs) ∧ Blk 95 W2 (w.heap.size + 1) (Hs.empty 4).cells ∧ Below w.heap.size w W2) (((w.alloc (.cells za.toArray 95)).alloc (.cells zb.toArray 95)).setCells (w.heap.size + 1) 0 (Hs.empty 4).cells)) := fun za zb ha hb => by
    have e1 : (w.alloc (.cells za.toArray 95)).heap.size = w.heap.size + 1 := by simp
    have h1 := (Blk.new 95 w za).alloc (.cells zb.toArray 95)
    have h2 := Blk.new 95 (w.alloc (.cells za.toArray 95)) zb
    rw [e1] at h2
    have hB1 : Below w.heap.size w ((w.alloc (.cells za.toArray 95)).alloc (.cells zb.toArray 95)) := ((Below.refl _ _).alloc (Nat.le_refl _) _).alloc (by simp) _
    refine ⟨h2.there 0 146 (by omega), ⟨za, ha, (Upd.setCells _ _ _).blk h1 (by omega)⟩, h2.fill _ (by rw [hcl, hb]), (Upd.setCells _ _ _).below hB1 hB1.size (by omega)⟩
  have HR : Hid (∀ W, Below w.heap.size w W → W.rangeAt 3 0 (first512L.map (Value.int .u64))) := fun W hW => Rd.range (below_rd hW (by omega) hT.f512)
  have HS : Hid ((Tryz.prog.info? 44).map (·.size) = some (first512L.map (Value.int .u64)).length) := Tryz.eight512
  clear hT
  go_enter Tryz.func59, Tryz.ntmps59
  go_upto_region 2 with (refine wpList_store_mid rfl 95 (.tmp 3) (.tmp 5) rfl (w.heap.size + 1) 0 (Hs.empty 4).cells.toArray rfl rfl (HI.out _ _ rfl rfl).1 HSz.out (Hs.cells_one _) ?_)
  refine wp_gen (fun W2 : World => (∃ zs : List Value, zs.length = 146 ∧ Blk 95 W2 w.heap.size zs) ∧ Blk 95 W2 (w.heap.size + 1) (Hs.empty 4).cells ∧ Below w.heap.size w W2) (HI.out _ _ rfl rfl).2 ?_
  rintro W2 ⟨⟨zs, hzl, hZ⟩, hE, hBE⟩
  have HR2 : Hid (W2.rangeAt 3 0 (first512L.map (Value.int .u64))) := HR.out W2 hBE
  have HTh : Hid (W2.there (w.heap.size + 1) 10 (first512L.map (Value.int .u64)).toArray.size) := hE.there _ _ (by rw [hcl]; decide)
  obtain ⟨W3, hW3⟩ : ∃ W3, W2.setCells (w.heap.size + 1) 10 (first512L.map (Value.int .u64)) = W3 := ⟨_, rfl⟩
  have hb3 : Blk 95 W3 (w.heap.size + 1) (Hs.start 4).cells := by
    have := hE.setCells 10 ((R8.of first512L).list.map (Value.int .u64)) (by rw [hcl]; decide)
    rw [Hs.over_wide] at this
    rw [← hW3]; exact this
  have hu3 : Upd W2 W3 (w.heap.size + 1) := by rw [← hW3]; exact Upd.setCells _ _ _
  have hz3 := hu3.blk hZ (by omega)
  have HRB : Hid (W3.rangeAt (w.heap.size + 1) 0 (Hs.start 4).cells) := hb3.whole
  have HTA : Hid (W3.there w.heap.size 0 (Hs.start 4).cells.toArray.size) := hz3.there 0 _ (by simp [hcs, hzl])
  have HF : Hid (Blk 95 (W3.setCells w.heap.size 0 (Hs.start 4).cells) w.heap.size (Hs.start 4).cells ∧ Below w.heap.size w (W3.setCells w.heap.size 0 (Hs.start 4).cells)) := by
    have hB3 : Below w.heap.size w W3 := hu3.below hBE hBE.size (by omega)
    exact ⟨hz3.fill _ (by rw [hcs, hzl]), (Upd.setCells _ _ _).below hB3 hB3.size (Nat.le_refl _)⟩
  have HSc : Hid ((Tryz.prog.info? 95).map (·.size) = some (Hs.start 4).cells.length) := by rw [hcs]; exact Tryz.sizeH
  have HW3 : Hid (W2.setCells (w.heap.size + 1) 10 (first512L.map (Value.int .u64)) = W3) := hW3
  clear hZ hE hBE hb3 hu3 hz3 hW3 HI HR hcl hcs
  go_wp2_with (first
    | (refine wpList_load_mid rfl 44 (.global 3) rfl 3 0 rfl (first512L.map (Value.int .u64)) _ HR2.out Tryz.underlying44 rfl HS.out ?_)
    | (refine wpList_store_mid rfl 44 (.tmp 22) (.tmp 21) rfl (w.heap.size + 1) 10 (first512L.map (Value.int .u64)).toArray rfl rfl HTh.out (by simpa using HS.out) (ints_one _ _) ?_; rw [HW3.out])
    | (refine wpList_load_mid rfl 95 (.tmp 3) rfl (w.heap.size + 1) 0 rfl (Hs.start 4).cells _ HRB.out Tryz.underlying95 rfl HSc.out ?_)
    | (refine wpList_store_mid rfl 95 (.tmp 2) (.tmp 23) rfl w.heap.size 0 (Hs.start 4).cells.toArray rfl rfl HTA.out (by simpa using HSc.out) (Hs.cells_one _) ?_))
  refine bodyPost_ret (v := .agg (Hs.start 4).cells.toArray) (results_blk (b := w.heap.size) (cs := (Hs.start 4).cells) rfl rfl HF.out.1 Tryz.underlying95 rfl HSc.out) rfl ⟨rfl, HF.out.2⟩

theorem Start_any {w : World} (alg : Int) (ha : Alg alg) (hT : Tabs w) : Calls Tryz.prog 59 #[.int .i64 alg] w fun e w' => e = .returned (.agg (Hs.start alg).cells.toArray) ∧ Below w.heap.size w w' := by
  rcases ha with rfl | rfl | rfl | rfl
  · exact Start_1 hT
  · exact Start_2 hT
  · exact Start_3 hT
  · exact Start_4 hT
theorem foldl_sets (l : List Value) : ∀ (k : Nat) (acc : Array Value) (i : Nat), ((l.zipIdx k).foldl (fun (cs : Array Value) (cj : Value × Nat) => cs.setIfInBounds (0 + cj.2) cj.1) acc)[i]? = if k ≤ i ∧ i < k + l.length ∧ i < acc.size then l[i - k]? else acc[i]? := by
  induction l with
  | nil => intro k acc i; simp; intro h1 h2; omega
  | cons x l ih =>
    intro k acc i
    rw [List.zipIdx_cons, List.foldl_cons, ih]
    simp only [Nat.zero_add, Array.size_setIfInBounds, List.length_cons]
    by_cases h1 : k + 1 ≤ i ∧ i < k + 1 + l.length ∧ i < acc.size
    · rw [if_pos h1, if_pos ⟨by omega, by omega, h1.2.2⟩, show i - k = (i - (k + 1)) + 1 by omega, List.getElem?_cons_succ]
    · rw [if_neg h1]
      by_cases h2 : i = k
      · subst h2
        by_cases h3 : i < acc.size
        · rw [if_pos ⟨Nat.le_refl _, by omega, h3⟩]; simp [h3]
        · rw [if_neg (by omega)]; simp [h3]
      · rw [if_neg (by omega), Array.getElem?_setIfInBounds_ne (by omega)]
theorem fill_one (place : Nat → Option (Nat × Nat)) (zs cs : Array Value) (hp : place 0 = some (0, cs.size)) (hz : zs.size = cs.size) : Instr.fill place zs [(0, .agg cs)] = some cs := by
  have hc : (Value.agg cs).cells = cs := rfl
  unfold Instr.fill
  simp only [hp, hc]
  rw [if_neg (by simp [hz])]
  unfold Instr.fill
  congr 1
  rw [← Array.foldl_toList, Array.toList_zipIdx]
  apply Array.ext_getElem?
  intro i
  rw [foldl_sets]
  simp only [Nat.zero_le, true_and, Nat.zero_add, Array.length_toList, Nat.sub_zero]
  by_cases h : i < cs.size
  · rw [if_pos ⟨h, by omega⟩]; simp
  · rw [if_neg (by omega)]; simp [h, hz]
end Go.Proofs.YtjmiaakfdclfjaaGreatDoor.Sh
/-
  A range over a function: operations that are walked as everywhere.
-/
namespace Go.Proofs.YtjmiaakfdclfjaaGreatDoor
open Go.RowKit
/-- The widest fence, or a round's within it. -/
def Wid (F : Fence) : Prop := F = Fence.wide ∨ ∃ l, F = Fence.wide.inRound l
theorem Wid.fn {F : Fence} (h : Wid F) (f : FuncId) : F.fn f := by
  rcases h with rfl | ⟨l, rfl⟩ <;> exact trivial
theorem Wid.depth {F : Fence} (h : Wid F) : F.depth = none := by
  rcases h with rfl | ⟨l, rfl⟩ <;> rfl
theorem Wid.calls {F : Fence} (h : Wid F) {n : Nat} {P : Program} {f : FuncId} {args : Array Value} {w : World} {R : Ending → World → Prop} (hc : Calls P f args w R) : CallsIn F n P f args w R := by
  rcases h with rfl | ⟨l, rfl⟩
  · exact callsIn_wide.2 hc
  · exact CallsIn.inRound l (callsIn_wide.2 hc)
theorem rows_wide {n : Nat} {P : Program} {row : String} {args : Array Value} {w : World} {R : Value → World → Prop} (h : Rows P row args w R) : RowsIn Fence.wide n P row args w R :=
  fun c cs _ => let ⟨v, w', r, s⟩ := h c cs; ⟨v, w', r, stepsIn_wide.2 s⟩
theorem Wid.rows {F : Fence} (h : Wid F) {n : Nat} {P : Program} {row : String} {args : Array Value} {w : World} {R : Value → World → Prop} (hc : Rows P row args w R) : RowsIn F n P row args w R := by
  rcases h with rfl | ⟨l, rfl⟩
  · exact rows_wide hc
  · exact rows_wide hc
theorem Wid.op {F : Fence} (hF : Wid F) {n : Nat} {P : Program} {o : Oper} {a : Act} {w : World} {K : Act → World → Prop} {Q : Exit → Act → World → Prop} (hdf : ∀ c, o.op ≠ .defer c) (h : o.wp P a w K Q) : o.wpIn F n P a w K Q := by
  refine ⟨fun f _ => hF.fn f, ?_⟩
  rw [Oper.semAt_eq _ _ _ hdf]
  unfold Oper.wp at h
  generalize (execOp a.eval o).run P w = r at *
  cases r with
  | ok x w' =>
    cases x with
    | value v => exact h
    | skip => exact h
    | defer d => exact h
    | enter f args => exact ⟨fun hd => (by rw [hF.depth] at hd; cases hd), hF.calls h⟩
    | row r args => exact ⟨fun hd => (by rw [hF.depth] at hd; cases hd), hF.rows h⟩
    | _ => exact h.elim
  | halt x w' => cases x <;> exact h
theorem Wid.via {F : Fence} (hF : Wid F) {n : Nat} {P : Program} {ops : Array Oper} {rest : List Oper} {o : Oper} {a : Act} {w : World} {Q : Exit → Act → World → Prop} (hgd : o.guard = none) (hdf : ∀ c, o.op ≠ .defer c)
    (h : ∀ K : Act → World → Prop, (∀ a w, wpListIn F n P ops Q rest a w → K a w) → o.wp P a w K Q) : wpListIn F n P ops Q (o :: rest) a w :=
  wpListIn_plain hgd fun K hK => hF.op hdf (h K hK)
theorem Wid.opAt {F : Fence} (hF : Wid F) {n : Nat} {P : Program} {ops : Array Oper} {i : Nat} {o : Oper} {a : Act} {w : World} {K : Act → World → Prop} {Q : Exit → Act → World → Prop} (hi : ops[i]? = some o) (hgd : o.guard = none) (hdf : ∀ c, o.op ≠ .defer c)
    (h : o.wp P a w K Q) : wpOpIn F n P ops Q i K a w := by
  unfold wpOpIn
  simp only [hi, Region.wanted, hgd, if_true]
  exact hF.op hdf h
end Go.Proofs.YtjmiaakfdclfjaaGreatDoor
/-
  A range over a function whose rounds are counted: what the function hands on in each round is known by its number.
-/
namespace Go.Proofs.YtjmiaakfdclfjaaGreatDoor
open Go.RowKit
/-- Blocks from B on lie as they lay. -/
def Kept (B : Nat) (W W' : World) : Prop := W.heap.size ≤ W'.heap.size ∧ ∀ k, B ≤ k → k < W.heap.size → W'.heap[k]? = W.heap[k]?
theorem Kept.blk {B : Nat} {W W' : World} (h : Kept B W W') {T : TypeId} {g : Nat} {cs : List Value} (hg : B ≤ g) (hb : Blk T W g cs) : Blk T W' g cs := by
  unfold Blk; rw [h.2 g hg hb.lt]; exact hb
theorem Kept.refl (B : Nat) (W : World) : Kept B W W := ⟨Nat.le_refl _, fun _ _ _ => rfl⟩
theorem Kept.upd {B b : Nat} {W W' : World} (h : Upd W W' b) (hb : b < B) : Kept B W W' := ⟨h.size, fun k hk hlt => h.block k hlt (by simp; omega)⟩
theorem Kept.trans {B : Nat} {W W' W'' : World} (h : Kept B W W') (k : Kept B W' W'') : Kept B W W'' :=
  ⟨Nat.le_trans h.1 k.1, fun j hj hlt => (k.2 j hj (Nat.lt_of_lt_of_le hlt h.1)).trans (h.2 j hj hlt)⟩
/-- How a round's body may be left. -/
def postN (B N i : Nat) (I : Nat → World → Prop) (Ix : Code → World → Prop) (W : World) : Exit → Act → World → Prop
  | .normal, _, W' => Kept B W W' ∧ i + 1 < N ∧ I (i + 1) W'
  | .exit id, _, W' => Kept B W W' ∧ Ix (.exit id) W'
  | _, _, _ => False
theorem range_nat {P : Program} {g : Operand} {ps : Array Tmp} {assign body : Code} {Q : Exit → Act → World → Prop} {a : Act} {W : World} {n m N gf : Nat} {lb : Array Value}
    (hg : a.eval g = .func (.func gf) #[] lb) (eg : ∀ args w, (callFunc gf args).run P w = .ok (.enter gf args) w) (hps : ps.size = 1)
    (I : Nat → World → Prop) (Ix : Code → World → Prop) (Y : Nat → Value → World → Prop)
    (hI1 : ∀ i A B, I i A → Below A.heap.size A B → I i B) (hI2 : ∀ i A k o o', W.heap.size ≤ k → A.heap[k]? = some o → o.isCells = false → o.isWalk = false → I i A → I i (A.putObj k o'))
    (hX2 : ∀ c A k o o', W.heap.size ≤ k → A.heap[k]? = some o → o.isCells = false → o.isWalk = false → Ix c A → Ix c (A.putObj k o'))
    (hY2 : ∀ i v A k o o', W.heap.size ≤ k → A.heap[k]? = some o → o.isCells = false → o.isWalk = false → Y i v A → Y i v (A.putObj k o'))
    (iter : ∀ (l : Nat) (W1 : World) (J : Nat → World → Prop) (Jx : World → Prop), W1.heap.size = W.heap.size + 2 → Below W.heap.size W W1 → J 0 W1 → (∀ i A, J i A → I i A) → (∀ i A B, J i A → Below A.heap.size A B → J i B) →
      (∀ i v A, i < N → J i A → W1.heap.size ≤ A.heap.size → Y i v A → YieldAt Fence.wide n P l #[v] A fun e B => (e = .returned (.bool true) ∧ i + 1 < N ∧ J (i + 1) B ∧ Kept W1.heap.size A B) ∨ (e = .returned (.bool false) ∧ Jx B)) →
      Calls P gf (#[.func (.yield l) #[] #[]] ++ lb) W1 fun e B => (∃ v, e = .returned v) ∧ Jx B)
    (h0 : I 0 W) (a₁ : Value → Act)
    (hass : ∀ (l : Nat) (v : Value) (A : World) (K : Act → World → Prop), K (a₁ v) A → assign.wpIn (Fence.wide.inRound l) n P (Exit.then K (fun _ _ _ => False)) { tmps := (ps.zip #[v]).foldl (fun t (p, v) => t.setIfInBounds p v) a.tmps, defers := [] } A)
    (hbody : ∀ (l i : Nat) (v : Value) (A : World), i < N → I i A → W.heap.size + 2 ≤ A.heap.size → Y i v A → body.wpIn (Fence.wide.inRound l) n P (postN W.heap.size N i I Ix A) (a₁ v) A)
    (hstop : ∀ (c : Code) (A : World), Ix c A → A.heap[W.heap.size]? = some (.deferred (some [])) → c.wpIn Fence.wide m P Q { a with defers := { target := .collected W.heap.size, args := #[] } :: a.defers } A) :
    (Code.rangeFunc g ps assign body).wpIn Fence.wide m P Q a W := by
  refine wpIn_rangeFunc ?_
  intro fn _
  obtain ⟨rec, hrec⟩ : ∃ rec : LoopState → Option Code → Loop, rec = fun st pe => { state := st, pending := pe, fn, tmps := a.tmps, params := ps, assign, body, defers := W.heap.size } := ⟨_, rfl⟩
  obtain ⟨W1, hW1⟩ : ∃ W1, (W.alloc (.deferred (some []))).alloc (.loop (rec .ready none)) = W1 := ⟨_, rfl⟩
  have hB1 : Below W.heap.size W W1 := by rw [← hW1]; exact ((Below.refl _ _).alloc (Nat.le_refl _) _).alloc (by simp) _
  have hs1 : W1.heap.size = W.heap.size + 2 := by rw [← hW1]; simp
  have hL1 : W1.heap[W.heap.size + 1]? = some (.loop (rec .ready none)) := by
    rw [← hW1]; have := heap_alloc_new (W.alloc (.deferred (some []))) (.loop (rec .ready none)); simpa using this
  have hD1 : W1.heap[W.heap.size]? = some (.deferred (some [])) := by
    rw [← hW1]
    have e := ((Below.refl (W.heap.size + 1) (W.alloc (.deferred (some [])))).alloc (by simp) (.loop (rec .ready none))).block W.heap.size (by omega)
    rw [e]; exact heap_alloc_new W _
  refine ⟨W.heap.size + 1, [{ target := .collected W.heap.size, args := #[] }], W1, { target := .fn (.func gf) lb, args := #[.func (.yield (W.heap.size + 1)) #[] #[]] }, W1, gf,
    #[.func (.yield (W.heap.size + 1)) #[] #[]] ++ lb, W1, ?_, ?_, fun f' _ => trivial, ?_, fun h => (by cases h), callsIn_wide.2 ?_⟩
  · rw [← hW1, hrec]; exact run_enterLoop_outer _ _ _ _ _
  · simp only [resolve, hg]
    simp [go_sem]
  · simp [invoke, go_sem, eg]
  refine (iter (W.heap.size + 1) W1
    (fun i A => I i A ∧ A.heap[W.heap.size + 1]? = some (.loop (rec .ready none)) ∧ A.heap[W.heap.size]? = some (.deferred (some [])))
    (fun B => ∃ c, Ix c B ∧ B.heap[W.heap.size + 1]? = some (.loop (rec .done (some c))) ∧ B.heap[W.heap.size]? = some (.deferred (some [])))
    hs1 hB1 ⟨hI1 0 W W1 h0 hB1, hL1, hD1⟩ (fun i A h => h.1) (fun i A B h hb => ?_) ?_).mono ?_
  · exact ⟨hI1 i A B h.1 hb, (hb.block _ (Array.getElem?_eq_some_iff.1 h.2.1).1).trans h.2.1, (hb.block _ (Array.getElem?_eq_some_iff.1 h.2.2).1).trans h.2.2⟩
  · rintro i v A hiN ⟨hi, hl, hd⟩ hsz hy
    have hlt : W.heap.size + 1 < A.heap.size := (Array.getElem?_eq_some_iff.1 hl).1
    have hry := run_yield (P := P) (args := #[v]) hl (by rw [hrec]; exact hps.symm)
    rw [hrec] at hry
    refine ⟨fn, _, assign, body, hry, roundIn_of_wpIn trivial (hass _ v A _ ⟨_, run_beginRound hl (by rw [hrec]), ?_⟩)⟩
    obtain ⟨A2, hA2⟩ : ∃ A2, A.putObj (W.heap.size + 1) (.loop { rec .ready none with state := .busy }) = A2 := ⟨_, rfl⟩
    have hl2 : A2.heap[W.heap.size + 1]? = some (.loop { rec .ready none with state := .busy }) := by rw [← hA2]; exact World.putObj_heap_same hlt
    have hd2 : A2.heap[W.heap.size]? = some (.deferred (some [])) := by rw [← hA2]; exact (World.putObj_heap_other (by omega)).trans hd
    have hI' : I i A2 := by rw [← hA2]; exact hI2 i A _ _ _ (by omega) hl rfl rfl hi
    have hY' : Y i v A2 := by rw [← hA2]; exact hY2 i v A _ _ _ (by omega) hl rfl rfl hy
    have hs2 : A2.heap.size = A.heap.size := by rw [← hA2]; simp [World.putObj]
    have hk2 : Kept W1.heap.size A A2 := ⟨by omega, fun k hk hlt => by rw [← hA2]; exact World.putObj_heap_other (by omega)⟩
    rw [hA2]
    refine wpIn_mono (hbody _ i v A2 hiN hI' (by omega) hY') ?_
    have fin : ∀ (jump : Option Code) (A3 : World), Kept W.heap.size A2 A3 →
        (Instr.endRound (W.heap.size + 1) jump).run P A3 = .ok (.bool jump.isNone) (A3.putObj (W.heap.size + 1) (.loop (rec (if jump.isNone then .ready else .done) jump))) ∧
        A3.heap[W.heap.size + 1]? = some (.loop { rec .ready none with state := .busy }) ∧
        (A3.putObj (W.heap.size + 1) (.loop (rec (if jump.isNone then .ready else .done) jump))).heap[W.heap.size + 1]? = some (.loop (rec (if jump.isNone then .ready else .done) jump)) ∧
        (A3.putObj (W.heap.size + 1) (.loop (rec (if jump.isNone then .ready else .done) jump))).heap[W.heap.size]? = some (.deferred (some [])) ∧
        Kept W1.heap.size A (A3.putObj (W.heap.size + 1) (.loop (rec (if jump.isNone then .ready else .done) jump))) := fun jump A3 hk3 => by
      have hl3 := (hk3.2 (W.heap.size + 1) (by omega) (by omega)).trans hl2
      have hd3 := (hk3.2 W.heap.size (Nat.le_refl _) (by omega)).trans hd2
      have hlt3 : W.heap.size + 1 < A3.heap.size := (Array.getElem?_eq_some_iff.1 hl3).1
      have := run_endRound (P := P) jump hl3
      rw [hrec] at this ⊢
      refine ⟨this, by rw [hrec] at hl3; exact hl3, World.putObj_heap_same hlt3, (World.putObj_heap_other (by omega)).trans hd3, ?_, fun k hk hlt => ?_⟩
      · have := hk3.1; simp [World.putObj]; omega
      · have h1 : k ≠ W.heap.size + 1 := by omega
        rw [World.putObj_heap_other h1, hk3.2 k (by omega) (by omega)]
        exact hk2.2 k hk hlt
    rintro e a3 A3 hp
    cases e with
    | normal =>
      obtain ⟨hk3, hN3, hi3⟩ := hp
      obtain ⟨hr, hl3, hl4, hd4, hk4⟩ := fin none A3 hk3
      exact ⟨_, _, hr, .inl ⟨rfl, hN3, ⟨hI2 _ _ _ _ _ (by omega) hl3 rfl rfl hi3, hl4, hd4⟩, hk4⟩⟩
    | exit id =>
      obtain ⟨hk3, hi3⟩ := hp
      obtain ⟨hr, hl3, hl4, hd4, _⟩ := fin (some (.exit id)) A3 hk3
      exact ⟨_, _, hr, .inr ⟨rfl, .exit id, hX2 _ _ _ _ _ (by omega) hl3 rfl rfl hi3, hl4, hd4⟩⟩
    | ret => exact hp.elim
    | goto t => exact hp.elim
    | panic ch => exact hp.elim
    | outgrown => exact hp.elim
  · rintro e B ⟨⟨v, rfl⟩, c, hi, hl, hd⟩
    refine ⟨some c, _, by have := run_endLoop (P := P) hl (by rw [hrec]; simp); rw [hrec] at this; exact this, hstop c _ (hX2 _ _ _ _ _ (by omega) hl rfl rfl hi) ((World.putObj_heap_other (by omega)).trans hd)⟩
end Go.Proofs.YtjmiaakfdclfjaaGreatDoor
