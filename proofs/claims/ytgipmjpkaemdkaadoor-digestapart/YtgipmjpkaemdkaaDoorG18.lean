/-
  Digest: New.
-/
import Derived.Test.YtgipmjpkaemdkaaDoorG17
namespace Go.Proofs.YtgipmjpkaemdkaaDoor
open Go.RowKit
theorem Rd.range {k : IntKind} {w : World} {b off : Nat} {xs : List Int} (h : Rd k w b off xs) : w.rangeAt b off (xs.map (Value.int k)) := by
  intro j v hj
  have hlt : j < xs.length := by have := (List.getElem?_eq_some_iff.1 hj).1; simpa using this
  rw [h j hlt, ← hj]
  simp [hlt]
/-- A Hash that was handed nothing, its state still noughts. -/
def Hs.empty (alg : Int) : Hs := ⟨alg, 0, R8.zero, R8.zero, List.replicate 128 0⟩
theorem R8.zero_ok (U : Int → Prop) (h : U 0) : R8.zero.ok U := ⟨h, h, h, h, h, h, h, h⟩
theorem zeros_u8 (n : Nat) : U8s (List.replicate n 0) := fun x hx => by rw [(List.mem_replicate.1 hx).2]; exact ⟨by decide, by decide⟩
theorem of_ok {U : Int → Prop} {xs : List Int} (h : ∀ i, i < 8 → U (xs.getD i 0)) : (R8.of xs).ok U := ⟨h 0 (by omega), h 1 (by omega), h 2 (by omega), h 3 (by omega), h 4 (by omega), h 5 (by omega), h 6 (by omega), h 7 (by omega)⟩
theorem first1_u : ∀ i, i < 8 → U32 (first1L.getD i 0) := by unfold U32; decide
theorem first256_u : ∀ i, i < 8 → U32 (first256L.getD i 0) := by unfold U32; decide
theorem first384_u : ∀ i, i < 8 → U64 (first384L.getD i 0) := by unfold U64; decide
theorem first512_u : ∀ i, i < 8 → U64 (first512L.getD i 0) := by unfold U64; decide
/-- The state ahead of the first block. -/
def Hs.start (alg : Int) : Hs := { Hs.empty alg with words := firstW alg, wide := firstQ alg }
theorem Hs.start_ok {alg : Int} (ha : Alg alg) : (Hs.start alg).ok := by
  rcases ha with rfl | rfl | rfl | rfl
  · exact ⟨of_ok first1_u, R8.zero_ok _ ⟨by decide, by decide⟩, by simp [Hs.start, Hs.empty], zeros_u8 128⟩
  · exact ⟨of_ok first256_u, R8.zero_ok _ ⟨by decide, by decide⟩, by simp [Hs.start, Hs.empty], zeros_u8 128⟩
  · exact ⟨R8.zero_ok _ ⟨by decide, by decide⟩, of_ok first384_u, by simp [Hs.start, Hs.empty], zeros_u8 128⟩
  · exact ⟨R8.zero_ok _ ⟨by decide, by decide⟩, of_ok first512_u, by simp [Hs.start, Hs.empty], zeros_u8 128⟩
theorem Hs.start_inv (alg : Int) : Inv alg (Hs.start alg) [] := ⟨rfl, rfl, by simp [Hs.start, run], by simp⟩

set_option maxRecDepth 4000 in
set_option maxHeartbeats 1000000 in
theorem Start_1 {w : World} (hT : Tabs w) : Calls Tryd.prog 30 #[.int .i64 1] w fun e w' => e = .returned (.agg (Hs.start 1).cells.toArray) ∧ Below w.heap.size w w' := by
  have hz7 := hT.size
  have hcl : (Hs.empty 1).cells.length = 146 := Hs.cells_len (by simp [Hs.empty])
  have hcs : (Hs.start 1).cells.length = 146 := Hs.cells_len (by simp [Hs.start, Hs.empty])
  have HSz : Hid ((Tryd.prog.info? 54).map (·.size) = some 146) := Tryd.sizeH
  have HI : Hid (∀ (za zb : List Value), za.length = 146 → zb.length = 146 → ((w.alloc (.cells za.toArray 54)).alloc (.cells zb.toArray 54)).there (w.heap.size + 1) 0 146 ∧
      (fun W2 : World => (∃ zs : List Value, zs.length = 146 ∧ Blk 54 W2 w.heap.size zs) ∧ Blk 54 W2 (w.heap.size + 1) (Hs.empty 1).cells ∧ Below w.heap.size w W2) (((w.alloc (.cells za.toArray 54)).alloc (.cells zb.toArray 54)).setCells (w.heap.size + 1) 0 (Hs.empty 1).cells)) := fun za zb ha hb => by
    have e1 : (w.alloc (.cells za.toArray 54)).heap.size = w.heap.size + 1 := by simp
    have h1 := (Blk.new 54 w za).alloc (.cells zb.toArray 54)
    have h2 := Blk.new 54 (w.alloc (.cells za.toArray 54)) zb
    rw [e1] at h2
    have hB1 : Below w.heap.size w ((w.alloc (.cells za.toArray 54)).alloc (.cells zb.toArray 54)) := ((Below.refl _ _).alloc (Nat.le_refl _) _).alloc (by simp) _
    refine ⟨h2.there 0 146 (by omega), ⟨za, ha, (Upd.setCells _ _ _).blk h1 (by omega)⟩, h2.fill _ (by rw [hcl, hb]), (Upd.setCells _ _ _).below hB1 hB1.size (by omega)⟩
  have HR : Hid (∀ W, Below w.heap.size w W → W.rangeAt 0 0 (first1L.map (Value.int .u32))) := fun W hW => (below_rd hW (by omega) hT.f1).range
  have HS : Hid ((Tryd.prog.info? 49).map (·.size) = some (first1L.map (Value.int .u32)).length) := Tryd.size8w
  clear hT
  go_enter Tryd.func30, Tryd.ntmps30
  go_upto_region 2 with (refine wpList_store_mid rfl 54 (.tmp 3) (.tmp 5) rfl (w.heap.size + 1) 0 (Hs.empty 1).cells.toArray rfl rfl (HI.out _ _ rfl rfl).1 HSz.out (Hs.cells_one _) ?_)
  refine wp_gen (fun W2 : World => (∃ zs : List Value, zs.length = 146 ∧ Blk 54 W2 w.heap.size zs) ∧ Blk 54 W2 (w.heap.size + 1) (Hs.empty 1).cells ∧ Below w.heap.size w W2) (HI.out _ _ rfl rfl).2 ?_
  rintro W2 ⟨⟨zs, hzl, hZ⟩, hE, hBE⟩
  have HR2 : Hid (W2.rangeAt 0 0 (first1L.map (Value.int .u32))) := HR.out W2 hBE
  have HTh : Hid (W2.there (w.heap.size + 1) 2 (first1L.map (Value.int .u32)).toArray.size) := hE.there _ _ (by rw [hcl]; decide)
  obtain ⟨W3, hW3⟩ : ∃ W3, W2.setCells (w.heap.size + 1) 2 (first1L.map (Value.int .u32)) = W3 := ⟨_, rfl⟩
  have hb3 : Blk 54 W3 (w.heap.size + 1) (Hs.start 1).cells := by
    have := hE.setCells 2 ((R8.of first1L).list.map (Value.int .u32)) (by rw [hcl]; decide)
    rw [Hs.over_words] at this
    rw [← hW3]; exact this
  have hu3 : Upd W2 W3 (w.heap.size + 1) := by rw [← hW3]; exact Upd.setCells _ _ _
  have hz3 := hu3.blk hZ (by omega)
  have HRB : Hid (W3.rangeAt (w.heap.size + 1) 0 (Hs.start 1).cells) := hb3.whole
  have HTA : Hid (W3.there w.heap.size 0 (Hs.start 1).cells.toArray.size) := hz3.there 0 _ (by simp [hcs, hzl])
  have HF : Hid (Blk 54 (W3.setCells w.heap.size 0 (Hs.start 1).cells) w.heap.size (Hs.start 1).cells ∧ Below w.heap.size w (W3.setCells w.heap.size 0 (Hs.start 1).cells)) := by
    have hB3 : Below w.heap.size w W3 := hu3.below hBE hBE.size (by omega)
    exact ⟨hz3.fill _ (by rw [hcs, hzl]), (Upd.setCells _ _ _).below hB3 hB3.size (Nat.le_refl _)⟩
  have HSc : Hid ((Tryd.prog.info? 54).map (·.size) = some (Hs.start 1).cells.length) := by rw [hcs]; exact Tryd.sizeH
  have HW3 : Hid (W2.setCells (w.heap.size + 1) 2 (first1L.map (Value.int .u32)) = W3) := hW3
  clear hZ hE hBE hb3 hu3 hz3 hW3 HI HR hcl hcs
  go_wp2_with (first
    | (refine wpList_load_mid rfl 49 (.global 0) rfl 0 0 rfl (first1L.map (Value.int .u32)) _ HR2.out Tryd.underlying49 rfl HS.out ?_)
    | (refine wpList_store_mid rfl 49 (.tmp 10) (.tmp 9) rfl (w.heap.size + 1) 2 (first1L.map (Value.int .u32)).toArray rfl rfl HTh.out (by simpa using HS.out) (ints_one _ _) ?_; rw [HW3.out])
    | (refine wpList_load_mid rfl 54 (.tmp 3) rfl (w.heap.size + 1) 0 rfl (Hs.start 1).cells _ HRB.out Tryd.underlying54 rfl HSc.out ?_)
    | (refine wpList_store_mid rfl 54 (.tmp 2) (.tmp 23) rfl w.heap.size 0 (Hs.start 1).cells.toArray rfl rfl HTA.out (by simpa using HSc.out) (Hs.cells_one _) ?_))
  refine bodyPost_ret (v := .agg (Hs.start 1).cells.toArray) (results_blk (b := w.heap.size) (cs := (Hs.start 1).cells) rfl rfl HF.out.1 Tryd.underlying54 rfl HSc.out) rfl ⟨rfl, HF.out.2⟩

set_option maxRecDepth 4000 in
set_option maxHeartbeats 1000000 in
theorem Start_2 {w : World} (hT : Tabs w) : Calls Tryd.prog 30 #[.int .i64 2] w fun e w' => e = .returned (.agg (Hs.start 2).cells.toArray) ∧ Below w.heap.size w w' := by
  have hz7 := hT.size
  have hcl : (Hs.empty 2).cells.length = 146 := Hs.cells_len (by simp [Hs.empty])
  have hcs : (Hs.start 2).cells.length = 146 := Hs.cells_len (by simp [Hs.start, Hs.empty])
  have HSz : Hid ((Tryd.prog.info? 54).map (·.size) = some 146) := Tryd.sizeH
  have HI : Hid (∀ (za zb : List Value), za.length = 146 → zb.length = 146 → ((w.alloc (.cells za.toArray 54)).alloc (.cells zb.toArray 54)).there (w.heap.size + 1) 0 146 ∧
      (fun W2 : World => (∃ zs : List Value, zs.length = 146 ∧ Blk 54 W2 w.heap.size zs) ∧ Blk 54 W2 (w.heap.size + 1) (Hs.empty 2).cells ∧ Below w.heap.size w W2) (((w.alloc (.cells za.toArray 54)).alloc (.cells zb.toArray 54)).setCells (w.heap.size + 1) 0 (Hs.empty 2).cells)) := fun za zb ha hb => by
    have e1 : (w.alloc (.cells za.toArray 54)).heap.size = w.heap.size + 1 := by simp
    have h1 := (Blk.new 54 w za).alloc (.cells zb.toArray 54)
    have h2 := Blk.new 54 (w.alloc (.cells za.toArray 54)) zb
    rw [e1] at h2
    have hB1 : Below w.heap.size w ((w.alloc (.cells za.toArray 54)).alloc (.cells zb.toArray 54)) := ((Below.refl _ _).alloc (Nat.le_refl _) _).alloc (by simp) _
    refine ⟨h2.there 0 146 (by omega), ⟨za, ha, (Upd.setCells _ _ _).blk h1 (by omega)⟩, h2.fill _ (by rw [hcl, hb]), (Upd.setCells _ _ _).below hB1 hB1.size (by omega)⟩
  have HR : Hid (∀ W, Below w.heap.size w W → W.rangeAt 1 0 (first256L.map (Value.int .u32))) := fun W hW => (below_rd hW (by omega) hT.f256).range
  have HS : Hid ((Tryd.prog.info? 49).map (·.size) = some (first256L.map (Value.int .u32)).length) := Tryd.size8w
  clear hT
  go_enter Tryd.func30, Tryd.ntmps30
  go_upto_region 2 with (refine wpList_store_mid rfl 54 (.tmp 3) (.tmp 5) rfl (w.heap.size + 1) 0 (Hs.empty 2).cells.toArray rfl rfl (HI.out _ _ rfl rfl).1 HSz.out (Hs.cells_one _) ?_)
  refine wp_gen (fun W2 : World => (∃ zs : List Value, zs.length = 146 ∧ Blk 54 W2 w.heap.size zs) ∧ Blk 54 W2 (w.heap.size + 1) (Hs.empty 2).cells ∧ Below w.heap.size w W2) (HI.out _ _ rfl rfl).2 ?_
  rintro W2 ⟨⟨zs, hzl, hZ⟩, hE, hBE⟩
  have HR2 : Hid (W2.rangeAt 1 0 (first256L.map (Value.int .u32))) := HR.out W2 hBE
  have HTh : Hid (W2.there (w.heap.size + 1) 2 (first256L.map (Value.int .u32)).toArray.size) := hE.there _ _ (by rw [hcl]; decide)
  obtain ⟨W3, hW3⟩ : ∃ W3, W2.setCells (w.heap.size + 1) 2 (first256L.map (Value.int .u32)) = W3 := ⟨_, rfl⟩
  have hb3 : Blk 54 W3 (w.heap.size + 1) (Hs.start 2).cells := by
    have := hE.setCells 2 ((R8.of first256L).list.map (Value.int .u32)) (by rw [hcl]; decide)
    rw [Hs.over_words] at this
    rw [← hW3]; exact this
  have hu3 : Upd W2 W3 (w.heap.size + 1) := by rw [← hW3]; exact Upd.setCells _ _ _
  have hz3 := hu3.blk hZ (by omega)
  have HRB : Hid (W3.rangeAt (w.heap.size + 1) 0 (Hs.start 2).cells) := hb3.whole
  have HTA : Hid (W3.there w.heap.size 0 (Hs.start 2).cells.toArray.size) := hz3.there 0 _ (by simp [hcs, hzl])
  have HF : Hid (Blk 54 (W3.setCells w.heap.size 0 (Hs.start 2).cells) w.heap.size (Hs.start 2).cells ∧ Below w.heap.size w (W3.setCells w.heap.size 0 (Hs.start 2).cells)) := by
    have hB3 : Below w.heap.size w W3 := hu3.below hBE hBE.size (by omega)
    exact ⟨hz3.fill _ (by rw [hcs, hzl]), (Upd.setCells _ _ _).below hB3 hB3.size (Nat.le_refl _)⟩
  have HSc : Hid ((Tryd.prog.info? 54).map (·.size) = some (Hs.start 2).cells.length) := by rw [hcs]; exact Tryd.sizeH
  have HW3 : Hid (W2.setCells (w.heap.size + 1) 2 (first256L.map (Value.int .u32)) = W3) := hW3
  clear hZ hE hBE hb3 hu3 hz3 hW3 HI HR hcl hcs
  go_wp2_with (first
    | (refine wpList_load_mid rfl 49 (.global 1) rfl 1 0 rfl (first256L.map (Value.int .u32)) _ HR2.out Tryd.underlying49 rfl HS.out ?_)
    | (refine wpList_store_mid rfl 49 (.tmp 14) (.tmp 13) rfl (w.heap.size + 1) 2 (first256L.map (Value.int .u32)).toArray rfl rfl HTh.out (by simpa using HS.out) (ints_one _ _) ?_; rw [HW3.out])
    | (refine wpList_load_mid rfl 54 (.tmp 3) rfl (w.heap.size + 1) 0 rfl (Hs.start 2).cells _ HRB.out Tryd.underlying54 rfl HSc.out ?_)
    | (refine wpList_store_mid rfl 54 (.tmp 2) (.tmp 23) rfl w.heap.size 0 (Hs.start 2).cells.toArray rfl rfl HTA.out (by simpa using HSc.out) (Hs.cells_one _) ?_))
  refine bodyPost_ret (v := .agg (Hs.start 2).cells.toArray) (results_blk (b := w.heap.size) (cs := (Hs.start 2).cells) rfl rfl HF.out.1 Tryd.underlying54 rfl HSc.out) rfl ⟨rfl, HF.out.2⟩

set_option maxRecDepth 4000 in
set_option maxHeartbeats 1000000 in
theorem Start_3 {w : World} (hT : Tabs w) : Calls Tryd.prog 30 #[.int .i64 3] w fun e w' => e = .returned (.agg (Hs.start 3).cells.toArray) ∧ Below w.heap.size w w' := by
  have hz7 := hT.size
  have hcl : (Hs.empty 3).cells.length = 146 := Hs.cells_len (by simp [Hs.empty])
  have hcs : (Hs.start 3).cells.length = 146 := Hs.cells_len (by simp [Hs.start, Hs.empty])
  have HSz : Hid ((Tryd.prog.info? 54).map (·.size) = some 146) := Tryd.sizeH
  have HI : Hid (∀ (za zb : List Value), za.length = 146 → zb.length = 146 → ((w.alloc (.cells za.toArray 54)).alloc (.cells zb.toArray 54)).there (w.heap.size + 1) 0 146 ∧
      (fun W2 : World => (∃ zs : List Value, zs.length = 146 ∧ Blk 54 W2 w.heap.size zs) ∧ Blk 54 W2 (w.heap.size + 1) (Hs.empty 3).cells ∧ Below w.heap.size w W2) (((w.alloc (.cells za.toArray 54)).alloc (.cells zb.toArray 54)).setCells (w.heap.size + 1) 0 (Hs.empty 3).cells)) := fun za zb ha hb => by
    have e1 : (w.alloc (.cells za.toArray 54)).heap.size = w.heap.size + 1 := by simp
    have h1 := (Blk.new 54 w za).alloc (.cells zb.toArray 54)
    have h2 := Blk.new 54 (w.alloc (.cells za.toArray 54)) zb
    rw [e1] at h2
    have hB1 : Below w.heap.size w ((w.alloc (.cells za.toArray 54)).alloc (.cells zb.toArray 54)) := ((Below.refl _ _).alloc (Nat.le_refl _) _).alloc (by simp) _
    refine ⟨h2.there 0 146 (by omega), ⟨za, ha, (Upd.setCells _ _ _).blk h1 (by omega)⟩, h2.fill _ (by rw [hcl, hb]), (Upd.setCells _ _ _).below hB1 hB1.size (by omega)⟩
  have HR : Hid (∀ W, Below w.heap.size w W → W.rangeAt 2 0 (first384L.map (Value.int .u64))) := fun W hW => (below_rd hW (by omega) hT.f384).range
  have HS : Hid ((Tryd.prog.info? 51).map (·.size) = some (first384L.map (Value.int .u64)).length) := Tryd.eight512
  clear hT
  go_enter Tryd.func30, Tryd.ntmps30
  go_upto_region 2 with (refine wpList_store_mid rfl 54 (.tmp 3) (.tmp 5) rfl (w.heap.size + 1) 0 (Hs.empty 3).cells.toArray rfl rfl (HI.out _ _ rfl rfl).1 HSz.out (Hs.cells_one _) ?_)
  refine wp_gen (fun W2 : World => (∃ zs : List Value, zs.length = 146 ∧ Blk 54 W2 w.heap.size zs) ∧ Blk 54 W2 (w.heap.size + 1) (Hs.empty 3).cells ∧ Below w.heap.size w W2) (HI.out _ _ rfl rfl).2 ?_
  rintro W2 ⟨⟨zs, hzl, hZ⟩, hE, hBE⟩
  have HR2 : Hid (W2.rangeAt 2 0 (first384L.map (Value.int .u64))) := HR.out W2 hBE
  have HTh : Hid (W2.there (w.heap.size + 1) 10 (first384L.map (Value.int .u64)).toArray.size) := hE.there _ _ (by rw [hcl]; decide)
  obtain ⟨W3, hW3⟩ : ∃ W3, W2.setCells (w.heap.size + 1) 10 (first384L.map (Value.int .u64)) = W3 := ⟨_, rfl⟩
  have hb3 : Blk 54 W3 (w.heap.size + 1) (Hs.start 3).cells := by
    have := hE.setCells 10 ((R8.of first384L).list.map (Value.int .u64)) (by rw [hcl]; decide)
    rw [Hs.over_wide] at this
    rw [← hW3]; exact this
  have hu3 : Upd W2 W3 (w.heap.size + 1) := by rw [← hW3]; exact Upd.setCells _ _ _
  have hz3 := hu3.blk hZ (by omega)
  have HRB : Hid (W3.rangeAt (w.heap.size + 1) 0 (Hs.start 3).cells) := hb3.whole
  have HTA : Hid (W3.there w.heap.size 0 (Hs.start 3).cells.toArray.size) := hz3.there 0 _ (by simp [hcs, hzl])
  have HF : Hid (Blk 54 (W3.setCells w.heap.size 0 (Hs.start 3).cells) w.heap.size (Hs.start 3).cells ∧ Below w.heap.size w (W3.setCells w.heap.size 0 (Hs.start 3).cells)) := by
    have hB3 : Below w.heap.size w W3 := hu3.below hBE hBE.size (by omega)
    exact ⟨hz3.fill _ (by rw [hcs, hzl]), (Upd.setCells _ _ _).below hB3 hB3.size (Nat.le_refl _)⟩
  have HSc : Hid ((Tryd.prog.info? 54).map (·.size) = some (Hs.start 3).cells.length) := by rw [hcs]; exact Tryd.sizeH
  have HW3 : Hid (W2.setCells (w.heap.size + 1) 10 (first384L.map (Value.int .u64)) = W3) := hW3
  clear hZ hE hBE hb3 hu3 hz3 hW3 HI HR hcl hcs
  go_wp2_with (first
    | (refine wpList_load_mid rfl 51 (.global 2) rfl 2 0 rfl (first384L.map (Value.int .u64)) _ HR2.out Tryd.underlying51 rfl HS.out ?_)
    | (refine wpList_store_mid rfl 51 (.tmp 18) (.tmp 17) rfl (w.heap.size + 1) 10 (first384L.map (Value.int .u64)).toArray rfl rfl HTh.out (by simpa using HS.out) (ints_one _ _) ?_; rw [HW3.out])
    | (refine wpList_load_mid rfl 54 (.tmp 3) rfl (w.heap.size + 1) 0 rfl (Hs.start 3).cells _ HRB.out Tryd.underlying54 rfl HSc.out ?_)
    | (refine wpList_store_mid rfl 54 (.tmp 2) (.tmp 23) rfl w.heap.size 0 (Hs.start 3).cells.toArray rfl rfl HTA.out (by simpa using HSc.out) (Hs.cells_one _) ?_))
  refine bodyPost_ret (v := .agg (Hs.start 3).cells.toArray) (results_blk (b := w.heap.size) (cs := (Hs.start 3).cells) rfl rfl HF.out.1 Tryd.underlying54 rfl HSc.out) rfl ⟨rfl, HF.out.2⟩

set_option maxRecDepth 4000 in
set_option maxHeartbeats 1000000 in
theorem Start_4 {w : World} (hT : Tabs w) : Calls Tryd.prog 30 #[.int .i64 4] w fun e w' => e = .returned (.agg (Hs.start 4).cells.toArray) ∧ Below w.heap.size w w' := by
  have hz7 := hT.size
  have hcl : (Hs.empty 4).cells.length = 146 := Hs.cells_len (by simp [Hs.empty])
  have hcs : (Hs.start 4).cells.length = 146 := Hs.cells_len (by simp [Hs.start, Hs.empty])
  have HSz : Hid ((Tryd.prog.info? 54).map (·.size) = some 146) := Tryd.sizeH
  have HI : Hid (∀ (za zb : List Value), za.length = 146 → zb.length = 146 → ((w.alloc (.cells za.toArray 54)).alloc (.cells zb.toArray 54)).there (w.heap.size + 1) 0 146 ∧
      (fun W2 : World => (∃ zs : List Value, zs.length = 146 ∧ Blk 54 W2 w.heap.size zs) ∧ Blk 54 W2 (w.heap.size + 1) (Hs.empty 4).cells ∧ Below w.heap.size w W2) (((w.alloc (.cells za.toArray 54)).alloc (.cells zb.toArray 54)).setCells (w.heap.size + 1) 0 (Hs.empty 4).cells)) := fun za zb ha hb => by
    have e1 : (w.alloc (.cells za.toArray 54)).heap.size = w.heap.size + 1 := by simp
    have h1 := (Blk.new 54 w za).alloc (.cells zb.toArray 54)
    have h2 := Blk.new 54 (w.alloc (.cells za.toArray 54)) zb
    rw [e1] at h2
    have hB1 : Below w.heap.size w ((w.alloc (.cells za.toArray 54)).alloc (.cells zb.toArray 54)) := ((Below.refl _ _).alloc (Nat.le_refl _) _).alloc (by simp) _
    refine ⟨h2.there 0 146 (by omega), ⟨za, ha, (Upd.setCells _ _ _).blk h1 (by omega)⟩, h2.fill _ (by rw [hcl, hb]), (Upd.setCells _ _ _).below hB1 hB1.size (by omega)⟩
  have HR : Hid (∀ W, Below w.heap.size w W → W.rangeAt 3 0 (first512L.map (Value.int .u64))) := fun W hW => (below_rd hW (by omega) hT.f512).range
  have HS : Hid ((Tryd.prog.info? 51).map (·.size) = some (first512L.map (Value.int .u64)).length) := Tryd.eight512
  clear hT
  go_enter Tryd.func30, Tryd.ntmps30
  go_upto_region 2 with (refine wpList_store_mid rfl 54 (.tmp 3) (.tmp 5) rfl (w.heap.size + 1) 0 (Hs.empty 4).cells.toArray rfl rfl (HI.out _ _ rfl rfl).1 HSz.out (Hs.cells_one _) ?_)
  refine wp_gen (fun W2 : World => (∃ zs : List Value, zs.length = 146 ∧ Blk 54 W2 w.heap.size zs) ∧ Blk 54 W2 (w.heap.size + 1) (Hs.empty 4).cells ∧ Below w.heap.size w W2) (HI.out _ _ rfl rfl).2 ?_
  rintro W2 ⟨⟨zs, hzl, hZ⟩, hE, hBE⟩
  have HR2 : Hid (W2.rangeAt 3 0 (first512L.map (Value.int .u64))) := HR.out W2 hBE
  have HTh : Hid (W2.there (w.heap.size + 1) 10 (first512L.map (Value.int .u64)).toArray.size) := hE.there _ _ (by rw [hcl]; decide)
  obtain ⟨W3, hW3⟩ : ∃ W3, W2.setCells (w.heap.size + 1) 10 (first512L.map (Value.int .u64)) = W3 := ⟨_, rfl⟩
  have hb3 : Blk 54 W3 (w.heap.size + 1) (Hs.start 4).cells := by
    have := hE.setCells 10 ((R8.of first512L).list.map (Value.int .u64)) (by rw [hcl]; decide)
    rw [Hs.over_wide] at this
    rw [← hW3]; exact this
  have hu3 : Upd W2 W3 (w.heap.size + 1) := by rw [← hW3]; exact Upd.setCells _ _ _
  have hz3 := hu3.blk hZ (by omega)
  have HRB : Hid (W3.rangeAt (w.heap.size + 1) 0 (Hs.start 4).cells) := hb3.whole
  have HTA : Hid (W3.there w.heap.size 0 (Hs.start 4).cells.toArray.size) := hz3.there 0 _ (by simp [hcs, hzl])
  have HF : Hid (Blk 54 (W3.setCells w.heap.size 0 (Hs.start 4).cells) w.heap.size (Hs.start 4).cells ∧ Below w.heap.size w (W3.setCells w.heap.size 0 (Hs.start 4).cells)) := by
    have hB3 : Below w.heap.size w W3 := hu3.below hBE hBE.size (by omega)
    exact ⟨hz3.fill _ (by rw [hcs, hzl]), (Upd.setCells _ _ _).below hB3 hB3.size (Nat.le_refl _)⟩
  have HSc : Hid ((Tryd.prog.info? 54).map (·.size) = some (Hs.start 4).cells.length) := by rw [hcs]; exact Tryd.sizeH
  have HW3 : Hid (W2.setCells (w.heap.size + 1) 10 (first512L.map (Value.int .u64)) = W3) := hW3
  clear hZ hE hBE hb3 hu3 hz3 hW3 HI HR hcl hcs
  go_wp2_with (first
    | (refine wpList_load_mid rfl 51 (.global 3) rfl 3 0 rfl (first512L.map (Value.int .u64)) _ HR2.out Tryd.underlying51 rfl HS.out ?_)
    | (refine wpList_store_mid rfl 51 (.tmp 22) (.tmp 21) rfl (w.heap.size + 1) 10 (first512L.map (Value.int .u64)).toArray rfl rfl HTh.out (by simpa using HS.out) (ints_one _ _) ?_; rw [HW3.out])
    | (refine wpList_load_mid rfl 54 (.tmp 3) rfl (w.heap.size + 1) 0 rfl (Hs.start 4).cells _ HRB.out Tryd.underlying54 rfl HSc.out ?_)
    | (refine wpList_store_mid rfl 54 (.tmp 2) (.tmp 23) rfl w.heap.size 0 (Hs.start 4).cells.toArray rfl rfl HTA.out (by simpa using HSc.out) (Hs.cells_one _) ?_))
  refine bodyPost_ret (v := .agg (Hs.start 4).cells.toArray) (results_blk (b := w.heap.size) (cs := (Hs.start 4).cells) rfl rfl HF.out.1 Tryd.underlying54 rfl HSc.out) rfl ⟨rfl, HF.out.2⟩

theorem Start_any {w : World} (alg : Int) (ha : Alg alg) (hT : Tabs w) : Calls Tryd.prog 30 #[.int .i64 alg] w fun e w' => e = .returned (.agg (Hs.start alg).cells.toArray) ∧ Below w.heap.size w w' := by
  rcases ha with rfl | rfl | rfl | rfl
  · exact Start_1 hT
  · exact Start_2 hT
  · exact Start_3 hT
  · exact Start_4 hT
theorem blk_no {alg : Int} (ha : ¬ Alg alg) : blk alg = 0 := by
  have h1 : ¬ alg = 1 := fun h => ha (.inl h)
  have h2 : ¬ alg = 2 := fun h => ha (.inr (.inl h))
  have h3 : ¬ alg = 3 := fun h => ha (.inr (.inr (.inl h)))
  have h4 : ¬ alg = 4 := fun h => ha (.inr (.inr (.inr h)))
  unfold blk; rw [if_neg h1, if_neg h2, if_neg h3, if_neg h4]
theorem New_no {w : World} (alg : Int) (ha : ¬ Alg alg) : Calls Tryd.prog 21 #[.int .i64 alg] w fun e w' => e = .returned (.tuple #[.pointer none, .int .i64 1]) ∧ Below w.heap.size w w' := by
  have HBl : Hid (∀ w' : World, Calls Tryd.prog 19 #[.int .i64 alg] w' fun e w'' => e = .returned (.int .i64 0) ∧ w' = w'') := fun w' => (Block_any alg).mono fun _ _ h => ⟨by rw [h.1, blk_no ha]; rfl, h.2.symm⟩
  go_enter Tryd.func21, Tryd.ntmps21
  go_wp2_with (go_at_call 19; refine (HBl.out _).mono ?_; rintro e w' ⟨rfl, rfl⟩)
  go_ret2
  exact ⟨rfl, Below.refl _ _⟩
theorem foldl_sets (l : List Value) : ∀ (k : Nat) (acc : Array Value) (i : Nat), ((l.zipIdx k).foldl (fun (cs : Array Value) (cj : Value × Nat) => cs.setIfInBounds (0 + cj.2) cj.1) acc)[i]? = if k ≤ i ∧ i < k + l.length ∧ i < acc.size then l[i - k]? else acc[i]? := by
  induction l with
  | nil => intro k acc i; simp; intro h1 h2; omega
  | cons x l ih =>
    intro k acc i
    rw [List.zipIdx_cons, List.foldl_cons, ih]
    simp only [Nat.zero_add, Array.size_setIfInBounds, List.length_cons]
    by_cases h1 : k + 1 ≤ i ∧ i < k + 1 + l.length ∧ i < acc.size
    · rw [if_pos h1, if_pos ⟨by omega, by omega, h1.2.2⟩, show i - k = (i - (k + 1)) + 1 by omega, List.getElem?_cons_succ]
    · rw [if_neg h1]
      by_cases h2 : i = k
      · subst h2
        by_cases h3 : i < acc.size
        · rw [if_pos ⟨Nat.le_refl _, by omega, h3⟩]; simp [h3]
        · rw [if_neg (by omega)]; simp [h3]
      · rw [if_neg (by omega), Array.getElem?_setIfInBounds_ne (by omega)]
theorem fill_one (place : Nat → Option (Nat × Nat)) (zs cs : Array Value) (hp : place 0 = some (0, cs.size)) (hz : zs.size = cs.size) : Instr.fill place zs [(0, .agg cs)] = some cs := by
  have hc : (Value.agg cs).cells = cs := rfl
  unfold Instr.fill
  simp only [hp, hc]
  rw [if_neg (by simp [hz])]
  unfold Instr.fill
  congr 1
  rw [← Array.foldl_toList, Array.toList_zipIdx]
  apply Array.ext_getElem?
  intro i
  rw [foldl_sets]
  simp only [Nat.zero_le, true_and, Nat.zero_add, Array.length_toList, Nat.sub_zero]
  by_cases h : i < cs.size
  · rw [if_pos ⟨h, by omega⟩]; simp
  · rw [if_neg (by omega)]; simp [h, hz]
end Go.Proofs.YtgipmjpkaemdkaaDoor
