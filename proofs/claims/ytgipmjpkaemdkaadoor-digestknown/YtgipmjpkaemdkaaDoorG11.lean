/-
  Digest: the method mix.
-/
import Derived.Test.YtgipmjpkaemdkaaDoorG10
namespace Go.Proofs.YtgipmjpkaemdkaaDoor
open Go.RowKit
variable {HT : TypeId}
theorem below_upd {w w' : World} {b : Nat} (h : Below w.heap.size w w') : Upd w w' b := ⟨h.1, h.2, h.3, h.size, fun k hk _ => h.block k hk⟩

set_option maxHeartbeats 1000000 in
theorem mixM_1 {w : World} (h : Hs) (hk : h.ok) (ha : h.alg = 1) (g : Nat) (hG : Blk HT w g h.cells) (hT : Tabs w) (c off len cap : Nat) (bs : List Int) (hc : c < w.heap.size) (hr : Rd .u8 w c off bs) (ub : U8s bs) (hlen : bs.length ≤ len) (hlc : len ≤ cap) (hbs : bs.length = 64) :
    Calls Tryd.prog 39 #[.pointer (some ⟨g, 0, none⟩), .slice (some ⟨c, off, none⟩) len cap] w fun e w' => e = .returned (.tuple #[]) ∧ Blk HT w' g { h with words := mx1 h.words bs }.cells ∧ Upd w w' g := by
  have hc0 : w.cell? ⟨g, 0, none⟩ = some (.int .i64 h.alg) := hG.cell 0
  rw [ha] at hc0
  have HG : Hid (w.rangeAt g 2 (h.words.list.map (Value.int .u32))) := hG.range 2 _ h.range_words
  have HB : Hid (∀ w1, Below w.heap.size w w1 → w1.there g 2 ((mx1 h.words bs).list.map (Value.int .u32)).toArray.size ∧ Blk HT (w1.setCells g 2 ((mx1 h.words bs).list.map (Value.int .u32))) g { h with words := mx1 h.words bs }.cells ∧ Upd w (w1.setCells g 2 ((mx1 h.words bs).list.map (Value.int .u32))) g) := fun w1 h1 => by
    have hb1 := below_blk h1 hG.lt hG
    have hl := Hs.cells_len hk.len
    refine ⟨hb1.there _ _ (by simp [hl, R8.list]), ?_, (below_upd h1).trans (Upd.setCells _ _ _)⟩
    rw [← h.over_words]
    exact hb1.setCells _ _ (by simp [hl, R8.list])
  have HS : Hid (∀ r : R8, (Tryd.prog.info? 49).map (·.size) = some (r.list.map (Value.int .u32)).length) := fun r => Tryd.size8w
  have HX := fun w' (hw : w' = w) => mix1_any (w := w') h.words hk.words c off len cap bs (by rw [hw]; exact hc) (by rw [hw]; exact hr) ub hlen hlc hbs (by rw [hw]; exact hT)
  have HX2 : Hid (∀ w', w' = w → Calls Tryd.prog _ _ w' _) := HX
  clear HX hr hT
  go_enter Tryd.func39, Tryd.ntmps39
  go_wp2_with (first
    | (refine wpList_load_mid rfl _ _ rfl g 2 rfl (h.words.list.map (Value.int .u32)) _ HG.out Tryd.underlying49 rfl (HS.out _) ?_)
    | (go_at_call 47; refine (HX2.out _ rfl).mono ?_; rintro e w1 ⟨rfl, hb1⟩; have HB1 := HB.out w1 hb1; have HB2 : Hid _ := HB1; clear HB1 hb1)
    | (refine wpList_store_mid rfl _ _ _ rfl g 2 ((mx1 h.words bs).list.map (Value.int .u32)).toArray rfl rfl HB2.out.1 (by simpa using HS.out (mx1 h.words bs)) (ints_one _ _) ?_))
  exact bodyPost_end (v := .tuple #[]) (results_none rfl _ _ _) rfl ⟨rfl, HB2.out.2.1, HB2.out.2.2⟩

set_option maxHeartbeats 1000000 in
theorem mixM_2 {w : World} (h : Hs) (hk : h.ok) (ha : h.alg = 2) (g : Nat) (hG : Blk HT w g h.cells) (hT : Tabs w) (c off len cap : Nat) (bs : List Int) (hc : c < w.heap.size) (hr : Rd .u8 w c off bs) (ub : U8s bs) (hlen : bs.length ≤ len) (hlc : len ≤ cap) (hbs : bs.length = 64) :
    Calls Tryd.prog 39 #[.pointer (some ⟨g, 0, none⟩), .slice (some ⟨c, off, none⟩) len cap] w fun e w' => e = .returned (.tuple #[]) ∧ Blk HT w' g { h with words := mx256 h.words bs }.cells ∧ Upd w w' g := by
  have hc0 : w.cell? ⟨g, 0, none⟩ = some (.int .i64 h.alg) := hG.cell 0
  rw [ha] at hc0
  have HG : Hid (w.rangeAt g 2 (h.words.list.map (Value.int .u32))) := hG.range 2 _ h.range_words
  have HB : Hid (∀ w1, Below w.heap.size w w1 → w1.there g 2 ((mx256 h.words bs).list.map (Value.int .u32)).toArray.size ∧ Blk HT (w1.setCells g 2 ((mx256 h.words bs).list.map (Value.int .u32))) g { h with words := mx256 h.words bs }.cells ∧ Upd w (w1.setCells g 2 ((mx256 h.words bs).list.map (Value.int .u32))) g) := fun w1 h1 => by
    have hb1 := below_blk h1 hG.lt hG
    have hl := Hs.cells_len hk.len
    refine ⟨hb1.there _ _ (by simp [hl, R8.list]), ?_, (below_upd h1).trans (Upd.setCells _ _ _)⟩
    rw [← h.over_words]
    exact hb1.setCells _ _ (by simp [hl, R8.list])
  have HS : Hid (∀ r : R8, (Tryd.prog.info? 49).map (·.size) = some (r.list.map (Value.int .u32)).length) := fun r => Tryd.size8w
  have HX := fun w' (hw : w' = w) => mix256_any (w := w') h.words hk.words c off len cap bs (by rw [hw]; exact hc) (by rw [hw]; exact hr) ub hlen hlc hbs (by rw [hw]; exact hT)
  have HX2 : Hid (∀ w', w' = w → Calls Tryd.prog _ _ w' _) := HX
  clear HX hr hT
  go_enter Tryd.func39, Tryd.ntmps39
  go_wp2_with (first
    | (refine wpList_load_mid rfl _ _ rfl g 2 rfl (h.words.list.map (Value.int .u32)) _ HG.out Tryd.underlying49 rfl (HS.out _) ?_)
    | (go_at_call 48; refine (HX2.out _ rfl).mono ?_; rintro e w1 ⟨rfl, hb1⟩; have HB1 := HB.out w1 hb1; have HB2 : Hid _ := HB1; clear HB1 hb1)
    | (refine wpList_store_mid rfl _ _ _ rfl g 2 ((mx256 h.words bs).list.map (Value.int .u32)).toArray rfl rfl HB2.out.1 (by simpa using HS.out (mx256 h.words bs)) (ints_one _ _) ?_))
  exact bodyPost_end (v := .tuple #[]) (results_none rfl _ _ _) rfl ⟨rfl, HB2.out.2.1, HB2.out.2.2⟩

set_option maxHeartbeats 1000000 in
theorem mixM_512 {w : World} (h : Hs) (hk : h.ok) (h1 : ¬ h.alg = 1) (h2 : ¬ h.alg = 2) (g : Nat) (hG : Blk HT w g h.cells) (hT : Tabs w) (c off len cap : Nat) (bs : List Int) (hc : c < w.heap.size) (hr : Rd .u8 w c off bs) (ub : U8s bs) (hlen : bs.length ≤ len) (hlc : len ≤ cap) (hbs : bs.length = 128) :
    Calls Tryd.prog 39 #[.pointer (some ⟨g, 0, none⟩), .slice (some ⟨c, off, none⟩) len cap] w fun e w' => e = .returned (.tuple #[]) ∧ Blk HT w' g { h with wide := mx512 h.wide bs }.cells ∧ Upd w w' g := by
  have hc0 : w.cell? ⟨g, 0, none⟩ = some (.int .i64 h.alg) := hG.cell 0
  skip
  have HG : Hid (w.rangeAt g 10 (h.wide.list.map (Value.int .u64))) := hG.range 10 _ h.range_wide
  have HB : Hid (∀ w1, Below w.heap.size w w1 → w1.there g 10 ((mx512 h.wide bs).list.map (Value.int .u64)).toArray.size ∧ Blk HT (w1.setCells g 10 ((mx512 h.wide bs).list.map (Value.int .u64))) g { h with wide := mx512 h.wide bs }.cells ∧ Upd w (w1.setCells g 10 ((mx512 h.wide bs).list.map (Value.int .u64))) g) := fun w1 h1 => by
    have hb1 := below_blk h1 hG.lt hG
    have hl := Hs.cells_len hk.len
    refine ⟨hb1.there _ _ (by simp [hl, R8.list]), ?_, (below_upd h1).trans (Upd.setCells _ _ _)⟩
    rw [← h.over_wide]
    exact hb1.setCells _ _ (by simp [hl, R8.list])
  have HS : Hid (∀ r : R8, (Tryd.prog.info? 51).map (·.size) = some (r.list.map (Value.int .u64)).length) := fun r => Tryd.eight512
  have HX := fun w' (hw : w' = w) => mix512_any (w := w') h.wide hk.wide c off len cap bs (by rw [hw]; exact hc) (by rw [hw]; exact hr) ub hlen hlc hbs (by rw [hw]; exact hT)
  have HX2 : Hid (∀ w', w' = w → Calls Tryd.prog _ _ w' _) := HX
  clear HX hr hT
  go_enter Tryd.func39, Tryd.ntmps39
  go_wp2_with (first
    | (refine wpList_load_mid rfl _ _ rfl g 10 rfl (h.wide.list.map (Value.int .u64)) _ HG.out Tryd.underlying51 rfl (HS.out _) ?_)
    | (go_at_call 49; refine (HX2.out _ rfl).mono ?_; rintro e w1 ⟨rfl, hb1⟩; have HB1 := HB.out w1 hb1; have HB2 : Hid _ := HB1; clear HB1 hb1)
    | (refine wpList_store_mid rfl _ _ _ rfl g 10 ((mx512 h.wide bs).list.map (Value.int .u64)).toArray rfl rfl HB2.out.1 (by simpa using HS.out (mx512 h.wide bs)) (ints_one _ _) ?_))
  exact bodyPost_end (v := .tuple #[]) (results_none rfl _ _ _) rfl ⟨rfl, HB2.out.2.1, HB2.out.2.2⟩

theorem mixM_any {w : World} (h : Hs) (hk : h.ok) (ha : Alg h.alg) (g : Nat) (hG : Blk HT w g h.cells) (hT : Tabs w) (c off len cap : Nat) (bs : List Int) (hc : c < w.heap.size) (hr : Rd .u8 w c off bs) (ub : U8s bs) (hlen : bs.length ≤ len) (hlc : len ≤ cap) (hbs : bs.length = blk h.alg) :
    Calls Tryd.prog 39 #[.pointer (some ⟨g, 0, none⟩), .slice (some ⟨c, off, none⟩) len cap] w fun e w' => e = .returned (.tuple #[]) ∧ Blk HT w' g (h.mixed bs).cells ∧ Upd w w' g := by
  unfold Hs.mixed
  by_cases h1 : h.alg = 1
  · rw [if_pos h1]; exact mixM_1 h hk h1 g hG hT c off len cap bs hc hr ub hlen hlc (by rw [hbs, h1]; rfl)
  · rw [if_neg h1]
    by_cases h2 : h.alg = 2
    · rw [if_pos h2]; exact mixM_2 h hk h2 g hG hT c off len cap bs hc hr ub hlen hlc (by rw [hbs, h2]; rfl)
    · rw [if_neg h2]
      refine mixM_512 h hk h1 h2 g hG hT c off len cap bs hc hr ub hlen hlc ?_
      rw [hbs]
      rcases ha with h | h | h | h
      · exact absurd h h1
      · exact absurd h h2
      · rw [h]; rfl
      · rw [h]; rfl
end Go.Proofs.YtgipmjpkaemdkaaDoor
