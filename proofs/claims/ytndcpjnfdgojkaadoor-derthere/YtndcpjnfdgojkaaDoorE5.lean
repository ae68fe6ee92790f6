/-
  Der: the page's example of a row of elements.
-/
import Derived.Test.YtndcpjnfdgojkaaDoorE4
namespace Go.Proofs.YtndcpjnfdgojkaaDoor
open Go.RowKit
abbrev zeroT : Value := .agg #[.int .i64 0, .int .i64 0, .bool false, .slice none 0 0, .slice none 0 0]
theorem Tryd.infoT : (Tryd.prog.info? 32).map (fun i => (i.zero, i.size, i.bytes)) = some (some zeroT, 5, 72) := by kernel_rfl
theorem Tryd.undT : Tryd.prog.underlying 25 = some (.slice 32) := by kernel_rfl
theorem src_m {P : Program} {tx e' T : TypeId} (hk : P.underlying tx = some (.slice e')) {w : World} {b : Nat} (m : Nat) {vs : List Value} (h : Blk T w b vs) (hl : vs.length = 1 * m) (ho : ∀ u ∈ vs, u.oneCell' = true) : Src P m tx (.slice (some ⟨b, 0, none⟩) 1 1) 1 vs w := by
  refine Src.ofSlice w hk _ _ _ _ hl (fun j u hj => ?_) ho
  have hadd : (⟨b, 0, none⟩ : Addr).add j = ⟨b, j, none⟩ := by simp [Addr.add] <;> omega
  rw [hadd, h.cell j, hj]
theorem blk_nw {e : TypeId} {w : World} {b : Nat} {cs : Array Value} {xs : List Value} (hb : b = w.heap.size) (h : cs = xs.toArray) : Blk e (w.alloc (.cells cs e)) b xs := by subst hb; subst h; exact Blk.new e w _
theorem MRow.upd {m : Nat} {e : TypeId} {B : Nat} {w w' : World} {v : Value} {n : Nat} {xs : List Value} {g : Nat} (h : MRow m e B w v n xs) (hu : Upd w w' g) (hg : g < B) : MRow m e B w' v n xs := by
  obtain ⟨h0, h⟩ := h
  refine ⟨h0, ?_⟩
  rcases h with h | ⟨b, S, c, rfl, h1, hA, h2⟩
  · exact .inl h
  · exact .inr ⟨b, S, c, rfl, h1, hu.blk hA (by omega), h2⟩
theorem MRow.at {m : Nat} {e : TypeId} {B : Nat} {w : World} {v : Value} {n : Nat} {xs : List Value} (h : MRow m e B w v n xs) (hn : 0 < n) : ∃ b c, v = .slice (some ⟨b, 0, none⟩) n c ∧ n ≤ c ∧ B ≤ b ∧ b < w.heap.size ∧ ∀ i, i < n * m → w.cell? ⟨b, i, none⟩ = xs[i]? := by
  obtain ⟨h0, h⟩ := h
  rcases h with ⟨_, h⟩ | ⟨b, S, c, rfl, h1, hA, h2, h3, h4, h5⟩
  · omega
  · refine ⟨b, c, rfl, h3, h1, hA.lt, fun i hi => ?_⟩
    rw [hA.cell i, ← h4, List.getElem?_take, if_pos hi]
theorem Row.mgrew {B : Nat} {w w' : World} {v u : Value} {xs : List Int} (h : Row .u8 5 B w v xs) (hg : MGrew 32 w w' u) : Row .u8 5 B w' v xs := by
  rcases hg with hg | ⟨b', n, c, S', _, hB, hU⟩
  · exact h.below hg
  · rcases h with h | ⟨b, S, rfl, h1, hA, h2⟩
    · exact .inl h
    · refine .inr ⟨b, S, rfl, h1, hU.arr hA (fun e => ?_), h2⟩
      subst e
      unfold Arr at hA
      unfold Blk at hB
      rw [hA] at hB
      simp at hB
theorem tlv_one (a b : Int) (c : Bool) (a1 a2 : Option Addr) (n1 n2 c1 c2 : Nat) : ∀ u ∈ [Value.int .i64 a, .int .i64 b, .bool c, .slice a1 n1 c1, .slice a2 n2 c2], u.oneCell' = true := by
  intro u hu
  simp only [List.mem_cons, List.not_mem_nil, or_false] at hu
  rcases hu with rfl | rfl | rfl | rfl | rfl <;> rfl
def exM : List Int := [2, 1, 5, 48, 2, 5, 0]
set_option maxRecDepth 20000 in
set_option maxHeartbeats 4000000 in
theorem Split_live {w : World} (b : Nat) (hA : Arr .u8 5 w b exM) :
    Calls Tryd.prog 10 #[.slice (some ⟨b, 0, none⟩) 7 7] w fun e w' => ∃ bl cl bd cd, e = .returned (.tuple #[.slice (some ⟨bl, 0, none⟩) 2 cl, .int .i64 0, .int .i64 7]) ∧ 2 ≤ cl ∧ w'.cell? ⟨bl, 1, none⟩ = some (.int .i64 2) ∧ w'.cell? ⟨bl, 7, none⟩ = some (.bool true) ∧ w'.cell? ⟨bl, 8, none⟩ = some (.slice (some ⟨bd, 0, none⟩) 2 cd) ∧ Row .u8 5 w.heap.size w' (.slice (some ⟨bd, 0, none⟩) 2 cd) [5, 0] ∧ Below w.heap.size w w' := by
  have hb := hA.lt
  have hM : Rd .u8 w b 0 exM := hA.rd 0 7 (by simp [exM])
  have HX : Hid (Rd .u8 w b 0 exM) := hM
  clear hA hM
  go_enter Tryd.func10, Tryd.ntmps10
  go_wp2_with fail
  refine wp_gen (fun W => Rdr W w.heap.size b 0 7 7 0 ∧ Below w.heap.size w W) ⟨Blk.new _ w _, al1 _⟩ ?_
  rintro v1 hv1
  have H1 : Hid (Rdr v1 w.heap.size b 0 7 7 0 ∧ Below w.heap.size w v1) := ⟨hv1.1, hv1.2⟩
  have g1 : v1.cell? ⟨w.heap.size, 1, none⟩ = some (.int .i64 0) := hv1.1.cell 1
  clear hv1
  refine wp_loop_rounds 3 ?_
  rw [rounds_succ]
  go_wp2_with fail
  refine (element_short w.heap.size b 7 7 0 1 exM 2 0 2 0 H1.out.1 (below_rd H1.out.2 hb HX.out) rfl (by omega) (by omega) (Nat.lt_of_lt_of_le hb H1.out.2.size) (by omega) (by omega) rfl rfl (by omega) (by decide) (by decide +kernel) (by decide +kernel) (by decide) (by decide) (by decide) (by decide)).mono ?_
  rintro e v2 ⟨d, r, rfl, hu, hr, hd, hrw⟩
  obtain ⟨ad, cd, hv⟩ := hd.ne
  rw [show ((exM.drop (0 + 2)).take 1).length = 1 from rfl] at hv
  subst hv
  obtain ⟨ar, cr, hv⟩ := hrw.ne
  rw [show ((exM.drop 0).take (2 + 1)).length = 3 from rfl] at hv
  subst hv
  have hs1 : w.heap.size < v1.heap.size := H1.out.1.lt
  have H2 : Hid (Rdr v2 w.heap.size b 0 7 7 3 ∧ Below w.heap.size w v2 ∧ w.heap.size < v2.heap.size) := ⟨hr, ⟨hu.os.trans H1.out.2.os, hu.tape.trans H1.out.2.tape, hu.output.trans H1.out.2.output, Nat.le_trans H1.out.2.size hu.size, fun j hj => (hu.block j (by omega) (fun e => by simp at e; omega)).trans (H1.out.2.block j hj)⟩, hr.lt⟩
  clear hu hr hd hrw g1
  go_wp2_with (at_builtin; refine wpList_apm rfl (.tmp 32) (.tmp 34) 25 25 rfl 5 zeroT rfl 32 72 Tryd.undT Tryd.infoT (by decide) (w.heap.size + 1) _ 0 [] rfl (MRow.nil _ _ _ _) _ 1 [.int .i64 0, .int .i64 2, .bool false, .slice ad 1 cd, .slice ar 3 cr] rfl (src_m (T := 32) Tryd.undT 5 (blk_nw (by simp) rfl) rfl (tlv_one _ _ _ _ _ _ _ _ _)) (by decide) (by have := H2.out.2.2; simp; omega) ?_; intro v v3 hr hg)
  have hb3 : Below (w.heap.size + 1) _ v3 := hg.below (MRow.nil 5 _ (w.heap.size + 1) _) (by have := H2.out.2.2; simp; omega)
  have hb23 : Below (w.heap.size + 1) v2 v3 := (((Below.refl _ _).alloc (by have := H2.out.2.2; omega) _).alloc (by have := H2.out.2.2; simp; omega) _).trans hb3
  have H3 : Hid (MRow 5 32 (w.heap.size + 1) v3 v 1 [.int .i64 0, .int .i64 2, .bool false, .slice ad 1 cd, .slice ar 3 cr] ∧ Rdr v3 w.heap.size b 0 7 7 3 ∧ Below w.heap.size w v3 ∧ w.heap.size < v3.heap.size) := ⟨hr, below_blk hb23 (by omega) H2.out.1, H2.out.2.1.trans (hb23.mono (by omega)), Nat.lt_of_lt_of_le H2.out.2.2 hb23.size⟩
  obtain ⟨al, cl, hv⟩ := hr.ne
  rw [Nat.zero_add] at hv
  subst hv
  have g1 : v3.cell? ⟨w.heap.size, 1, none⟩ = some (.int .i64 3) := H3.out.2.1.cell 1
  clear hr hg hb3 hb23
  rw [rounds_succ]
  go_wp2_with fail
  refine (element_short w.heap.size b 7 7 3 2 exM 48 0 16 32 H3.out.2.1 (below_rd H3.out.2.2.1 hb HX.out) rfl (by omega) (by omega) (Nat.lt_of_lt_of_le hb H3.out.2.2.1.size) (by omega) (by omega) rfl rfl (by omega) (by decide) (by decide +kernel) (by decide +kernel) (by decide) (by decide) (by decide) (by decide)).mono ?_
  rintro e v4 ⟨d, r, rfl, hu, hr, hd, hrw⟩
  obtain ⟨bd2, cd2, hv, _⟩ := hd.open 2 rfl (by omega)
  have hd' := hd
  subst hv
  obtain ⟨ar2, cr2, hv⟩ := hrw.ne
  rw [show ((exM.drop 3).take (2 + 2)).length = 4 from rfl] at hv
  subst hv
  have hs3 : w.heap.size < v3.heap.size := H3.out.2.2.2
  have H4 : Hid (Rdr v4 w.heap.size b 0 7 7 7 ∧ Below w.heap.size w v4 ∧ w.heap.size < v4.heap.size ∧ MRow 5 32 (w.heap.size + 1) v4 (.slice al 1 cl) 1 [.int .i64 0, .int .i64 2, .bool false, .slice ad 1 cd, .slice ar 3 cr] ∧ Row .u8 5 v3.heap.size v4 (.slice (some ⟨bd2, 0, none⟩) 2 cd2.length) [5, 0]) := ⟨hr, ⟨hu.os.trans H3.out.2.2.1.os, hu.tape.trans H3.out.2.2.1.tape, hu.output.trans H3.out.2.2.1.output, Nat.le_trans H3.out.2.2.1.size hu.size, fun j hj => (hu.block j (by omega) (fun e => by simp at e; omega)).trans (H3.out.2.2.1.block j hj)⟩, hr.lt, H3.out.1.upd hu (by omega), hd'⟩
  clear hu hr hd hrw g1 hd'
  obtain ⟨k2, hk2⟩ : ∃ k, cd2.length = k := ⟨_, rfl⟩
  rw [hk2] at H4
  simp only [hk2]
  clear hk2
  go_wp2_with (at_builtin; refine wpList_apm rfl (.tmp 32) (.tmp 34) 25 25 rfl 5 zeroT rfl 32 72 Tryd.undT Tryd.infoT (by decide) (w.heap.size + 1) _ 1 _ rfl ((H4.out.2.2.2.1.alloc _).alloc _) _ 1 [.int .i64 0, .int .i64 16, .bool true, .slice (some ⟨bd2, 0, none⟩) 2 k2, .slice ar2 4 cr2] rfl (src_m (T := 32) Tryd.undT 5 (blk_nw (by simp) rfl) rfl (tlv_one _ _ _ _ _ _ _ _ _)) (by decide) (by have := H4.out.2.2.1; simp; omega) ?_; intro v v5 hr hg)
  have hb5 : Below (w.heap.size + 1) _ v5 := hg.below ((H4.out.2.2.2.1.alloc _).alloc _) (by have := H4.out.2.2.1; simp; omega)
  have hb45 : Below (w.heap.size + 1) v4 v5 := (((Below.refl _ _).alloc (by have := H4.out.2.2.1; omega) _).alloc (by have := H4.out.2.2.1; simp; omega) _).trans hb5
  obtain ⟨bl, cl2, hv, hc2, hbl, hbv, hcells⟩ := hr.at (by omega)
  subst hv
  have e1 : v5.cell? ⟨bl, 1, none⟩ = some (.int .i64 2) := hcells 1 (by omega)
  have e7 : v5.cell? ⟨bl, 7, none⟩ = some (.bool true) := hcells 7 (by omega)
  have e8 : v5.cell? ⟨bl, 8, none⟩ = some (.slice (some ⟨bd2, 0, none⟩) 2 k2) := hcells 8 (by omega)
  have hrow : Row .u8 5 v3.heap.size v5 (.slice (some ⟨bd2, 0, none⟩) 2 k2) [5, 0] := ((H4.out.2.2.2.2.alloc _).alloc _).mgrew hg
  have H5 : Hid (Rdr v5 w.heap.size b 0 7 7 7 ∧ Below w.heap.size w v5 ∧ Row .u8 5 w.heap.size v5 (.slice (some ⟨bd2, 0, none⟩) 2 k2) [5, 0] ∧ 2 ≤ cl2 ∧ v5.cell? ⟨bl, 1, none⟩ = some (.int .i64 2) ∧ v5.cell? ⟨bl, 7, none⟩ = some (.bool true) ∧ v5.cell? ⟨bl, 8, none⟩ = some (.slice (some ⟨bd2, 0, none⟩) 2 k2)) := ⟨below_blk hb45 (by omega) H4.out.1, H4.out.2.1.trans (hb45.mono (by omega)), hrow.mono (by omega), hc2, e1, e7, e8⟩
  have g1 : v5.cell? ⟨w.heap.size, 1, none⟩ = some (.int .i64 7) := H5.out.1.cell 1
  clear hr hg hb5 hb45 hcells e1 e7 e8 hrow hc2 hbl hbv
  rw [rounds_succ]
  go_upto_region 11 with (fail)
  go_quiet (fail)
  go_wp2
  go_ret3
  exact ⟨bl, cl2, bd2, k2, rfl, H5.out.2.2.2.1, H5.out.2.2.2.2.1, H5.out.2.2.2.2.2.1, H5.out.2.2.2.2.2.2, H5.out.2.2.1, below_drewN _ H5.out.2.1⟩
end Go.Proofs.YtndcpjnfdgojkaaDoor
