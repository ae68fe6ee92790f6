/-
  Digest: New, and the method Sum.
-/
import Derived.Test.YteallegkklokiaaDoorG16
namespace Go.Proofs.YteallegkklokiaaDoor
open Go.RowKit
theorem wp_gen {P : Program} {c : Code} {Q : Exit → Act → World → Prop} {a : Act} {W : World} (R : World → Prop) (hR : R W) (h : ∀ W', R W' → Code.wp P c Q a W') : Code.wp P c Q a W := h W hR
theorem Tryd.sizeH : (Tryd.prog.info? HT).map (·.size) = some 146 := by kernel_rfl
theorem Hs.cells_one (h : Hs) : h.cells.toArray.all (·.oneCell') = true := by
  refine all_oneCell_toArray fun v hv => ?_
  simp only [Hs.cells, List.mem_cons, List.mem_append, List.mem_map] at hv
  rcases hv with rfl | rfl | ⟨x, _, rfl⟩ | ⟨x, _, rfl⟩ | ⟨x, _, rfl⟩ <;> rfl
theorem fill_blocks {N B : Nat} (hB : B = 64 ∨ B = 128) : (N + fillLen N B) % B = 0 := by
  unfold fillLen
  rcases hB with rfl | rfl <;> omega
theorem fillLen_le {N B : Nat} (hB : B = 64 ∨ B = 128) : fillLen N B ≤ 144 := by
  unfold fillLen
  rcases hB with rfl | rfl <;> omega
set_option maxRecDepth 4000 in
set_option maxHeartbeats 2000000 in
theorem SumM_any {w : World} (g : Nat) (alg : Int) (ha : Alg alg) (msg : List Int) (h : HashIs w g alg msg) (hT : Tabs w) (um : U8s msg) (hm : msg.length ≤ 16777216) :
    Calls Tryd.prog 24 #[.pointer (some ⟨g, 0, none⟩)] w fun e w' => ∃ d, e = .returned (.slice (some ⟨d, 0, none⟩) (siz alg) (siz alg)) ∧ w.heap.size ≤ d ∧ Arr .u8 5 w' d (dig alg msg) ∧ Below w.heap.size w w' := by
  obtain ⟨s, h1, h2, h3⟩ := h
  have hc0 : w.cell? ⟨g, 0, none⟩ = some (.int .i64 alg) := by rw [← h3.algE]; exact h1.cell 0
  have hc1 : w.cell? ⟨g, 1, none⟩ = some (.int .i64 msg.length) := by rw [← h3.totalE]; exact h1.cell 1
  have hz7 := hT.size
  have hgl := h1.lt
  have HBl : Hid (∀ w' : World, Calls Tryd.prog 19 #[.int .i64 alg] w' fun e w'' => e = .returned (.int .i64 (blk alg)) ∧ w' = w'') := fun w' => (Block_any alg).mono fun _ _ h => ⟨h.1, h.2.symm⟩
  have HBq : Hid (∀ w' : World, Calls Tryd.prog 19 #[.int .i64 alg] w' fun e w'' => e = .returned (.int .i64 (blk alg)) ∧ w'' = w') := fun w' => Block_any alg
  have hb0 := blk_alg ha
  have hB := ha.blk_pos
  have HD : Hid (∀ h' : Hs, Inv alg h' (msg ++ fill msg.length (blk alg)) → out h'.alg ⟨h'.words, h'.wide⟩ = dig alg msg) := fun h' hi => by
    unfold dig
    rw [hi.algE, hi.state, List.length_append, fill_len hB]
  have HR : Hid (w.rangeAt g 0 s.cells) := h1.whole
  have hcl := Hs.cells_len h2.len
  have HSz : Hid ((Tryd.prog.info? HT).map (·.size) = some s.cells.length) := by rw [hcl]; exact Tryd.sizeH
  have HTH : Hid (∀ zs : List Value, zs.length = 146 → (w.alloc (.cells zs.toArray HT)).there w.heap.size 0 s.cells.toArray.size) := fun zs hz => (Blk.new HT w zs).there 0 _ (by simp [hcl, hz])
  have HTS : Hid (∀ zs : List Value, zs.length = 146 → Blk HT ((w.alloc (.cells zs.toArray HT)).setCells w.heap.size 0 s.cells) w.heap.size s.cells ∧ Below w.heap.size w ((w.alloc (.cells zs.toArray HT)).setCells w.heap.size 0 s.cells)) := fun zs hz =>
    ⟨(Blk.new HT w zs).fill _ (by rw [hcl, hz]), (Upd.setCells _ _ _).below ((Below.refl _ _).alloc (Nat.le_refl _) _) (by simp) (Nat.le_refl _)⟩
  have HS3 : Hid (Inv alg s msg ∧ s.ok ∧ Tabs w) := ⟨h3, h2, hT⟩
  obtain ⟨N, hNe⟩ : ∃ n, msg.length = n := ⟨_, rfl⟩
  rw [hNe] at hc1 hm HD
  clear h1 h2 h3 hT hcl
  go_enter Tryd.func24, Tryd.ntmps24
  go_upto_region 3 with (first
    | (go_at_call 19; refine (HBl.out _).mono ?_; rintro e w' ⟨rfl, rfl⟩))
  go_wp2_with (first
    | (refine wpList_load_mid rfl HT (.tmp 15) rfl g 0 rfl s.cells _ HR.out Tryd.underlying54 rfl HSz.out ?_)
    | (refine wpList_store_mid rfl HT (.tmp 3) (.tmp 16) rfl w.heap.size 0 s.cells.toArray rfl rfl (HTH.out _ rfl) (by simpa using HSz.out) s.cells_one ?_))
  simp only [Act.put]
  refine wp_gen (fun W2 => Blk HT W2 w.heap.size s.cells ∧ Below w.heap.size w W2) (HTS.out _ rfl) ?_
  rintro W2 ⟨hE, hBE⟩
  have hc0' : W2.cell? ⟨g, 0, none⟩ = some (.int .i64 alg) := by rw [hBE.cell (p := ⟨g, 0, none⟩) hgl]; exact hc0
  have hc1' : W2.cell? ⟨g, 1, none⟩ = some (.int .i64 N) := by rw [hBE.cell (p := ⟨g, 1, none⟩) hgl]; exact hc1
  have HE : Hid (Blk HT W2 w.heap.size s.cells ∧ Below w.heap.size w W2 ∧ w.heap.size < W2.heap.size) := ⟨hE, hBE, hE.lt⟩
  clear hE hBE hc0 hc1
  refine wp_region_qsd 9 (by kernel_rfl) (by kernel_rfl) ?_
  simp only [List.take_succ_cons, List.take_zero, List.drop_succ_cons, List.drop_zero]
  repeat (go_big_quiet_step ((go_at_call 19; exact Calls.quiet_of_same (HBq.out _))))
  refine wpQuiet_nil ?_
  rintro _ ⟨q, rfl⟩
  go_wp2_with (first
    | (go_at_call 29; refine (filling_any N (blk alg) (by omega) hB).mono ?_; rintro e w3 ⟨rfl, hA3, hB3⟩
       have hz3 : (W2.drewN q).heap.size = W2.heap.size := rfl
       rw [hz3] at hA3
       have hB3' : Below W2.heap.size W2 w3 := Below.trans (below_drewN q (Below.refl _ W2)) hB3
       have HW3 : Hid (Blk HT w3 w.heap.size s.cells ∧ Below w.heap.size w w3 ∧ SlX w3 w.heap.size (.slice (some ⟨W2.heap.size, 0, none⟩) (fillLen N (blk alg)) (fillLen N (blk alg))) (fill N (blk alg))) := ⟨below_blk hB3' HE.out.2.2 HE.out.1, HE.out.2.1.trans (hB3'.mono (Nat.le_of_lt HE.out.2.2)), ⟨_, _, by rw [fill_len hB], by rw [fill_len hB]; exact Nat.le_refl _, .inr ⟨W2.heap.size, 0, rfl, hA3.lt, by have := HE.out.2.2; omega, by have := hA3.rd 0 (fill N (blk alg)).length (by omega); simpa using this⟩⟩⟩
       clear hA3 hB3 hB3')
    | (go_at_call 28; refine (take_any (w := w3) alg ha s HS3.out.2.1 msg (fill N (blk alg)) HS3.out.1 w.heap.size HW3.out.1 hz7 (HS3.out.2.2.below HW3.out.2.1) _ HW3.out.2.2 um (fill_u8 _ _) (by omega) (by rw [fill_len hB]; have := fillLen_le (N := N) hB; omega)).mono ?_; rintro e w4 ⟨rfl, ⟨h', hb4, hok4, hi4⟩, hu4⟩
       have HW4 : Hid (Blk HT w4 w.heap.size h'.cells ∧ h'.ok ∧ Inv alg h' (msg ++ fill N (blk alg)) ∧ Below w.heap.size w w4) := ⟨hb4, hok4, hi4, hu4.below HW3.out.2.1 HW3.out.2.1.size (Nat.le_refl _)⟩
       clear hb4 hok4 hi4 hu4)
    | (go_at_call 30; refine (state_any (w := w4) h' HW4.out.2.1 (by rw [HW4.out.2.2.1.algE]; exact ha) w.heap.size HW4.out.1).mono ?_; rintro e w5 ⟨rfl, hA5, hB5⟩
       have HW5 : Hid (Arr .u8 5 w5 w4.heap.size (dig alg msg) ∧ Below w.heap.size w w5) := ⟨by rw [← HD.out h' HW4.out.2.2.1]; exact hA5, HW4.out.2.2.2.trans (hB5.mono HW4.out.2.2.2.size)⟩
       rw [HW4.out.2.2.1.algE]
       clear hA5 hB5))
  go_ret
  exact ⟨w4.heap.size, rfl, HW4.out.2.2.2.size, HW5.out⟩
end Go.Proofs.YteallegkklokiaaDoor
