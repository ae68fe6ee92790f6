/-
  Digest: New, and the method Sum.
-/
import Derived.Test.YtgipmjpkaemdkaaDoorG16
namespace Go.Proofs.YtgipmjpkaemdkaaDoor
open Go.RowKit
theorem wp_gen {P : Program} {c : Code} {Q : Exit → Act → World → Prop} {a : Act} {W : World} (R : World → Prop) (hR : R W) (h : ∀ W', R W' → Code.wp P c Q a W') : Code.wp P c Q a W := h W hR
theorem Tryd.sizeH : (Tryd.prog.info? 54).map (·.size) = some 146 := by kernel_rfl
theorem Hs.cells_one (h : Hs) : h.cells.toArray.all (·.oneCell') = true := by
  refine all_oneCell_toArray fun v hv => ?_
  simp only [Hs.cells, List.mem_cons, List.mem_append, List.mem_map] at hv
  rcases hv with rfl | rfl | ⟨x, _, rfl⟩ | ⟨x, _, rfl⟩ | ⟨x, _, rfl⟩ <;> rfl
theorem fill_blocks {N B : Nat} (hB : B = 64 ∨ B = 128) : (N + fillLen N B) % B = 0 := by
  unfold fillLen
  rcases hB with rfl | rfl <;> omega
theorem fillLen_le {N B : Nat} (hB : B = 64 ∨ B = 128) : fillLen N B ≤ 144 := by
  unfold fillLen
  rcases hB with rfl | rfl <;> omega
theorem wpList_boxR {P : Program} {ops : Array Oper} {rest : List Oper} {o : Oper} {a : Act} {w : World} {Q : Exit → Act → World → Prop} (hg : o.guard = none) (t : TypeId) (x : Operand) (ho : o.op = .box t x) (cells : Array Value) (hx : a.eval x = .agg cells)
    (h : wpList P ops Q rest (a.put o.dst (.pointer (some ⟨w.heap.size, 0, none⟩))) (w.alloc (.cells cells t))) : wpList P ops Q (o :: rest) a w := by
  refine wpList_plain hg fun K hK => ?_
  unfold Oper.wp execOp
  simp only [ho, hx, Sem.run_bind, Instr.box, newVar, newRow, run_newObj_alloc, Sem.run_pure, Result.andThen_ok]
  exact hK _ _ h
set_option maxRecDepth 4000 in
set_option maxHeartbeats 2000000 in
theorem SumV_any {w : World} (s : Hs) (alg : Int) (ha : Alg alg) (msg : List Int) (hs : s.ok) (hi : Inv alg s msg) (hT : Tabs w) (um : U8s msg) (hm : msg.length ≤ 1000000000) :
    Calls Tryd.prog 33 #[.agg s.cells.toArray] w fun e w' => ∃ d, e = .returned (.slice (some ⟨d, 0, none⟩) (siz alg) (siz alg)) ∧ w.heap.size ≤ d ∧ Arr .u8 5 w' d (dig alg msg) ∧ Below w.heap.size w w' := by
  have hz7 := hT.size
  have HBl : Hid (∀ w' : World, Calls Tryd.prog 29 #[.int .i64 alg] w' fun e w'' => e = .returned (.int .i64 (blk alg)) ∧ w' = w'') := fun w' => (ShaBlock_any alg).mono fun _ _ h => ⟨h.1, h.2.symm⟩
  have hB := ha.blk_pos
  have hb0 : (0 : Int) < (blk alg : Int) := by omega
  have HD : Hid (∀ h' : Hs, Inv alg h' (msg ++ fill msg.length (blk alg)) → out h'.alg ⟨h'.words, h'.wide⟩ = dig alg msg) := fun h' hi => by
    unfold dig
    rw [hi.algE, hi.state, List.length_append, fill_len hB]
  have HS3 : Hid (Inv alg s msg ∧ s.ok ∧ Tabs w) := ⟨hi, hs, hT⟩
  obtain ⟨N, hNe⟩ : ∃ n, msg.length = n := ⟨_, rfl⟩
  rw [hNe] at hm HD
  have HN : Hid (msg.length = N) := hNe
  have HTS : Hid (Blk 54 (w.alloc (.cells s.cells.toArray 54)) w.heap.size s.cells ∧ Below w.heap.size w (w.alloc (.cells s.cells.toArray 54))) := ⟨Blk.new _ w _, (Below.refl _ _).alloc (Nat.le_refl _) _⟩
  clear hs hi hT hNe
  go_enter Tryd.func33, Tryd.ntmps33
  go_upto_region 1 with (refine wpList_boxR rfl 54 (.tmp 0) rfl s.cells.toArray rfl ?_)
  refine wp_gen (fun W2 => Blk 54 W2 w.heap.size s.cells ∧ Below w.heap.size w W2) HTS.out ?_
  rintro W2 ⟨hE, hBE⟩
  have hc0' : W2.cell? ⟨w.heap.size, 0, none⟩ = some (.int .i64 alg) := by rw [← HS3.out.1.algE]; exact hE.cell 0
  have hc1' : W2.cell? ⟨w.heap.size, 1, none⟩ = some (.int .i64 N) := by rw [← HN.out, ← HS3.out.1.totalE]; exact hE.cell 1
  have HE : Hid (Blk 54 W2 w.heap.size s.cells ∧ Below w.heap.size w W2 ∧ w.heap.size < W2.heap.size) := ⟨hE, hBE, hE.lt⟩
  clear hE hBE HTS
  go_wp2_with (first
    | (go_at_call 29; refine (HBl.out _).mono ?_; rintro e w' ⟨rfl, rfl⟩)
    | (go_at_call 40; refine (filling_any N (blk alg) (by omega) hB).mono ?_; rintro e w3 ⟨rfl, hA3, hB3⟩
       have HW3 : Hid (Blk 54 w3 w.heap.size s.cells ∧ Below w.heap.size w w3 ∧ SlX w3 w.heap.size (.slice (some ⟨W2.heap.size, 0, none⟩) (fillLen N (blk alg)) (fillLen N (blk alg))) (fill N (blk alg))) := ⟨below_blk hB3 HE.out.2.2 HE.out.1, HE.out.2.1.trans (hB3.mono (Nat.le_of_lt HE.out.2.2)), ⟨_, _, by rw [fill_len hB], by rw [fill_len hB]; exact Nat.le_refl _, .inr ⟨W2.heap.size, 0, rfl, hA3.lt, by have := HE.out.2.2; omega, by have := hA3.rd 0 (fill N (blk alg)).length (by omega); simpa using this⟩⟩⟩
       clear hA3 hB3)
    | (go_at_call 32; refine (take_any (w := w3) alg ha s HS3.out.2.1 msg (fill N (blk alg)) HS3.out.1 w.heap.size HW3.out.1 hz7 (HS3.out.2.2.below HW3.out.2.1) _ HW3.out.2.2 um (fill_u8 _ _) (by rw [HN.out]; omega) (by rw [fill_len hB]; have := fillLen_le (N := N) hB; omega)).mono ?_; rintro e w4 ⟨rfl, ⟨h', hb4, hok4, hi4⟩, hu4⟩
       have HW4 : Hid (Blk 54 w4 w.heap.size h'.cells ∧ h'.ok ∧ Inv alg h' (msg ++ fill N (blk alg)) ∧ Below w.heap.size w w4) := ⟨hb4, hok4, hi4, hu4.below HW3.out.2.1 HW3.out.2.1.size (Nat.le_refl _)⟩
       clear hb4 hok4 hi4 hu4)
    | (go_at_call 41; refine (state_any (w := w4) h' HW4.out.2.1 (by rw [HW4.out.2.2.1.algE]; exact ha) w.heap.size HW4.out.1).mono ?_; rintro e w5 ⟨rfl, hA5, hB5⟩
       have HW5 : Hid (Arr .u8 5 w5 w4.heap.size (dig alg msg) ∧ Below w.heap.size w w5) := ⟨by rw [← HD.out h' HW4.out.2.2.1]; exact hA5, HW4.out.2.2.2.trans (hB5.mono HW4.out.2.2.2.size)⟩
       rw [HW4.out.2.2.1.algE]
       clear hA5 hB5))
  go_ret
  exact ⟨w4.heap.size, rfl, HW4.out.2.2.2.size, HW5.out⟩
set_option maxHeartbeats 1000000 in
theorem SumM_any {w : World} (g : Nat) (alg : Int) (ha : Alg alg) (msg : List Int) (h : HashIs w g alg msg) (hT : Tabs w) (um : U8s msg) (hm : msg.length ≤ 16777216) :
    Calls Tryd.prog 24 #[.pointer (some ⟨g, 0, none⟩)] w fun e w' => ∃ d, e = .returned (.slice (some ⟨d, 0, none⟩) (siz alg) (siz alg)) ∧ w.heap.size ≤ d ∧ Arr .u8 5 w' d (dig alg msg) ∧ Below w.heap.size w w' := by
  obtain ⟨HT, s, h1, h2, h3⟩ := h
  have HR : Hid (w.rangeAt g 0 s.cells) := h1.whole
  have HSz : Hid ((Tryd.prog.info? 54).map (·.size) = some s.cells.length) := by rw [Hs.cells_len h2.len]; exact Tryd.sizeH
  have HS : Hid (∀ w', w' = w → Calls Tryd.prog _ _ w' _) := fun w' hw => by rw [hw]; exact SumV_any s alg ha msg h2 h3 hT um (by omega)
  clear h1 h2 h3 hT
  go_enter Tryd.func24, Tryd.ntmps24
  go_wp2_with (first
    | (refine wpList_load_mid rfl 54 (.tmp 7) rfl g 0 rfl s.cells _ HR.out Tryd.underlying54 rfl HSz.out ?_)
    | (go_at_call 33; refine (HS.out _ rfl).mono ?_; rintro e w2 ⟨d, rfl, hd, hA, hB⟩; have HH : Hid (w.heap.size ≤ d ∧ Arr .u8 5 w2 d (dig alg msg) ∧ Below w.heap.size w w2) := ⟨hd, hA, hB⟩; clear hd hA hB))
  go_ret
  exact ⟨d, rfl, HH.out⟩
end Go.Proofs.YtgipmjpkaemdkaaDoor
