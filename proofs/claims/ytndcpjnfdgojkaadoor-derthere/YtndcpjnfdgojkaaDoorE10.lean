/-
  Der: the page's example of an object identifier laid.
-/
import Derived.Test.YtndcpjnfdgojkaaDoorE9
import Derived.Lib.OthersKept
import Derived.Laws.RangeString
namespace Go.Proofs.YtndcpjnfdgojkaaDoor
open Go.RowKit
theorem or_136 : bits .or .u8 8 128 = 136 := by decide +kernel
theorem and_55 : bits .and .u64 1079 127 = 55 := by decide +kernel
set_option maxRecDepth 20000 in
set_option maxHeartbeats 2000000 in
theorem sevens_live {w : World} : Calls Tryd.prog 49 #[.slice none 0 0, .int .u64 1079] w fun e w' => ∃ r, e = .returned r ∧ Row .u8 5 w.heap.size w' r [136, 55] ∧ Below w.heap.size w w' := by
  have o1 := or_136
  have a1 := and_55
  go_enter Tryd.func49, Tryd.ntmps49
  go_wp2_with fail
  refine wp_loop_rounds 2 ?_
  rw [rounds_succ]
  go_wp2_with fail
  rw [rounds_succ]
  go_wp2_with fail
  refine wp_loop_rounds 2 ?_
  rw [rounds_succ]
  go_wp2_with (at_builtin; refine wpList_ap rfl (.tmp 16) (.tmp 22) 22 22 rfl .u8 5 1 Tryd.und8 Tryd.info8 (by decide) w.heap.size _ [] rfl (Row.nil _ _ _ _) _ [136] rfl (src_sl Tryd.und8 (new1 136)) (by decide) (by simp) ?_; intro v1 w1 hr hg)
  have hb1 : Below w.heap.size w w1 := (al1 _).trans (hg.below (Row.nil _ _ w.heap.size _) (by simp))
  have H1 : Hid (Row .u8 5 w.heap.size w1 v1 [136] ∧ Below w.heap.size w w1) := ⟨hr, hb1⟩
  clear hr hg hb1
  rw [rounds_succ]
  go_wp2_with (at_builtin; refine wpList_ap rfl (.tmp 24) (.tmp 28) 22 22 rfl .u8 5 1 Tryd.und8 Tryd.info8 (by decide) w.heap.size _ [136] rfl (H1.out.1.alloc _) _ [55] rfl (src_sl Tryd.und8 (new1 55)) (by decide) (by have := H1.out.2.size; simp; omega) ?_; intro v2 w2 hr hg)
  have hb2 : Below w.heap.size w w2 := (H1.out.2.alloc H1.out.2.size _).trans (hg.below (H1.out.1.alloc _) (by have := H1.out.2.size; simp; omega))
  go_ret
  exact ⟨_, rfl, hr, hb2⟩
abbrev exS : ByteArray := ⟨#[50, 46, 57, 57, 57]⟩
def It (w W : World) (pos : Nat) : Prop := W.heap[w.heap.size]? = some (.stringIter exS pos) ∧ Below w.heap.size w W
theorem It.step {w W : World} {pos : Nat} (h : It w W pos) (pos' : Nat) : It w (W.iterAt w.heap.size exS pos') pos' := ⟨Lib.iterAt_heap W _ exS pos pos' h.1, Lib.below_iterAt h.2 (Nat.le_refl _) _ _⟩
theorem It.below {w W W' : World} {pos : Nat} (h : It w W pos) (hb : Below (w.heap.size + 1) W W') : It w W' pos := ⟨by rw [hb.block _ (by omega)]; exact h.1, h.2.trans (hb.mono (by omega))⟩
theorem It.lt {w W : World} {pos : Nat} (h : It w W pos) : w.heap.size < W.heap.size := (Array.getElem?_eq_some_iff.1 h.1).1
theorem row_iter {k : IntKind} {e : TypeId} {w W : World} {v : Value} {xs : List Int} (pos : Nat) (h : Row k e (w.heap.size + 1) W v xs) : Row k e (w.heap.size + 1) (W.iterAt w.heap.size exS pos) v xs := by
  rcases h with h | ⟨b, S, rfl, h1, hA, h2⟩
  · exact .inl h
  · exact .inr ⟨b, S, rfl, h1, by unfold Arr; rw [Lib.iterAt_other W _ _ exS pos (by omega)]; exact hA, h2⟩
set_option maxRecDepth 20000 in
set_option maxHeartbeats 4000000 in
theorem written_live {w : World} : Calls Tryd.prog 48 #[.string exS] w fun e w' => ∃ r, e = .returned (.tuple #[r, .bool true]) ∧ Row .u64 81 (w.heap.size + 1) w' r [2, 999] ∧ Below w.heap.size w w' := by
  go_enter Tryd.func48, Tryd.ntmps48
  go_wp2_with fail
  refine wp_loop_rounds 6 ?_
  rw [rounds_succ]
  refine wp_gen (fun W => It w W 0) ⟨by rw [World.iter_heap], al1 _⟩ ?_
  intro v0 h0
  have H0 : Hid (It w v0 0 ∧ True) := ⟨h0, trivial⟩
  clear h0
  have hn : Sem.run Tryd.prog (Instr.next (.pointer (some ⟨w.heap.size, 0, none⟩)) true 0) v0 = .ok (.tuple #[.bool true, .int .i64 0, .int .i32 50]) (v0.iterAt w.heap.size exS 1) := Lib.run_next_ascii_at v0 w.heap.size exS 0 0 H0.out.1.1 (by decide) (by decide)
  go_wp2_with fail
  rw [rounds_succ]
  refine wp_gen (fun W => It w W 1) (H0.out.1.step 1) ?_
  clear hn
  intro v1 h1
  have H1 : Hid (It w v1 1 ∧ True) := ⟨h1, trivial⟩
  clear h1
  have hn : Sem.run Tryd.prog (Instr.next (.pointer (some ⟨w.heap.size, 0, none⟩)) true 0) v1 = .ok (.tuple #[.bool true, .int .i64 1, .int .i32 46]) (v1.iterAt w.heap.size exS 2) := Lib.run_next_ascii_at v1 w.heap.size exS 1 0 H1.out.1.1 (by decide) (by decide)
  go_wp2_with (at_builtin; refine wpList_ap rfl (.tmp 29) (.tmp 31) 83 83 rfl .u64 81 8 Tryd.und64 Tryd.info64 (by decide) (w.heap.size + 1) _ [] rfl (Row.nil _ _ _ _) _ [2] rfl (src_sl Tryd.und64 (new64 2)) (by decide) (by have := (H1.out.1.step 2).lt; simp; omega) ?_; intro u1 v2 hr hg)
  have hlt1 := (H1.out.1.step 2).lt
  have hb2 : Below (w.heap.size + 1) _ v2 := hg.below (Row.nil _ _ (w.heap.size + 1) _) (by simp; omega)
  obtain ⟨a1, c1, hv⟩ := hr.ne
  replace hv : u1 = .slice a1 1 c1 := hv
  subst hv
  have H2 : Hid (It w v2 2 ∧ Row .u64 81 (w.heap.size + 1) v2 (.slice a1 1 c1) [2]) := ⟨((H1.out.1.step 2).below ((Below.refl _ _).alloc hlt1 _)).below hb2, hr⟩
  clear hr hg hb2 hn
  rw [rounds_succ]
  have hn : Sem.run Tryd.prog (Instr.next (.pointer (some ⟨w.heap.size, 0, none⟩)) true 0) v2 = .ok (.tuple #[.bool true, .int .i64 2, .int .i32 57]) (v2.iterAt w.heap.size exS 3) := Lib.run_next_ascii_at v2 w.heap.size exS 2 0 H2.out.1.1 (by decide) (by decide)
  go_wp2_with fail
  rw [rounds_succ]
  refine wp_gen (fun W => It w W 3 ∧ Row .u64 81 (w.heap.size + 1) W (.slice a1 1 c1) [2]) ⟨H2.out.1.step 3, row_iter 3 H2.out.2⟩ ?_
  clear hn
  intro v3 h
  have H3 : Hid (It w v3 3 ∧ Row .u64 81 (w.heap.size + 1) v3 (.slice a1 1 c1) [2]) := h
  clear h
  have hn : Sem.run Tryd.prog (Instr.next (.pointer (some ⟨w.heap.size, 0, none⟩)) true 0) v3 = .ok (.tuple #[.bool true, .int .i64 3, .int .i32 57]) (v3.iterAt w.heap.size exS 4) := Lib.run_next_ascii_at v3 w.heap.size exS 3 0 H3.out.1.1 (by decide) (by decide)
  go_wp2_with fail
  rw [rounds_succ]
  refine wp_gen (fun W => It w W 4 ∧ Row .u64 81 (w.heap.size + 1) W (.slice a1 1 c1) [2]) ⟨H3.out.1.step 4, row_iter 4 H3.out.2⟩ ?_
  clear hn
  intro v4 h
  have H4 : Hid (It w v4 4 ∧ Row .u64 81 (w.heap.size + 1) v4 (.slice a1 1 c1) [2]) := h
  clear h
  have hn : Sem.run Tryd.prog (Instr.next (.pointer (some ⟨w.heap.size, 0, none⟩)) true 0) v4 = .ok (.tuple #[.bool true, .int .i64 4, .int .i32 57]) (v4.iterAt w.heap.size exS 5) := Lib.run_next_ascii_at v4 w.heap.size exS 4 0 H4.out.1.1 (by decide) (by decide)
  go_wp2_with fail
  rw [rounds_succ]
  refine wp_gen (fun W => It w W 5 ∧ Row .u64 81 (w.heap.size + 1) W (.slice a1 1 c1) [2]) ⟨H4.out.1.step 5, row_iter 5 H4.out.2⟩ ?_
  clear hn
  intro v5 h
  have H5 : Hid (It w v5 5 ∧ Row .u64 81 (w.heap.size + 1) v5 (.slice a1 1 c1) [2]) := h
  clear h
  have hn : Sem.run Tryd.prog (Instr.next (.pointer (some ⟨w.heap.size, 0, none⟩)) true 0) v5 = .ok (.tuple #[.bool false]) v5 := Lib.run_next_end_at v5 w.heap.size exS 5 0 H5.out.1.1 (by decide)
  go_wp2_with (at_builtin; refine wpList_ap rfl (.tmp 44) (.tmp 46) 83 83 rfl .u64 81 8 Tryd.und64 Tryd.info64 (by decide) (w.heap.size + 1) _ [2] rfl (H5.out.2.alloc _) _ [999] rfl (src_sl Tryd.und64 (new64 999)) (by decide) (by have := H5.out.1.lt; simp; omega) ?_; intro u6 v6 hr hg)
  have hlt5 := H5.out.1.lt
  have hb6 : Below w.heap.size w v6 := (H5.out.1.2.alloc H5.out.1.2.size _).trans ((hg.below (H5.out.2.alloc _) (by simp; omega)).mono (by omega))
  go_ret2
  exact ⟨_, rfl, hr, hb6⟩
set_option maxRecDepth 20000 in
set_option maxHeartbeats 4000000 in
theorem PutOid_live {w : World} : Calls Tryd.prog 31 #[.string exS] w fun e w' => ∃ r, e = .returned (.tuple #[r, .int .i64 0]) ∧ Row .u8 5 w.heap.size w' r [136, 55] ∧ Below w.heap.size w w' := by
  go_enter Tryd.func31, Tryd.ntmps31
  go_wp2_with fail
  refine (written_live (w := w)).mono ?_
  rintro e w1 ⟨r, rfl, hr, hb⟩
  obtain ⟨b1, S1, rfl, hB1, hA1, hl1, ht1, hm1⟩ := hr.open 2 rfl (by omega)
  obtain ⟨k1, hk1⟩ : ∃ k, S1.length = k := ⟨_, rfl⟩
  rw [hk1]
  have g0 : S1.getD 0 0 = 2 := by
    have : (S1.take 2).getD 0 0 = 2 := by rw [ht1]; rfl
    rwa [List.getD_eq_getElem?_getD, List.getElem?_take, if_pos (by omega), ← List.getD_eq_getElem?_getD] at this
  have g1 : S1.getD 1 0 = 999 := by
    have : (S1.take 2).getD 1 0 = 999 := by rw [ht1]; rfl
    rwa [List.getD_eq_getElem?_getD, List.getElem?_take, if_pos (by omega), ← List.getD_eq_getElem?_getD] at this
  have c0 : w1.cell? ⟨b1, 0, none⟩ = some (.int .u64 2) := by rw [hA1.cell 0 (by omega), g0]
  have c1 : w1.cell? ⟨b1, 1, none⟩ = some (.int .u64 999) := by rw [hA1.cell 1 (by omega), g1]
  have hk2 : 2 ≤ k1 := by omega
  have hk3 : (k1 : Int) ≤ 9223372036854775807 := by unfold maxLen at hm1; omega
  have H1 : Hid (Below w.heap.size w w1) := hb
  clear hr hb hA1 hB1 hl1 ht1 hm1 g0 g1 hk1
  go_wp2_with (go_at_call 45; refine (Max_live b1 k1 2 999 (by decide) c0 c1).mono ?_; rintro e w' ⟨rfl, rfl⟩)
  refine wp_region_qsd 8 (by kernel_rfl) (by kernel_rfl) ?_
  simp only [List.take_succ_cons, List.take_zero, List.drop_succ_cons, List.drop_zero]
  repeat (go_big_quiet_step (fail))
  refine wpQuiet_nil ?_
  rintro _ ⟨q2, rfl⟩
  go_wp2_with fail
  refine (sevens_live (w := w1.drewN q2)).mono ?_
  rintro e w2 ⟨r2, rfl, hr2, hb2⟩
  have H2 : Hid (Row .u8 5 w1.heap.size w2 r2 [136, 55] ∧ Below w1.heap.size w1 w2) := ⟨hr2, below_via (below_drewN q2 (Below.refl _ _)) hb2 (Nat.le_refl _)⟩
  clear hr2 hb2 c0 c1
  go_wp2_with fail
  all_goals refine wp_loop_rounds 1 ?_
  all_goals rw [rounds_succ]
  all_goals go_wp2
  all_goals go_ret2
  all_goals exact ⟨_, rfl, H2.out.1.mono H1.out.size, below_via H1.out H2.out.2 (Nat.le_refl _)⟩
end Go.Proofs.YtndcpjnfdgojkaaDoor
