/-
  Der: Split of any slice.
-/
import Derived.Test.YtndcpjnfdgojkaaDoorE46
namespace Go.Proofs.YtndcpjnfdgojkaaDoor
open Go.RowKit
set_option maxRecDepth 20000 in
set_option maxHeartbeats 4000000 in
theorem SplitS_any {w : World} (v : Value) (M : List Int) (hv : Sl .u8 w v M) (uM : U8s M) (hl : M.length ≤ 9223372036854775807) :
    Calls Tryd.prog 10 #[v] w fun e w' => SplitAns M w.heap.size w' e ∧ Below w.heap.size w w' := by
  obtain ⟨a, c, rfl, hc, h⟩ := hv
  by_cases hn : M.length ≤ 16777216
  · by_cases hne : M = []
    · subst hne
      have HE : Hid (SplitAns [] w.heap.size = fun w' e => SplitOut 0 w.heap.size w' e (.ok [])) := rfl
      rw [HE.out]
      simp only [List.length_nil]
      go_enter Tryd.func10, Tryd.ntmps10
      go_wp2_with fail
      refine wp_gen (fun W => Blk 75 W w.heap.size [.slice a 0 c, .int .i64 0] ∧ Below w.heap.size w W) ⟨Blk.new _ w _, al1 _⟩ ?_
      rintro v1 hv1
      have H1 : Hid (Below w.heap.size w v1) := hv1.2
      have g1 : v1.cell? ⟨w.heap.size, 1, none⟩ = some (.int .i64 0) := hv1.1.cell 1
      clear hv1
      refine wp_loop_rounds 1 ?_
      rw [rounds_succ]
      go_upto_region 11 with (fail)
      go_quiet (fail)
      go_wp2
      go_ret3
      exact ⟨⟨_, rfl, Tlvs.nil _ _⟩, below_drewN _ H1.out⟩
    · rcases h with h | ⟨b, off, rfl, hb, hr⟩
      · exact absurd h hne
      · exact SplitS_ne b off M.length c M hr uM rfl hn hc hb
  · have HE : Hid (splitS M = .bad 3 0) := by show _ = _; unfold splitS; rw [if_pos (by omega)]
    have hnI : (16777216 : Int) < (M.length : Int) := by omega
    unfold SplitAns
    rw [HE.out]
    obtain ⟨n, hn⟩ : ∃ n, M.length = n := ⟨_, rfl⟩
    rw [hn] at hnI ⊢
    clear h
    go_enter Tryd.func10, Tryd.ntmps10
    go_wp2
    go_ret3
    exact ⟨rfl, Below.refl _ _⟩
end Go.Proofs.YtndcpjnfdgojkaaDoor
