/-
  Clock: Utc.
-/
import Derived.Test.YtonfllajceppgaaDoorC8
namespace Go.Proofs.YtonfllajceppgaaDoor
open Go.RowKit
theorem sl_str {w : World} {v : Value} {X : List Int} (h : Sl .u8 w v X) : ∃ a c, v = .slice a X.length c ∧ Sem.run Tryd.prog (convert 22 9 (.slice a X.length c)) w = .ok (.string (strOfNums X)) w := by
  obtain ⟨a, c, rfl, _, hx | ⟨b, off, rfl, _, hr⟩⟩ := h
  · subst hx
    refine ⟨a, c, rfl, ?_⟩
    rw [run_convert_bytes_string w _ _ _ _ _ c Tryd.und8 Tryd.e8 Tryd.str]
    cases a with
    | none => simp [Conv.bytesToString]; rfl
    | some p => simp [Conv.bytesToString, loadCells]; rfl
  · exact ⟨_, c, rfl, run_convert_bytes_arg w _ _ Tryd.und8 Tryd.e8 b off _ _ X rfl hr _ Tryd.str⟩
def UtcIs (X : List Int) (e : Ending) : Prop :=
  (∃ Y, X = Y ++ [90] ∧ Y.length = 12 ∧ Dgs Y ∧ SecondsIs (utcMo (nval Y)) e) ∨
  ((∀ Y, ¬ (X = Y ++ [90] ∧ Y.length = 12 ∧ Dgs Y)) ∧ e = .returned (.tuple #[.int .i64 0, .int .i64 6]))
set_option maxHeartbeats 2000000 in
theorem Utc_any {w : World} (v : Value) (X : List Int) (hX : Sl .u8 w v X) (hU : U8s X) (hl : X.length ≤ 1000000000000) : Calls Tryd.prog 13 #[v] w fun e w' => UtcIs X e ∧ Below w.heap.size w w' := by
  obtain ⟨a, c, rfl, hcv⟩ := sl_str hX
  obtain ⟨S, hS⟩ : ∃ S, strOfNums X = S := ⟨_, rfl⟩
  obtain ⟨n, hn⟩ : ∃ n, X.length = n := ⟨_, rfl⟩
  have HC : Hid (∀ w : World, Calls Tryd.prog 23 #[.string S] w fun e w' => UtcMIs X e ∧ Below w.heap.size w w') := fun w => by
    rw [← hS]; exact utcMoment_any X hU hl
  rw [hS] at hcv
  rw [hn] at hcv ⊢
  clear hS hX hU hl hn
  go_enter Tryd.func13, Tryd.ntmps13
  go_wp2_with fail
  refine (HC.out _).mono ?_
  rintro e w1 ⟨hM, hb⟩
  have H1 : Hid (Below w.heap.size w w1) := hb
  clear hb hcv
  rcases hM with ⟨Y, hY, h12, hD, rfl⟩ | ⟨hn, rfl⟩
  · have H2 : Hid (X = Y ++ [90] ∧ Y.length = 12 ∧ Dgs Y) := ⟨hY, h12, hD⟩
    clear hY h12 hD
    have H3 : Hid (∀ w : World, Calls Tryd.prog 21 #[.agg (utcMo (nval Y)).cells.toArray] w fun e w' => SecondsIs (utcMo (nval Y)) e ∧ Below w.heap.size w w') := fun w => Seconds_any _
    obtain ⟨t, ht⟩ : ∃ t, utcMo (nval Y) = t := ⟨_, rfl⟩
    have H4 : Hid (utcMo (nval Y) = t) := ht
    rw [ht] at H3 ⊢
    clear ht
    obtain ⟨Y', M, D, h, m, s⟩ := t
    unfold Mo.cells at H3 ⊢
    go_wp2_with fail
    refine (H3.out _).mono ?_
    rintro e w2 ⟨hs, hb⟩
    have hb2 : Below w.heap.size w w2 := below_via (al2' H1.out) hb (Nat.le_refl _)
    have H5 : Hid (Below w.heap.size w w2 ∧ SecondsIs ⟨Y', M, D, h, m, s⟩ e) := ⟨hb2, hs⟩
    obtain ⟨v1, v2, rfl⟩ : ∃ v1 v2, e = .returned (.tuple #[.int .i64 v1, .int .i64 v2]) := by
      rcases hs with ⟨_, h⟩ | ⟨_, h⟩ <;> exact ⟨_, _, h⟩
    clear hb hs hb2
    go_wp2
    go_ret2
    refine ⟨Or.inl ⟨Y, H2.out.1, H2.out.2.1, H2.out.2.2, ?_⟩, H5.out.1⟩
    rw [H4.out]; exact H5.out.2
  · unfold Mo.cells
    go_wp2
    go_ret2
    exact ⟨Or.inr ⟨hn, rfl⟩, al2' H1.out⟩
end Go.Proofs.YtonfllajceppgaaDoor
