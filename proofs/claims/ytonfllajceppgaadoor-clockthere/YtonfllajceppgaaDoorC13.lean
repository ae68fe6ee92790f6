/-
  Clock: General.
-/
import Derived.Test.YtonfllajceppgaaDoorC12
namespace Go.Proofs.YtonfllajceppgaaDoor
open Go.RowKit
def GeneralIs (X : List Int) (e : Ending) : Prop :=
  (∃ t mi, GenSays X t mi ∧ t.Ok ∧ e = .returned (.tuple #[.int .i64 t.sec, .int .i64 mi, .int .i64 0])) ∨
  (∃ t mi, GenSays X t mi ∧ ¬ t.Ok ∧ e = .returned (.tuple #[.int .i64 0, .int .i64 0, .int .i64 50])) ∨
  ((∀ t mi, ¬ GenSays X t mi) ∧ e = .returned (.tuple #[.int .i64 0, .int .i64 0, .int .i64 6]))
set_option maxHeartbeats 2000000 in
theorem General_any {w : World} (v : Value) (X : List Int) (hX : Sl .u8 w v X) (hU : U8s X) (hl : X.length ≤ 1000000000000) : Calls Tryd.prog 12 #[v] w fun e w' => GeneralIs X e ∧ Below w.heap.size w w' := by
  obtain ⟨a, c, rfl, hcv⟩ := sl_str hX
  obtain ⟨S, hS⟩ : ∃ S, strOfNums X = S := ⟨_, rfl⟩
  obtain ⟨n, hn⟩ : ∃ n, X.length = n := ⟨_, rfl⟩
  have HC : Hid (∀ w : World, Calls Tryd.prog 22 #[.string S] w fun e w' => GenMIs X e ∧ Below w.heap.size w w') := fun w => by
    rw [← hS]; exact generalMoment_any X hU hl
  rw [hS] at hcv
  rw [hn] at hcv ⊢
  clear hS hX hU hl hn
  go_enter Tryd.func12, Tryd.ntmps12
  go_wp2_with fail
  refine (HC.out _).mono ?_
  rintro e w1 ⟨hM, hb⟩
  have H1 : Hid (Below w.heap.size w w1) := hb
  clear hb hcv
  rcases hM with ⟨t, mi, hG, rfl⟩ | ⟨hn, rfl⟩
  · have H2 : Hid (GenSays X t mi) := hG
    clear hG
    have H3 : Hid (∀ w : World, Calls Tryd.prog 21 #[.agg t.cells.toArray] w fun e w' => SecondsIs t e ∧ Below w.heap.size w w') := fun w => Seconds_any _
    obtain ⟨Y', M, D, h, m, s⟩ := t
    unfold Mo.cells at H3 ⊢
    go_wp2_with fail
    refine (H3.out _).mono ?_
    rintro e w2 ⟨hs, hb⟩
    have hb2 : Below w.heap.size w w2 := below_via (al2' H1.out) hb (Nat.le_refl _)
    have H5 : Hid (Below w.heap.size w w2) := hb2
    clear hb hb2
    rcases hs with ⟨hO, rfl⟩ | ⟨hO, rfl⟩
    · have H6 : Hid (Mo.Ok ⟨Y', M, D, h, m, s⟩) := hO
      clear hO
      go_wp2
      go_ret3
      exact ⟨Or.inl ⟨_, _, H2.out, H6.out, rfl⟩, H5.out⟩
    · have H6 : Hid (¬ Mo.Ok ⟨Y', M, D, h, m, s⟩) := hO
      clear hO
      go_wp2
      go_ret3
      exact ⟨Or.inr (Or.inl ⟨_, _, H2.out, H6.out, rfl⟩), H5.out⟩
  · unfold Mo.cells
    go_wp2
    go_ret3
    exact ⟨Or.inr (Or.inr ⟨hn, rfl⟩), al2' H1.out⟩
end Go.Proofs.YtonfllajceppgaaDoor
