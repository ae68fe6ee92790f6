/-
  Clock: the moment of seconds; the seconds of a moment.
-/
import Derived.Test.YtonfllajceppgaaDoorC1
namespace Go.Proofs.YtonfllajceppgaaDoor
open Go.RowKit
theorem moment_of {sec day r Y M D : Int} (h0 : -62167219200 ≤ sec) (h1 : sec ≤ 253402300799) (hd : (sec + 74784816000) / 86400 = day) (hr : (sec + 74784816000) % 86400 = r) (h : DayIs day Y M D) :
    Mo.Ok ⟨Y, M, D, r / 3600, r / 60 % 60, r % 60⟩ ∧ Mo.sec ⟨Y, M, D, r / 3600, r / 60 % 60, r % 60⟩ = sec := by
  have hs := h.sum
  have e0 : 0 ≤ day - 146037 := by omega
  have e1 : day - 146037 < 3652425 := by omega
  have i0 := ms_mono Y (a := M) (b := 13) h.m0 (by have := h.m1; omega) (by omega)
  rw [ms_13] at i0
  have l := lp_01 Y
  have f : 0 ≤ ms Y M := by have := h.m0; unfold ms; split <;> omega
  have d0 := h.d0
  have d1 := h.d1
  have y0 : 0 ≤ Y := by
    by_cases hy : Y < 0
    · have := ys_mono (a := Y) (b := 0) hy
      have z : ys 0 = 0 := by decide
      omega
    · omega
  have y1 : Y ≤ 9999 := by
    by_cases hy : 9999 < Y
    · have z : ys 10000 = 3652425 := by decide
      have : ys 10000 ≤ ys Y := by
        by_cases e : Y = 10000
        · rw [e]; omega
        · have := ys_mono (a := 10000) (b := Y) (by omega)
          have := lp_01 10000
          omega
      omega
    · omega
  refine ⟨⟨y0, y1, h.m0, h.m1, h.d0, h.d1, by simp only; omega, by simp only; omega, by simp only; omega, by simp only; omega, by simp only; omega, by simp only; omega⟩, ?_⟩
  unfold Mo.sec Mo.day
  simp only
  have : ys Y + ms Y M + D - 1 = day - 146037 := by omega
  rw [this]; omega
set_option maxHeartbeats 1000000 in
theorem momentAt_any {w : World} (sec : Int) (h0 : -62167219200 ≤ sec) (h1 : sec ≤ 253402300799) : Calls Tryd.prog 24 #[.int .i64 sec] w fun e w' =>
    ∃ t : Mo, e = .returned (.agg t.cells.toArray) ∧ t.Ok ∧ t.sec = sec ∧ Below w.heap.size w w' := by
  obtain ⟨S, hS⟩ : ∃ S, sec + 74784816000 = S := ⟨_, rfl⟩
  have S0 : 0 ≤ S := by omega
  have S1 : S ≤ 400000000000 := by omega
  obtain ⟨day, hd⟩ : ∃ d, S / 86400 = d := ⟨_, rfl⟩
  obtain ⟨r, hr⟩ : ∃ d, S % 86400 = d := ⟨_, rfl⟩
  have d0 : 0 ≤ day := by omega
  have d1 : day ≤ 10000000 := by omega
  have r0 : 0 ≤ r := by omega
  have r1 : r < 86400 := by omega
  go_enter Tryd.func24, Tryd.ntmps24
  go_wp2_with fail
  refine (dayAt_any day d0 d1).mono ?_
  rintro e w1 ⟨Y, M, D, rfl, hD, hb⟩
  have hB1 : Blk 40 w1 w.heap.size (Mo.cells ⟨0, 0, 0, 0, 0, 0⟩) := below_blk hb (by simp) (Blk.new _ w _)
  have hb1 : Below w.heap.size w w1 := (al1 _).trans (hb.mono (by simp))
  have H1 : Hid (DayIs day Y M D ∧ Below w.heap.size w w1 ∧ Blk 40 w1 w.heap.size (Mo.cells ⟨0, 0, 0, 0, 0, 0⟩)) := ⟨hD, hb1, hB1⟩
  clear hD hb hb1 hB1
  go_upto_region 5 with (fail)
  refine wp_gen (fun W => Below w.heap.size w W ∧ Blk 40 W w.heap.size (Mo.cells ⟨0, 0, 0, 0, 0, 0⟩) ∧ Blk 40 W w1.heap.size (Mo.cells ⟨Y, M, D, r / 3600, r / 60 % 60, r % 60⟩)) ⟨al2' H1.out.2.1, H1.out.2.2.alloc _, Blk.new _ w1 (Mo.cells ⟨Y, M, D, r / 3600, r / 60 % 60, r % 60⟩)⟩ ?_
  rintro w2 ⟨hb2, hB2, hN2⟩
  obtain ⟨d0, d1, d2, d3, d4, d5, f0, f1, f2, f3, f4, f5⟩ := Mo.facts hB2
  obtain ⟨c0, c1, c2, c3, c4, c5, g0, g1, g2, g3, g4, g5⟩ := Mo.facts hN2
  have H2 : Hid (Below w.heap.size w w2 ∧ Blk 40 w2 w.heap.size (Mo.cells ⟨0, 0, 0, 0, 0, 0⟩)) := ⟨hb2, hB2⟩
  clear hb2 hB2 hN2
  go_wp2
  obtain ⟨hF, hU⟩ := Mo.put H2.out.2 Y M D (r / 3600) (r / 60 % 60) (r % 60)
  refine bodyPost_ret (v := .agg (Mo.cells ⟨Y, M, D, r / 3600, r / 60 % 60, r % 60⟩).toArray) (results_blk (b := w.heap.size) (cs := Mo.cells ⟨Y, M, D, r / 3600, r / 60 % 60, r % 60⟩) rfl rfl hF Tryd.underlying40 rfl Tryd.sizeMo) rfl ⟨⟨Y, M, D, r / 3600, r / 60 % 60, r % 60⟩, rfl, ?_, ?_, hU.below H2.out.1 H2.out.1.size (Nat.le_refl _)⟩
  · exact (moment_of h0 h1 (by rw [hS]; exact hd) (by rw [hS]; exact hr) H1.out.1).1
  · exact (moment_of h0 h1 (by rw [hS]; exact hd) (by rw [hS]; exact hr) H1.out.1).2
/-- what Parts tells -/
def PartsIs (sec : Int) (e : Ending) : Prop :=
  (-62167219200 ≤ sec ∧ sec ≤ 253402300799 ∧ ∃ t : Mo, e = .returned (.tuple #[.agg t.cells.toArray, .int .i64 0]) ∧ t.Ok ∧ t.sec = sec) ∨
  (¬ (-62167219200 ≤ sec ∧ sec ≤ 253402300799) ∧ e = .returned (.tuple #[.agg (Mo.cells ⟨0, 0, 0, 0, 0, 0⟩).toArray, .int .i64 50]))
set_option maxHeartbeats 1000000 in
theorem Parts_any {w : World} (sec : Int) : Calls Tryd.prog 14 #[.int .i64 sec] w fun e w' => PartsIs sec e ∧ Below w.heap.size w w' := by
  by_cases h0 : -62167219200 ≤ sec
  · by_cases h1 : sec ≤ 253402300799
    · go_enter Tryd.func14, Tryd.ntmps14
      go_wp2_with fail
      refine (momentAt_any sec h0 h1).mono ?_
      rintro e w1 ⟨t, rfl, hO, hs, hb⟩
      have hB1 : Blk 40 w1 w.heap.size (Mo.cells ⟨0, 0, 0, 0, 0, 0⟩) := below_blk hb (by simp) (Blk.new _ w _)
      have hb1 : Below w.heap.size w w1 := (al1 _).trans (hb.mono (by simp))
      obtain ⟨d0, d1, d2, d3, d4, d5, f0, f1, f2, f3, f4, f5⟩ := Mo.facts hB1
      have H1 : Hid (t.Ok ∧ t.sec = sec ∧ Below w.heap.size w w1 ∧ Blk 40 w1 w.heap.size (Mo.cells ⟨0, 0, 0, 0, 0, 0⟩)) := ⟨hO, hs, hb1, hB1⟩
      clear hO hs hb hb1 hB1
      obtain ⟨Y, M, D, h, m, s⟩ := t
      unfold Mo.cells
      go_wp2
      obtain ⟨hF, hU⟩ := Mo.put H1.out.2.2.2 Y M D h m s
      refine bodyPost_ret (results_blk2 rfl rfl hF Tryd.underlying40 rfl Tryd.sizeMo rfl) rfl ⟨Or.inl ⟨h0, h1, ⟨Y, M, D, h, m, s⟩, rfl, H1.out.1, H1.out.2.1⟩, hU.below H1.out.2.2.1 H1.out.2.2.1.size (Nat.le_refl _)⟩
    · go_enter Tryd.func14, Tryd.ntmps14
      go_wp2
      exact bodyPost_ret (results_blk2 rfl rfl (Blk.new _ w (Mo.cells ⟨0, 0, 0, 0, 0, 0⟩)) Tryd.underlying40 rfl Tryd.sizeMo rfl) rfl ⟨Or.inr ⟨fun h => by omega, rfl⟩, al1 _⟩
  · go_enter Tryd.func14, Tryd.ntmps14
    go_wp2
    exact bodyPost_ret (results_blk2 rfl rfl (Blk.new _ w (Mo.cells ⟨0, 0, 0, 0, 0, 0⟩)) Tryd.underlying40 rfl Tryd.sizeMo rfl) rfl ⟨Or.inr ⟨fun h => by omega, rfl⟩, al1 _⟩
end Go.Proofs.YtonfllajceppgaaDoor
