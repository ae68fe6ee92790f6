/-
  Clock: the page's example of bytes of a moment.
-/
import Derived.Test.YtonfllajceppgaaDoorC14
namespace Go.Proofs.YtonfllajceppgaaDoor
open Go.RowKit
def exD : List Int := [49, 57, 55, 48, 48, 49, 48, 49, 48, 48, 48, 48, 48, 48]
set_option maxRecDepth 100000 in
set_option maxHeartbeats 2000000 in
theorem formatInt_c {w : World} (hT : Tab w) : Calls Tryd.prog 54 #[.int .i64 19700101000000, .int .i64 10] w fun e w' => e = .returned (.string (strOfNums exD)) ∧ Below w.heap.size w w' := by
  have HT : Hid (Tab w) := hT
  clear hT
  go_enter Tryd.func54, Tryd.ntmps54
  go_wp2_with (go_at_call 66; refine (numDigits_c (HT.out.below (al1 _))).mono ?_; rintro e w' ⟨rfl, rfl⟩)
  refine (format_c w.heap.size 23 (Blk.new _ w fb0)).mono ?_
  rintro e w1 ⟨⟨u, rfl⟩, hu, hB⟩
  have hb : Below w.heap.size w w1 := hu.below (al1 _) (al1 _).size (Nat.le_refl _)
  have hcv : Sem.run Tryd.prog (convert 22 9 (.slice (some ⟨w.heap.size, 1, none⟩) 14 23)) w1 = .ok (.string (strOfNums exD)) w1 := by
    refine run_convert_bytes_arg w1 _ _ Tryd.und8 Tryd.e8 w.heap.size 1 14 23 exD rfl (fun i hi => ?_) _ Tryd.str
    rw [hB.cell]
    have : i = 0 ∨ i = 1 ∨ i = 2 ∨ i = 3 ∨ i = 4 ∨ i = 5 ∨ i = 6 ∨ i = 7 ∨ i = 8 ∨ i = 9 ∨ i = 10 ∨ i = 11 ∨ i = 12 ∨ i = 13 := by omega
    rcases this with h | h | h | h | h | h | h | h | h | h | h | h | h | h <;> subst h <;> rfl
  have H1 : Hid (Below w.heap.size w w1) := hb
  clear hu hB hb
  go_wp2
  go_ret
  exact ⟨rfl, H1.out⟩
theorem itoaI_c {w : World} (hT : Tab w) : Calls Tryd.prog 37 #[.int .i64 19700101000000] w fun e w' => e = .returned (.string (strOfNums exD)) ∧ Below w.heap.size w w' := by
  have HT : Hid (Tab w) := hT
  clear hT
  go_enter Tryd.func37, Tryd.ntmps37
  go_wp2_with fail
  refine (formatInt_c HT.out).mono ?_
  rintro e w1 ⟨rfl, hb⟩
  go_wp2
  go_ret
  exact ⟨rfl, hb⟩
theorem itoa_c {w : World} (hT : Tab w) : Calls Tryd.prog 25 #[.int .i64 19700101000000] w fun e w' => e = .returned (.string (strOfNums exD)) ∧ Below w.heap.size w w' := by
  have HT : Hid (Tab w) := hT
  clear hT
  go_enter Tryd.func25, Tryd.ntmps25
  go_wp2_with fail
  refine (itoaI_c HT.out).mono ?_
  rintro e w1 ⟨rfl, hb⟩
  go_wp2
  go_ret
  exact ⟨rfl, hb⟩
theorem digits_c {w : World} (hT : Tab w) : Calls Tryd.prog 15 #[.int .i64 19700101000000, .int .i64 14] w fun e w' => e = .returned (.string (strOfNums exD)) ∧ Below w.heap.size w w' := by
  have HT : Hid (Tab w) := hT
  clear hT
  have hS : (strOfNums exD).size = 14 := st_size _
  have hZ : (strOfNums (zeros 0)).size = 0 := st_size _
  have HA : Hid (strOfNums (zeros 0) ++ strOfNums exD = strOfNums exD) := st_append _ _
  go_enter Tryd.func15, Tryd.ntmps15
  go_wp2_with fail
  refine (itoa_c HT.out).mono ?_
  rintro e w1 ⟨rfl, hb⟩
  have H1 : Hid (Below w.heap.size w w1) := hb
  clear hb
  go_wp2_with fail
  refine (Repeat_k 0 (by omega)).mono ?_
  rintro e w2 ⟨rfl, rfl⟩
  go_wp2
  go_ret
  refine ⟨?_, H1.out⟩
  show Ending.returned (.string (strOfNums (zeros 0) ++ strOfNums exD)) = _
  rw [HA.out]
def joinN (t : Mo) : Int := (t.Y * 10000 + t.M * 100 + t.D) * 1000000 + (t.h * 10000 + t.m * 100 + t.s)
theorem joined_any {w : World} (t : Mo) (hO : t.Ok) : Calls Tryd.prog 16 #[.agg t.cells.toArray] w fun e w' => e = .returned (.int .i64 (joinN t)) ∧ Below w.heap.size w w' := by
  obtain ⟨Y, M, D, h, m, s⟩ := t
  have y0 := hO.y0; have y1 := hO.y1; have m0 := hO.m0; have m1 := hO.m1
  have d0 := hO.d0; have h0 := hO.h0; have h1 := hO.h1; have i0 := hO.i0; have i1 := hO.i1; have s0 := hO.s0; have s1 := hO.s1
  have d31 : D ≤ 31 := Int.le_trans hO.d1 (ml_le Y M)
  simp only at y0 y1 m0 m1 d0 h0 h1 i0 i1 s0 s1
  clear hO
  unfold Mo.cells
  go_enter Tryd.func16, Tryd.ntmps16
  go_wp2
  go_ret
  exact ⟨rfl, al1 _⟩
theorem fraction_0 {w : World} : Calls Tryd.prog 20 #[.int .i64 0] w fun e w' => e = .returned (.string ⟨#[]⟩) ∧ w = w' := by
  go_enter Tryd.func20, Tryd.ntmps20
  go_wp2
  go_ret
  exact ⟨rfl, rfl⟩
end Go.Proofs.YtonfllajceppgaaDoor
