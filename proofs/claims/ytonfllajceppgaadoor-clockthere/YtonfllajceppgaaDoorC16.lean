/-
  Clock: the page's examples.
-/
import Derived.Test.YtonfllajceppgaaDoorC15
import Derived.Lib.ConvBytes
namespace Go.Proofs.YtonfllajceppgaaDoor
open Go.RowKit
theorem conv_bytes (w : World) (X : List Int) (hU : U8s X) : ∃ c w', Sem.run Tryd.prog (convert 9 22 (.string (strOfNums X))) w = .ok (.slice (some ⟨w.heap.size, 0, none⟩) X.length c) w' ∧ Sl .u8 w' (.slice (some ⟨w.heap.size, 0, none⟩) X.length c) X ∧ Below w.heap.size w w' := by
  refine ⟨grownCap w (strOfNums X).size 0 5, Lib.bytesWorld w 5 (strOfNums X), ?_, ?_, ?_⟩
  · have := Lib.run_convert_string_bytes (P := Tryd.prog) w _ _ _ (strOfNums X) Tryd.str Tryd.und8 Tryd.e8
    rw [this, st_size]
  · refine ⟨_, _, rfl, ?_, ?_⟩
    · have := grownCap_ge w (strOfNums X).size 0 5; rw [st_size] at this ⊢; exact this
    · right
      refine ⟨_, 0, rfl, by rw [Lib.bytesWorld_size]; omega, fun i hi => ?_⟩
      rw [Nat.zero_add, Lib.bytesWorld_cell w _ _ i (by rw [st_size]; exact hi)]
      have e : (strOfNums X).data.toList.getD i 0 = UInt8.ofNat (X[i]).toNat := by
        rw [strOfNums_data]; simp [hi]
      rw [e, u8_toNat (hU _ (List.getElem_mem hi))]
      simp [hi]
  · exact ⟨rfl, rfl, rfl, by rw [Lib.bytesWorld_size]; omega, fun j hj => Lib.bytesWorld_at_old w _ _ j hj⟩
def mo70 : Mo := ⟨1970, 1, 1, 0, 0, 0⟩
theorem mo_ok {t : Mo} (h : (0 ≤ t.Y ∧ t.Y ≤ 9999 ∧ 1 ≤ t.M ∧ t.M ≤ 12 ∧ 1 ≤ t.D ∧ t.D ≤ ml t.Y t.M) ∧ (0 ≤ t.h ∧ t.h < 24 ∧ 0 ≤ t.m ∧ t.m < 60 ∧ 0 ≤ t.s ∧ t.s < 60)) : t.Ok :=
  ⟨h.1.1, h.1.2.1, h.1.2.2.1, h.1.2.2.2.1, h.1.2.2.2.2.1, h.1.2.2.2.2.2, h.2.1, h.2.2.1, h.2.2.2.1, h.2.2.2.2.1, h.2.2.2.2.2.1, h.2.2.2.2.2.2⟩
theorem mo70_ok : mo70.Ok := mo_ok (by decide)
theorem mo70_sec : mo70.sec = 0 := by decide
def exB : List Int := [49, 57, 55, 48, 48, 49, 48, 49, 48, 48, 48, 48, 48, 48, 90]
theorem exB_u8 : U8s exB := by unfold U8s U8 exB; decide
set_option maxRecDepth 100000 in
set_option maxHeartbeats 2000000 in
theorem PutGeneral_live {w : World} (hT : Tab w) : Calls Tryd.prog 7 #[.int .i64 0, .int .i64 0] w fun e w' => ∃ a c, e = .returned (.tuple #[.slice a 15 c, .int .i64 0]) ∧ Sl .u8 w' (.slice a 15 c) exB ∧ Below w.heap.size w w' := by
  have HT : Hid (Tab w) := hT
  clear hT
  have hS : (strOfNums exD).size = 14 := st_size _
  have HA : Hid (strOfNums exD ++ ⟨#[]⟩ ++ ⟨#[90]⟩ = strOfNums exB) := by
    show _ = _
    rw [show (⟨#[]⟩ : ByteArray) = strOfNums [] from rfl, st_append, s90, st_append]; rfl
  go_enter Tryd.func7, Tryd.ntmps7
  go_wp2_with fail
  refine (Parts_any 0).mono ?_
  rintro e w1 ⟨hP, hb⟩
  rcases hP with ⟨_, _, t, rfl, hO, hs⟩ | ⟨hn, _⟩
  · obtain rfl : t = mo70 := Mo.inj hO mo70_ok (by rw [hs, mo70_sec])
    have H1 : Hid (Below w.heap.size w w1) := hb
    clear hO hs hb
    have HJ : Hid (∀ w : World, Calls Tryd.prog 16 #[.agg mo70.cells.toArray] w fun e w' => e = .returned (.int .i64 19700101000000) ∧ Below w.heap.size w w') := fun w => joined_any mo70 mo70_ok
    unfold mo70 Mo.cells at HJ ⊢
    go_wp2_with fail
    refine (HJ.out _).mono ?_
    rintro e w2 ⟨rfl, hb⟩
    have hb2 : Below w.heap.size w w2 := below_via (al2' H1.out) hb (Nat.le_refl _)
    have H2 : Hid (Below w.heap.size w w2) := hb2
    clear hb hb2
    go_wp2_with fail
    refine (digits_c (HT.out.below H2.out)).mono ?_
    rintro e w3 ⟨rfl, hb⟩
    have hb3 : Below w.heap.size w w3 := below_via H2.out hb (Nat.le_refl _)
    have H3 : Hid (Below w.heap.size w w3) := hb3
    clear hb hb3
    obtain ⟨c, w4, hcv, hSl, hb4⟩ := conv_bytes w3 exB exB_u8
    rw [← HA.out] at hcv
    have H4 : Hid (Sl .u8 w4 (.slice (some ⟨w3.heap.size, 0, none⟩) 15 c) exB ∧ Below w.heap.size w w4) := ⟨hSl, below_via H3.out hb4 (Nat.le_refl _)⟩
    clear hSl hb4
    have hl15 : exB.length = 15 := rfl
    rw [hl15] at hcv
    clear hl15
    go_wp2_with (go_at_call 20; refine fraction_0.mono ?_; rintro e w' ⟨rfl, rfl⟩)
    go_ret2
    exact ⟨_, _, rfl, H4.out.1, H4.out.2⟩
  · exact absurd (by decide) hn
end Go.Proofs.YtonfllajceppgaaDoor
