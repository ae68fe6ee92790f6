/-
  Text: TextFolds.
-/
import Derived.Test.YtonekkfpadgdhaaDoorT12
import Derived.Test.YtonekkfpadgdhaaDoorLaidT
namespace Go.Proofs.YtonekkfpadgdhaaDoor
open Go.RowKit
theorem Tab.below {w w' : World} (h : Tab w) (hb : Below w.heap.size w w') : Tab w' := ⟨Utf8Tabs_below h.u8 hb, Tabs_below h.pw hb⟩
theorem live_t {w : World} (h : Tab w) : Calls Tryd.prog 9 #[] w fun e w' => e = .returned (.bool true) ∧ Below w.heap.size w w' := live_any h.u8 h.pw
set_option maxHeartbeats 1000000 in
theorem TextFolds_any {w : World} (s : ByteArray) (hT : Tab w) (hs : s.size ≤ 9223372036854775807) : Calls Tryd.prog 4 #[.string s] w fun e w' => e = .returned (.bool true) ∧ Below w.heap.size w w' := by
  obtain ⟨l, hl⟩ : ∃ l, str l = s := ⟨s.data.toList, str_eta s⟩
  have HT : Hid (Tab w) := hT
  have HL : Hid (str l = s) := hl
  have hz : s.size = l.length := by rw [← hl]; exact str_size l
  have HZ : Hid (s.size = l.length) := hz
  clear hT hl hz
  have zI : (s.size : Int) ≤ 9223372036854775807 := by omega
  by_cases hbig : 16384 < s.size
  · have b1 : (16384 : Int) < (s.size : Int) := by omega
    go_enter Tryd.func4, Tryd.ntmps4
    go_wp2_with fail
    refine (live_t HT.out).mono ?_
    rintro e w1 ⟨rfl, hb⟩
    go_wp2
    go_ret
    exact ⟨rfl, hb⟩
  · have b1 : ¬ (16384 : Int) < (s.size : Int) := by omega
    have hle : l.length ≤ 100000 := by have := HZ.out; omega
    have HF : Hid (∀ W, Tab W → Calls Tryd.prog 15 #[.string s] W fun e w' => e = .returned (.string (str (foldB l))) ∧ Below W.heap.size W w') := fun W h => HL.out ▸ Fold_any l hle h.u8
    have HR : Hid (∀ W : World, Calls Tryd.prog 16 #[.string s] W fun e w' => e = .returned (.string (str (foldB l))) ∧ Below W.heap.size W w') := fun W => HL.out ▸ RFold_any l hle
    obtain ⟨F, hF⟩ : ∃ F, str (foldB l) = F := ⟨_, rfl⟩
    rw [hF] at HF HR
    clear hF hle
    go_enter Tryd.func4, Tryd.ntmps4
    go_wp2_with fail
    refine (HF.out _ HT.out).mono ?_
    rintro e w1 ⟨rfl, hb⟩
    go_wp2_with fail
    refine (HR.out _).mono ?_
    rintro e w2 ⟨rfl, hb2⟩
    have H2 : Hid (Below w.heap.size w w2) := below_via hb hb2 (Nat.le_refl _)
    clear hb hb2
    go_wp2_with fail
    refine (live_t (HT.out.below H2.out)).mono ?_
    rintro e w3 ⟨rfl, hb3⟩
    have H3 : Hid (Below w.heap.size w w3) := below_via H2.out hb3 (Nat.le_refl _)
    clear hb3
    go_wp2
    go_ret
    exact ⟨rfl, H3.out⟩
end Go.Proofs.YtonekkfpadgdhaaDoor
