/-
  Digest: Spoil.
-/
import Derived.Test.YtgipmjpkaemdkaaDoorG22
import Derived.Test.YtgipmjpkaemdkaaDoorApB
namespace Go.Proofs.YtgipmjpkaemdkaaDoor
open Go.RowKit
set_option maxHeartbeats 1000000 in
theorem Spoil_any {w : World} (b n c : Nat) (S : List Int) (hA : Arr .u8 5 w b S) (hn : n ≤ S.length) (hnn : n ≤ 1152921504606846976) :
    Calls Tryd.prog 23 #[.slice (some ⟨b, 0, none⟩) n c] w fun e w' => e = .returned (.tuple #[]) ∧ Upd w w' b ∧ ∃ S', Arr .u8 5 w' b S' ∧ S'.length = S.length := by
  have HA : Hid (Arr .u8 5 w b S ∧ n ≤ S.length) := ⟨hA, hn⟩
  clear hA hn
  go_enter Tryd.func23, Tryd.ntmps23
  go_wp2
  go_loopw [2] (fun iv wr => ∃ (i : Nat) (S' : List Int), iv = .int .i64 i ∧ i ≤ n ∧ Upd w wr b ∧ Arr .u8 5 wr b S' ∧ S'.length = S.length) (fun iv _ => n - (intOf iv).toNat)
  case atStart => exact ⟨0, S, rfl, by omega, Upd.refl _ _, HA.out.1, rfl⟩
  case round =>
    obtain ⟨i, S', rfl, hi, hu, hA, hl⟩ := hrel
    by_cases hlt : i < n
    · have hn := HA.out.2
      have hci := hA.cell i (by omega)
      have hfi := hA.frozen i
      obtain ⟨x, hx⟩ : ∃ x, S'.getD i 0 = x := ⟨_, rfl⟩
      rw [hx] at hci
      have HN : Hid (Upd w wr b ∧ Arr .u8 5 wr b S' ∧ S'.length = S.length) := ⟨hu, hA, hl⟩
      clear hu hA hl hx hn
      have hiI : (i : Int) < (n : Int) := by omega
      go_wp2
      go_roundw
      case rel => exact ⟨i + 1, _, by go_num, by omega, HN.out.1.trans (Upd.set _ _ _ _), HN.out.2.1.set i _, by rw [List.length_set]; exact HN.out.2.2⟩
      case measure => simp [intOf]; omega
    · obtain rfl : i = n := by omega
      have HN : Hid (Upd w wr b ∧ ∃ S', Arr .u8 5 wr b S' ∧ S'.length = S.length) := ⟨hu, S', hA, hl⟩
      clear hu hA hl
      go_wp2
      exact bodyPost_end (v := .tuple #[]) (results_none rfl _ _ _) rfl ⟨rfl, HN.out⟩
end Go.Proofs.YtgipmjpkaemdkaaDoor
