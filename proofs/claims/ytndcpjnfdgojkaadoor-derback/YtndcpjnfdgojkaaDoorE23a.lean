/-
  Der: which heads may be.
-/
import Derived.Test.YtndcpjnfdgojkaaDoorE13
namespace Go.Proofs.YtndcpjnfdgojkaaDoor
open Go.RowKit
def headOk (class_ tag : Int) : Bool := decide (0 ≤ class_ ∧ class_ ≤ 3 ∧ 0 ≤ tag ∧ tag ≤ 268435455 ∧ ¬ (class_ = 0 ∧ tag = 0))
set_option maxHeartbeats 2000000 in
theorem isHead_any {w : World} (c t : Int) : Calls Tryd.prog 51 #[.int .i64 c, .int .i64 t] w fun e w' => e = .returned (.bool (headOk c t)) ∧ w = w' := by
  have HH : Hid (headOk c t = decide (0 ≤ c ∧ c ≤ 3 ∧ 0 ≤ t ∧ t ≤ 268435455 ∧ ¬ (c = 0 ∧ t = 0))) := rfl
  obtain ⟨r, hr⟩ : ∃ r, headOk c t = r := ⟨_, rfl⟩
  rw [hr] at HH ⊢
  clear hr
  by_cases h1 : c < 0
  · have HF : Hid (r = false) := by show _ = _; rw [HH.out]; simp; omega
    go_enter Tryd.func51, Tryd.ntmps51
    go_wp2
    go_ret
    exact ⟨by rw [HF.out]; rfl, rfl⟩
  by_cases h2 : 3 < c
  · have HF : Hid (r = false) := by show _ = _; rw [HH.out]; simp; omega
    go_enter Tryd.func51, Tryd.ntmps51
    go_wp2
    go_ret
    exact ⟨by rw [HF.out]; rfl, rfl⟩
  by_cases h3 : t < 0
  · have HF : Hid (r = false) := by show _ = _; rw [HH.out]; simp; omega
    go_enter Tryd.func51, Tryd.ntmps51
    go_wp2
    go_ret
    exact ⟨by rw [HF.out]; rfl, rfl⟩
  by_cases h4 : 268435455 < t
  · have HF : Hid (r = false) := by show _ = _; rw [HH.out]; simp; omega
    go_enter Tryd.func51, Tryd.ntmps51
    go_wp2
    go_ret
    exact ⟨by rw [HF.out]; rfl, rfl⟩
  by_cases h5 : c = 0
  · subst h5
    by_cases h6 : t = 0
    · subst h6
      have HF : Hid (r = false) := by show _ = _; rw [HH.out]; simp
      go_enter Tryd.func51, Tryd.ntmps51
      go_wp2
      go_ret
      exact ⟨by rw [HF.out]; rfl, rfl⟩
    · have HF : Hid (r = true) := by show _ = _; rw [HH.out]; simp; omega
      have h6b : (t != 0) = true := by simpa using h6
      go_enter Tryd.func51, Tryd.ntmps51
      go_wp2
      go_ret
      exact ⟨by rw [HF.out]; rfl, rfl⟩
  · have HF : Hid (r = true) := by show _ = _; rw [HH.out]; simp; omega
    have h5b : (c != 0) = true := by simpa using h5
    go_enter Tryd.func51, Tryd.ntmps51
    go_wp2
    go_ret
    exact ⟨by rw [HF.out]; rfl, rfl⟩
end Go.Proofs.YtndcpjnfdgojkaaDoor
