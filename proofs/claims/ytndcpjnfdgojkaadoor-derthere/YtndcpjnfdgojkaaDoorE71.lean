/-
  Der: the greatest of a row of numbers.
-/
import Derived.Test.YtndcpjnfdgojkaaDoorE70
namespace Go.Proofs.YtndcpjnfdgojkaaDoor
open Go.RowKit
/-- The greatest of the first i numbers (of a row that has one). -/
def mxN (X : List Int) : Nat → Int
  | 0 => X.getD 0 0
  | i + 1 => max (mxN X i) (X.getD i 0)
def U64s (X : List Int) : Prop := ∀ x ∈ X, 0 ≤ x ∧ x < 18446744073709551616
theorem U64s.at {X : List Int} (h : U64s X) (i : Nat) : 0 ≤ X.getD i 0 ∧ X.getD i 0 < 18446744073709551616 := by
  by_cases hi : i < X.length
  · simp [hi]; exact h _ (List.getElem_mem hi)
  · simp [List.getD, List.getElem?_eq_none (Nat.le_of_not_lt hi)]
theorem mxN_bd {X : List Int} (h : U64s X) : ∀ i, 0 ≤ mxN X i ∧ mxN X i < 18446744073709551616
  | 0 => h.at 0
  | i + 1 => by
    have h1 := mxN_bd h i
    have h2 := h.at i
    show 0 ≤ max (mxN X i) (X.getD i 0) ∧ max (mxN X i) (X.getD i 0) < _
    omega
theorem mxN_gt {X : List Int} (c : Int) : ∀ i, 0 < i → (c < mxN X i ↔ ∃ j, j < i ∧ c < X.getD j 0) := by
  intro i
  induction i with
  | zero => intro h; omega
  | succ i ih =>
    intro _
    show c < max (mxN X i) (X.getD i 0) ↔ _
    by_cases hi : i = 0
    · subst hi
      show c < max (X.getD 0 0) (X.getD 0 0) ↔ _
      constructor
      · intro h; exact ⟨0, by omega, by omega⟩
      · rintro ⟨j, hj, h⟩
        obtain rfl : j = 0 := by omega
        omega
    · have h1 := ih (by omega)
      constructor
      · intro h
        by_cases h2 : c < X.getD i 0
        · exact ⟨i, by omega, h2⟩
        · obtain ⟨j, hj, h3⟩ := h1.1 (by omega)
          exact ⟨j, by omega, h3⟩
      · rintro ⟨j, hj, h⟩
        by_cases hji : j = i
        · subst hji; omega
        · have := h1.2 ⟨j, by omega, h⟩; omega
set_option maxRecDepth 20000 in
set_option maxHeartbeats 4000000 in
theorem Max_any {w : World} (b c n : Nat) (X : List Int) (hr : Rd .u64 w b 0 X) (hn : X.length = n) (h0 : 0 < n) (hl : n ≤ 4000) (hu : U64s X) :
    Calls Tryd.prog 45 #[.slice (some ⟨b, 0, none⟩) n c] w fun e w' => e = .returned (.int .u64 (mxN X n)) ∧ w = w' := by
  have HX : Hid (Rd .u64 w b 0 X ∧ X.length = n ∧ U64s X) := ⟨hr, hn, hu⟩
  obtain ⟨x, hx⟩ : ∃ x, X.getD 0 0 = x := ⟨_, rfl⟩
  have c0 : w.cell? ⟨b, 0, none⟩ = some (.int .u64 x) := by have := hr 0 (by omega); rw [hx] at this; exact this
  have HX0 : Hid (mxN X 1 = x) := by show max (X.getD 0 0) (X.getD 0 0) = _; rw [hx]; omega
  clear hr hn hu hx
  have nI : (1 : Int) ≤ (n : Int) := by omega
  have nI2 : (n : Int) ≤ 4000 := by omega
  go_enter Tryd.func45, Tryd.ntmps45
  go_wp2_with fail
  go_loopw [3, 4] (fun mv iv wr => ∃ (i : Nat) (t : Int), mv = .int .u64 t ∧ iv = .int .i64 i ∧ 1 ≤ i ∧ i ≤ n ∧ mxN X i = t ∧ w = wr) (fun _ iv _ => n - (intOf iv).toNat)
  case atStart => exact ⟨1, x, rfl, rfl, by omega, by omega, HX0.out, rfl⟩
  case round =>
    obtain ⟨i, t, rfl, rfl, hi1, hi, ht, rfl⟩ := hrel
    by_cases hlt : i < n
    · have l1 : (i : Int) < (n : Int) := by omega
      obtain ⟨y, hy⟩ : ∃ y, X.getD i 0 = y := ⟨_, rfl⟩
      have cy : w.cell? ⟨b, i, none⟩ = some (.int .u64 y) := by have := HX.out.1 i (by have := HX.out.2.1; omega); rw [hy, Nat.zero_add] at this; exact this
      have hm : mxN X (i + 1) = max t y := by show max (mxN X i) (X.getD i 0) = _; rw [ht, hy]
      have HM : Hid (mxN X (i + 1) = max t y) := hm
      clear ht hy hm c0
      go_wp2
      go_roundw
      case rel => exact ⟨i + 1, _, rfl, by go_num, by omega, by omega, by rw [HM.out]; split <;> omega, trivial⟩
      case measure => simp [intOf]; omega
    · obtain rfl : i = n := by omega
      have l1 : ¬ (i : Int) < (i : Int) := by omega
      have HT : Hid (mxN X i = t) := ht
      clear ht c0
      go_wp2
      go_ret
      exact ⟨by rw [HT.out]; rfl, rfl⟩
end Go.Proofs.YtndcpjnfdgojkaaDoor
