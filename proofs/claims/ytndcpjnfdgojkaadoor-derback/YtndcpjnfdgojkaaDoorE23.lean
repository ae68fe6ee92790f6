/-
  Der: any head.
-/
import Derived.Test.YtndcpjnfdgojkaaDoorE22
import Derived.Test.YtndcpjnfdgojkaaDoorE23a
namespace Go.Proofs.YtndcpjnfdgojkaaDoor
open Go.RowKit
def frst (class_ : Int) (cons : Bool) : Int := class_ * 64 + (if cons then 32 else 0)
def headB (class_ : Int) (cons : Bool) (tag k : Nat) : List Int := if tag < 31 then [frst class_ cons + tag] else (frst class_ cons + 31) :: sev k tag
theorem or_low (a t : Nat) (ha : a < 8) (ht : t < 32) : bits .or .u8 (32 * (a : Int)) (t : Int) = 32 * (a : Int) + t := by
  have : ∀ (a : Fin 8) (t : Fin 32), bits .or .u8 (32 * ((a : Nat) : Int)) ((t : Nat) : Int) = 32 * ((a : Nat) : Int) + ((t : Nat) : Int) := by decide +kernel
  exact this ⟨a, ha⟩ ⟨t, ht⟩
theorem or_31 (a : Nat) (ha : a < 8) : bits .or .u8 (32 * (a : Int)) 31 = 32 * (a : Int) + 31 := or_low a 31 ha (by decide)
theorem or_c0 : bits .or .u8 0 32 = 32 := by decide +kernel
theorem or_c1 : bits .or .u8 64 32 = 96 := by decide +kernel
theorem or_c2 : bits .or .u8 128 32 = 160 := by decide +kernel
theorem or_c3 : bits .or .u8 192 32 = 224 := by decide +kernel
set_option maxRecDepth 20000 in
set_option maxHeartbeats 4000000 in
theorem head_any {w : World} (c : Int) (cons : Bool) (t k : Nat) (h0 : 0 ≤ c) (h3 : c ≤ 3) (hk : t / 128 ^ k < 128) (hk1 : ∀ j, j < k → 128 ≤ t / 128 ^ j) (hk8 : k ≤ 8) (ht : t ≤ 268435455) :
    Calls Tryd.prog 52 #[.int .i64 c, .int .i64 t, .bool cons] w fun e w' => ∃ r, e = .returned r ∧ Row .u8 5 w.heap.size w' r (headB c cons t k) ∧ Below w.heap.size w w' := by
  have HK : Hid (t / 128 ^ k < 128 ∧ ∀ j, j < k → 128 ≤ t / 128 ^ j) := ⟨hk, hk1⟩
  clear hk hk1
  obtain ⟨a, ha, hf⟩ : ∃ a : Nat, a < 8 ∧ frst c cons = 32 * (a : Int) := by
    unfold frst
    cases cons
    · exact ⟨(2 * c).toNat, by omega, by simp; omega⟩
    · exact ⟨(2 * c + 1).toNat, by omega, by simp; omega⟩
  have o0 := or_c0
  have o1 := or_c1
  have o2 := or_c2
  have o3 := or_c3
  have hc : c = 0 ∨ c = 1 ∨ c = 2 ∨ c = 3 := by omega
  by_cases hlt : t < 31
  · have HB : Hid (headB c cons t k = [32 * (a : Int) + t]) := by show _ = _; unfold headB; rw [if_pos hlt, hf]
    have ho := or_low a t ha (by omega)
    have w1 : IntKind.u8.wrap (t : Int) = (t : Int) := wrapU8 _ (by omega) (by omega)
    have l1 : (t : Int) < 31 := by omega
    rcases hc with rfl | rfl | rfl | rfl <;> cases cons
    all_goals
      have hf' := hf
      unfold frst at hf'
      simp at hf'
      obtain ⟨y, hy⟩ : ∃ y : Int, 32 * (a : Int) + t = y := ⟨_, rfl⟩
      rw [hy] at HB ho
      rw [← hf'] at ho
      clear hf hf' ha hy
      go_enter Tryd.func52, Tryd.ntmps52
      go_wp2
      go_ret
      rw [HB.out]
      exact ⟨_, rfl, (Row.arr (S := [_]) (arr_nw rfl rfl) (Nat.le_refl _) (by simp [maxLen])), al1 _⟩
  · have HB : Hid (headB c cons t k = [32 * (a : Int) + 31] ++ sev k t) := by show _ = _; unfold headB; rw [if_neg hlt, hf]; rfl
    have ho := or_31 a ha
    have w1 : IntKind.u64.wrap (t : Int) = (t : Int) := by rw [IntKind.wrap_u64]; omega
    have l1 : ¬ (t : Int) < 31 := by omega
    rcases hc with rfl | rfl | rfl | rfl <;> cases cons
    all_goals
      have hf' := hf
      unfold frst at hf'
      simp at hf'
      obtain ⟨y, hy⟩ : ∃ y : Int, 32 * (a : Int) + 31 = y := ⟨_, rfl⟩
      rw [hy] at HB ho
      rw [← hf'] at ho
      clear hf hf' ha hy
      go_enter Tryd.func52, Tryd.ntmps52
      go_wp2_with fail
      refine (sevens_any w.heap.size _ [_] t k (Row.arr (S := [_]) (arr_nw rfl rfl) (Nat.le_refl _) (by simp [maxLen])) (by simp) HK.out.1 HK.out.2 hk8 (by omega) (by simp)).mono ?_
      rintro e w2 ⟨r, rfl, hr, hb⟩
      have H2 : Hid (Row .u8 5 w.heap.size w2 r (headB _ _ t k) ∧ Below w.heap.size w w2) := ⟨by rw [HB.out]; exact hr, (al1 _).trans hb⟩
      clear hr hb
      go_wp2
      go_ret
      exact ⟨_, rfl, H2.out.1, H2.out.2⟩
end Go.Proofs.YtndcpjnfdgojkaaDoor
