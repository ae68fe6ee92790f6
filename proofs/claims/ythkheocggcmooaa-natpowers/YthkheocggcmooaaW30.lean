/-
  The walks of Lent and Kept: a list in memory of its own with two marks behind it; whether it is as it was.
-/
import Derived.Test.YthkheocggcmooaaW17
import Derived.Test.YthkheocggcmooaaAp
namespace Go.Proofs.Ythkheocggcmooaa
open Go.RowKit

/-- A lent list: a block from B on that holds X, the two marks, and whatever else. -/
def LentR (B : Nat) (w : World) (v : Value) (X : List Int) : Prop :=
  ∃ b S, v = .slice (some ⟨b, 0, none⟩) X.length S.length ∧ B ≤ b ∧ Arr .u32 53 w b S ∧ S.take (X.length + 2) = X ++ [57005, 48879] ∧ X.length + 2 ≤ S.length ∧ S.length ≤ maxLen
theorem LentR.sl {B : Nat} {w : World} {v : Value} {X : List Int} (h : LentR B w v X) : Sl .u32 w v X := by
  obtain ⟨b, S, rfl, _, hA, ht, hl, _⟩ := h
  refine ⟨_, _, rfl, by omega, .inr ⟨b, 0, rfl, hA.lt, ?_⟩⟩
  have h1 := hA.rd 0 X.length (by omega)
  have e : S.take X.length = X := by
    have : (S.take (X.length + 2)).take X.length = S.take X.length := by rw [List.take_take]; congr 1; omega
    rw [← this, ht, List.take_left]
  rw [List.drop_zero, e] at h1; exact h1
theorem LentR.below {B : Nat} {w w' : World} {v : Value} {X : List Int} (h : LentR B w v X) (hb : Below w.heap.size w w') : LentR B w' v X := by
  obtain ⟨b, S, rfl, h1, hA, h2⟩ := h
  exact ⟨b, S, rfl, h1, below_arr hb hA.lt hA, h2⟩
theorem LentR.mono {B B' : Nat} {w : World} {v : Value} {X : List Int} (h : LentR B w v X) (hb : B' ≤ B) : LentR B' w v X := by
  obtain ⟨b, S, rfl, h1, h2⟩ := h
  exact ⟨b, S, rfl, by omega, h2⟩

set_option maxHeartbeats 1000000 in
theorem Lent_any (X : List Int) (v : Value) (w : World) (hX : Sl .u32 w v X) (hl : X.length * 4 ≤ 140737488351232) :
    Calls Try.prog 9 #[v] w fun e w' => ∃ r, e = .returned r ∧ LentR w.heap.size w' r X ∧ Below w.heap.size w w' := by
  obtain ⟨a, c, hv, hc⟩ : ∃ a c, v = .slice a X.length c ∧ X.length ≤ c := by obtain ⟨a, c, h, h', _⟩ := hX; exact ⟨a, c, h, h'⟩
  subst hv
  go_enter Try.func9, Try.ntmps9
  go_wp2_with (first
    | (at_builtin; replace hr1 := hr1; refine wpList_ap rfl (.tmp 6) (.tmp 7) 22 22 rfl .u32 53 4 Try.und32 Try.info32 (by decide) w.heap.size _ X rfl (hr1.alloc _) _ [57005, 48879] rfl (src_sl Try.und32 (Arr.sl (S := [57005, 48879]) (arr_new rfl rfl))) (by simp; omega) (by have := hB1.size; simp at this ⊢; omega) ?_; intro v2 w2 hr2 hg2; have hB2 := hg2.below (hr1.alloc _) (by have := hB1.size; simp at this ⊢; omega); obtain ⟨b2, S2, hv2, hb2, hA2, hl2, ht2, hm2⟩ := hr2.open (X.length + 2) (by simp) (by omega); subst hv2; clear hr2 hg2)
    | (at_builtin; refine wpList_ap rfl (.tmp 4) (.tmp 5) 22 22 rfl .u32 53 4 Try.und32 Try.info32 (by decide) w.heap.size _ [] rfl (Row.arr (S := []) (arr_new rfl rfl) (Nat.le_refl _) (by decide)) _ X rfl (src_sl Try.und32 (al1 hX)) (by simp; omega) (by simp) ?_; intro v1 w1 hr1 hg1; have hB1 := hg1.below (Row.arr (B := w.heap.size) (S := []) (arr_new rfl rfl) (Nat.le_refl _) (by decide)) (by simp)))
  go_ret
  have hb1 : Below w.heap.size w w1 := (al (Below.refl _ _)).trans hB1
  have hb' : Below w.heap.size w w2 := (al hb1).trans hB2
  exact ⟨_, rfl, ⟨b2, S2, rfl, hb2, hA2, by simpa using ht2, hl2, hm2⟩, hb'⟩

set_option maxHeartbeats 1000000 in
theorem Kept_any {B : Nat} {w : World} (v u : Value) (X : List Int) (hv : LentR B w v X) (hu : Sl .u32 w u X) (hl : X.length ≤ 35184372088832) :
    Calls Try.prog 22 #[v, u] w fun e w' => e = .returned (.bool true) ∧ Below w.heap.size w w' := by
  have hs := hv.sl
  obtain ⟨b, S, rfl, hb, hA, ht, hle, hm⟩ := hv
  obtain ⟨a', c', hu', _⟩ := hu.len
  subst hu'
  have e1 : S.getD X.length 0 = 57005 := by
    have : (S.take (X.length + 2)).getD X.length 0 = S.getD X.length 0 := by simp [List.getD]
    rw [← this, ht]; simp [List.getD]
  have e2 : S.getD (X.length + 1) 0 = 48879 := by
    have : (S.take (X.length + 2)).getD (X.length + 1) 0 = S.getD (X.length + 1) 0 := by simp [List.getD]
    rw [← this, ht]; simp [List.getD]
  have hc1 := hA.cell X.length (by omega)
  have hc2 := hA.cell (X.length + 1) (by omega)
  rw [e1] at hc1; rw [e2] at hc2
  clear e1 e2 ht
  have hmm : (S.length : Int) ≤ 9223372036854775807 := by unfold maxLen at hm; omega
  have hlt := hA.lt
  go_enter Try.func22, Try.ntmps22
  go_wp2_with (first
    | (go_at_call 14; refine (Same_any _ _ X hs hu (by omega)).mono ?_; rintro e w' ⟨rfl, hB⟩; rw [← hB.cell (p := ⟨b, X.length, none⟩) hlt] at hc1; rw [← hB.cell (p := ⟨b, X.length + 1, none⟩) hlt] at hc2))
  go_ret
  exact ⟨rfl, hB⟩
end Go.Proofs.Ythkheocggcmooaa
