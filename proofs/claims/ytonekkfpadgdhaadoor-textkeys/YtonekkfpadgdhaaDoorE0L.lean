/-
  Bytes lent and kept.
-/
import Derived.Test.YtonekkfpadgdhaaDoorE0n
namespace Go.Proofs.YtonekkfpadgdhaaDoor
open Go.RowKit
def LentR8 (B : Nat) (w : World) (v : Value) (X : List Int) : Prop :=
  ∃ b S, v = .slice (some ⟨b, 0, none⟩) X.length S.length ∧ B ≤ b ∧ Arr .u8 5 w b S ∧ S.take (X.length + 2) = X ++ [90, 165] ∧ X.length + 2 ≤ S.length ∧ S.length ≤ maxLen
theorem LentR8.sl {B : Nat} {w : World} {v : Value} {X : List Int} (h : LentR8 B w v X) : Sl .u8 w v X := by
  obtain ⟨b, S, rfl, _, hA, ht, hl, _⟩ := h
  refine ⟨_, _, rfl, by omega, .inr ⟨b, 0, rfl, hA.lt, ?_⟩⟩
  have h1 := hA.rd 0 X.length (by omega)
  have e : S.take X.length = X := by
    have : (S.take (X.length + 2)).take X.length = S.take X.length := by rw [List.take_take]; congr 1; omega
    rw [← this, ht, List.take_left]
  rw [List.drop_zero, e] at h1; exact h1
theorem LentR8.below {B : Nat} {w w' : World} {v : Value} {X : List Int} (h : LentR8 B w v X) (hb : Below w.heap.size w w') : LentR8 B w' v X := by
  obtain ⟨b, S, rfl, h1, hA, h2⟩ := h
  exact ⟨b, S, rfl, h1, below_arr hb hA.lt hA, h2⟩
theorem LentR8.mono {B B' : Nat} {w : World} {v : Value} {X : List Int} (h : LentR8 B w v X) (hb : B' ≤ B) : LentR8 B' w v X := by
  obtain ⟨b, S, rfl, h1, h2⟩ := h
  exact ⟨b, S, rfl, by omega, h2⟩
set_option maxHeartbeats 1000000 in
theorem Lent8_any (X : List Int) (v : Value) (w : World) (hX : Sl .u8 w v X) (hl : X.length * 1 ≤ 140737488351232) :
    Calls Tryd.prog 10 #[v] w fun e w' => ∃ r, e = .returned r ∧ LentR8 w.heap.size w' r X ∧ Below w.heap.size w w' := by
  obtain ⟨a, c, hv, hc⟩ : ∃ a c, v = .slice a X.length c ∧ X.length ≤ c := by obtain ⟨a, c, h, h', _⟩ := hX; exact ⟨a, c, h, h'⟩
  subst hv
  go_enter Tryd.func10, Tryd.ntmps10
  go_wp2_with (first
    | (at_builtin; replace hr1 := hr1; refine wpList_ap rfl (.tmp 6) (.tmp 7) 22 22 rfl .u8 5 1 Tryd.und8 Tryd.info8 (by decide) w.heap.size _ X rfl (hr1.alloc _) _ [90, 165] rfl (src_sl Tryd.und8 (Arr.sl (S := [90, 165]) (arr_nw rfl rfl))) (by simp; omega) (by have := hB1.size; simp at this ⊢; omega) ?_; intro v2 w2 hr2 hg2; have hB2 := hg2.below (hr1.alloc _) (by have := hB1.size; simp at this ⊢; omega); obtain ⟨b2, S2, hv2, hb2, hA2, hl2, ht2, hm2⟩ := hr2.open (X.length + 2) (by simp) (by omega); subst hv2; clear hr2 hg2)
    | (at_builtin; refine wpList_ap rfl (.tmp 4) (.tmp 5) 22 22 rfl .u8 5 1 Tryd.und8 Tryd.info8 (by decide) w.heap.size _ [] rfl (Row.arr (S := []) (arr_nw rfl rfl) (Nat.le_refl _) (by decide)) _ X rfl (src_sl Tryd.und8 (below_sl (al1 _) hX)) (by simp; omega) (by simp) ?_; intro v1 w1 hr1 hg1; have hB1 := hg1.below (Row.arr (B := w.heap.size) (S := []) (arr_nw rfl rfl) (Nat.le_refl _) (by decide)) (by simp)))
  go_ret
  have hb1 : Below w.heap.size w w1 := (al2' (Below.refl _ _)).trans hB1
  have hb' : Below w.heap.size w w2 := (al2' hb1).trans hB2
  exact ⟨_, rfl, ⟨b2, S2, rfl, hb2, hA2, by simpa using ht2, hl2, hm2⟩, hb'⟩
set_option maxHeartbeats 1000000 in
theorem Kept8_any {B : Nat} {w : World} (v u : Value) (X : List Int) (hv : LentR8 B w v X) (hu : Sl .u8 w u X) (hl : X.length ≤ 140737488351232) :
    Calls Tryd.prog 14 #[v, u] w fun e w' => e = .returned (.bool true) ∧ Below w.heap.size w w' := by
  have hs := hv.sl
  obtain ⟨b, S, rfl, hb, hA, ht, hle, hm⟩ := hv
  obtain ⟨a', c', hu', _⟩ : ∃ a c, u = .slice a X.length c ∧ X.length ≤ c := by obtain ⟨a, c, h, h', _⟩ := hu; exact ⟨a, c, h, h'⟩
  subst hu'
  have e1 : S.getD X.length 0 = 90 := by
    have : (S.take (X.length + 2)).getD X.length 0 = S.getD X.length 0 := by simp [List.getD]
    rw [← this, ht]; simp [List.getD]
  have e2 : S.getD (X.length + 1) 0 = 165 := by
    have : (S.take (X.length + 2)).getD (X.length + 1) 0 = S.getD (X.length + 1) 0 := by simp [List.getD]
    rw [← this, ht]; simp [List.getD]
  have hc1 := hA.cell X.length (by omega)
  have hc2 := hA.cell (X.length + 1) (by omega)
  rw [e1] at hc1; rw [e2] at hc2
  clear e1 e2 ht
  have hmm : (S.length : Int) ≤ 9223372036854775807 := by unfold maxLen at hm; omega
  have hlt := hA.lt
  go_enter Tryd.func14, Tryd.ntmps14
  go_wp2_with (first
    | (go_at_call 30; refine (SameBytes_any _ _ X hs hu (by omega)).mono ?_; rintro e w' ⟨rfl, hB⟩; rw [← hB.cell (p := ⟨b, X.length, none⟩) hlt] at hc1; rw [← hB.cell (p := ⟨b, X.length + 1, none⟩) hlt] at hc2))
  go_ret
  exact ⟨rfl, hB⟩
theorem Lent8_n (X : List Int) (v : Value) (w : World) (n : Nat) (hn : X.length = n) (hX : Sl .u8 w v X) (hl : n ≤ 65536) :
    Calls Tryd.prog 10 #[v] w fun e w' => ∃ b S c, e = .returned (.slice (some ⟨b, 0, none⟩) n c) ∧ LentR8 w.heap.size w' (.slice (some ⟨b, 0, none⟩) n c) X ∧ w.heap.size ≤ b ∧ Arr .u8 5 w' b S ∧ n ≤ S.length ∧ Below w.heap.size w w' := by
  subst hn
  refine (Lent8_any X v w hX (by omega)).mono ?_
  rintro e w' ⟨r, rfl, h, hb⟩
  obtain ⟨b, S, rfl, h1, hA, h2, h3, h4⟩ := h
  exact ⟨b, S, _, rfl, ⟨b, S, rfl, h1, hA, h2, h3, h4⟩, h1, hA, by omega, hb⟩
end Go.Proofs.YtonekkfpadgdhaaDoor
