/-
  Clock: a string cut where a sign stands.
-/
import Derived.Test.YtonfllajceppgaaDoorC6
namespace Go.Proofs.YtonfllajceppgaaDoor
open Go.RowKit
theorem idx_mem (A B : List Int) (b : Int) (h : b ∉ A) : idx (A ++ b :: B) b = A.length := by
  induction A with
  | nil => simp [idx]
  | cons a A ih =>
    have hne : ¬ a = b := fun e => h (by rw [e]; exact List.mem_cons_self ..)
    have i := ih (fun k => h (List.mem_cons_of_mem _ k))
    rw [List.cons_append]
    unfold idx
    rw [i, if_neg hne, if_neg (by omega)]
    simp
theorem idx_not (X : List Int) (b : Int) (h : b ∉ X) : idx X b = -1 := by
  induction X with
  | nil => rfl
  | cons a A ih =>
    have hne : ¬ a = b := fun e => h (by rw [e]; exact List.mem_cons_self ..)
    have i := ih (fun k => h (List.mem_cons_of_mem _ k))
    unfold idx
    rw [i, if_neg hne, if_pos rfl]
set_option maxRecDepth 100000 in
set_option maxHeartbeats 1000000 in
theorem index_any {w : World} (X : List Int) (b : Int) (hU : U8s X) (hb : U8 b) : Calls Tryd.prog 64 #[.string (strOfNums X), .string (strOfNums [b])] w fun e w' => e = .returned (.int .i64 (idx X b)) ∧ w = w' := by
  have ub : U8s [b] := fun x hx => by rw [List.mem_singleton.1 hx]; exact hb
  have hbe := st_beq [b] X ub hU
  obtain ⟨S, hS⟩ : ∃ S, strOfNums X = S := ⟨_, rfl⟩
  obtain ⟨T, hT⟩ : ∃ T, strOfNums [b] = T := ⟨_, rfl⟩
  have zT : T.size = 1 := by rw [← hT]; exact st_size _
  have HC : Hid (∀ w, Calls Tryd.prog 74 #[.string S, .int .u8 b] w fun e w' => e = .returned (.int .i64 (idx X b)) ∧ w = w') := fun w => by
    rw [← hS]; exact indexByte_any X b hU hb
  have hTl : 0 < T.size := by omega
  have hT0 : ((T[0]'hTl).toNat : Int) = b := by
    have h := st_get [b] ub 0 (by simp) (by rw [st_size]; simp)
    simp only [hT] at h
    rw [h]; rfl
  rw [hS, hT] at hbe
  rw [hS, hT]
  by_cases hX : [b] = X
  · have hbt : (T.toList == S.toList) = true := by rw [hbe]; simp [hX]
    have hi : idx X b = 0 := by rw [← hX]; simp [idx]
    have HI : Hid (idx X b = 0) := hi
    clear hi hbe hS hT hX
    go_enter Tryd.func64, Tryd.ntmps64
    go_wp2
    go_ret
    exact ⟨by rw [HI.out]; rfl, rfl⟩
  · have hbt : (T.toList == S.toList) = false := by rw [hbe]; simp [hX]
    clear hbe hS hT hX
    go_enter Tryd.func64, Tryd.ntmps64
    go_wp2_with fail
    refine (HC.out _).mono ?_
    rintro e w' ⟨rfl, rfl⟩
    go_wp2
    go_ret
    exact ⟨rfl, rfl⟩
set_option maxRecDepth 100000 in
set_option maxHeartbeats 1000000 in
theorem liteCut_no {w : World} (X : List Int) (b : Int) (hU : U8s X) (hb : U8 b) (hX : b ∉ X) : Calls Tryd.prog 52 #[.string (strOfNums X), .string (strOfNums [b])] w fun e w' => e = .returned (.tuple #[.string (strOfNums X), .string (strOfNums []), .bool false]) ∧ w = w' := by
  obtain ⟨S, hS⟩ : ∃ S, strOfNums X = S := ⟨_, rfl⟩
  obtain ⟨T, hT⟩ : ∃ T, strOfNums [b] = T := ⟨_, rfl⟩
  have HC : Hid (∀ w, Calls Tryd.prog 64 #[.string S, .string T] w fun e w' => e = .returned (.int .i64 (-1)) ∧ w = w') := fun w => by
    rw [← hS, ← hT, ← idx_not X b hX]; exact index_any X b hU hb
  rw [hS, hT]
  clear hS hT
  go_enter Tryd.func52, Tryd.ntmps52
  go_wp2_with fail
  refine (HC.out _).mono ?_
  rintro e w' ⟨rfl, rfl⟩
  go_wp2
  go_ret3
  exact ⟨rfl, rfl⟩
set_option maxRecDepth 100000 in
set_option maxHeartbeats 1000000 in
theorem liteCut_yes {w : World} (A B : List Int) (b : Int) (hU : U8s (A ++ b :: B)) (hb : U8 b) (hA : b ∉ A) (hl : (A ++ b :: B).length ≤ 1000000000000) : Calls Tryd.prog 52 #[.string (strOfNums (A ++ b :: B)), .string (strOfNums [b])] w fun e w' => e = .returned (.tuple #[.string (strOfNums A), .string (strOfNums B), .bool true]) ∧ Below w.heap.size w w' := by
  obtain ⟨S, hS⟩ : ∃ S, strOfNums (A ++ b :: B) = S := ⟨_, rfl⟩
  obtain ⟨T, hT⟩ : ∃ T, strOfNums [b] = T := ⟨_, rfl⟩
  obtain ⟨n, hn⟩ : ∃ n, A.length = n := ⟨_, rfl⟩
  obtain ⟨m, hm⟩ : ∃ n, B.length = n := ⟨_, rfl⟩
  have zT : T.size = 1 := by rw [← hT]; exact st_size _
  have zS : S.size = n + 1 + m := by rw [← hS, st_size, ← hn, ← hm]; simp; omega
  have HC : Hid (∀ w, Calls Tryd.prog 64 #[.string S, .string T] w fun e w' => e = .returned (.int .i64 n) ∧ w = w') := fun w => by
    rw [← hS, ← hT, ← hn, ← idx_mem A B b hA]; exact index_any _ b hU hb
  have e1 : S.extract 0 n = strOfNums A := by rw [← hS, st_extract, ← hn]; simp
  have e2 : S.extract (n + 1) (n + 1 + m) = strOfNums B := by
    rw [← hS, st_extract, ← hn, ← hm]
    rw [show A ++ b :: B = (A ++ [b]) ++ B by simp, List.drop_left' (by simp)]
    simp
  have HE : Hid (S.extract 0 n = strOfNums A ∧ S.extract (n + 1) (n + 1 + m) = strOfNums B) := ⟨e1, e2⟩
  have hnm : (n : Int) + 1 + (m : Int) ≤ 1000000000000 := by
    rw [List.length_append, List.length_cons] at hl; omega
  rw [hS, hT]
  clear hS hT e1 e2 hl
  go_enter Tryd.func52, Tryd.ntmps52
  go_wp2_with fail
  refine (HC.out _).mono ?_
  rintro e w' ⟨rfl, rfl⟩
  go_wp2_with fail
  go_quiet (fail)
  go_wp2
  go_ret3
  exact ⟨by rw [← HE.out.1, ← HE.out.2]; rfl, below_drewN _ (Below.refl _ _)⟩
theorem wrap3 {w : World} {S T : ByteArray} {v1 v2 v3 : Value} (h : ∀ w : World, Calls Tryd.prog 52 #[.string S, .string T] w fun e w' => e = .returned (.tuple #[v1, v2, v3]) ∧ Below w.heap.size w w') :
    Calls Tryd.prog 32 #[.string S, .string T] w fun e w' => e = .returned (.tuple #[v1, v2, v3]) ∧ Below w.heap.size w w' := by
  have HC : Hid _ := h
  clear h
  go_enter Tryd.func32, Tryd.ntmps32
  go_wp2_with fail
  refine (HC.out _).mono ?_
  rintro e w' ⟨rfl, hb⟩
  go_wp2
  go_ret3
  exact ⟨rfl, hb⟩
theorem cut_yes {w : World} (A B : List Int) (b : Int) (hU : U8s (A ++ b :: B)) (hb : U8 b) (hA : b ∉ A) (hl : (A ++ b :: B).length ≤ 1000000000000) : Calls Tryd.prog 32 #[.string (strOfNums (A ++ b :: B)), .string (strOfNums [b])] w fun e w' => e = .returned (.tuple #[.string (strOfNums A), .string (strOfNums B), .bool true]) ∧ Below w.heap.size w w' :=
  wrap3 fun _ => liteCut_yes A B b hU hb hA hl
theorem cut_no {w : World} (X : List Int) (b : Int) (hU : U8s X) (hb : U8 b) (hX : b ∉ X) : Calls Tryd.prog 32 #[.string (strOfNums X), .string (strOfNums [b])] w fun e w' => e = .returned (.tuple #[.string (strOfNums X), .string (strOfNums []), .bool false]) ∧ Below w.heap.size w w' :=
  wrap3 fun _ => (liteCut_no X b hU hb hX).mono fun _ _ ⟨h, k⟩ => ⟨h, k ▸ Below.refl _ _⟩
end Go.Proofs.YtonfllajceppgaaDoor
