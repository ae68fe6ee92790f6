/-
  Der: an object identifier there and back, without a walk.
-/
import Derived.Test.YtndcpjnfdgojkaaDoorE78
namespace Go.Proofs.YtndcpjnfdgojkaaDoor
open Go.RowKit
def stp (o : Option (List Nat × Nat × Nat)) (x : Int) : Option (List Nat × Nat × Nat) := o.bind fun q =>
    if x = 46 then (if 0 < q.2.2 then some (q.1 ++ [q.2.1], 0, 0) else none)
    else if x < 48 ∨ 57 < x ∨ (q.2.1 = 0 ∧ 0 < q.2.2) then none
    else some (q.1, 10 * q.2.1 + (x - 48).toNat, q.2.2 + 1)
theorem ast_fold (Y : List Int) : ∀ i, i ≤ Y.length → ast Y i = (Y.take i).foldl stp (some ([], 0, 0))
  | 0, _ => rfl
  | i + 1, hi => by
    rw [List.take_succ_eq_append_getElem (by omega), List.foldl_append, ← ast_fold Y i (by omega)]
    show (ast Y i).bind _ = stp (ast Y i) _
    unfold stp
    rw [List.getD_eq_getElem?_getD, List.getElem?_eq_getElem (by omega)]
    rfl
theorem decI_lo {v : Nat} (h : v < 10) : decI v = [((48 + v : Nat) : Int)] := by
  unfold decI
  rw [Lib.decDigits, dif_pos h]
  simp
  omega
theorem decI_hi {v : Nat} (h : ¬ v < 10) : decI v = decI (v / 10) ++ [((48 + v % 10 : Nat) : Int)] := by
  unfold decI
  rw [Lib.decDigits, dif_neg h, List.map_append]
  simp
  omega
theorem fold_dec (A : List Nat) (v : Nat) : ∃ k, 0 < k ∧ (decI v).foldl stp (some (A, 0, 0)) = some (A, v, k) := by
  induction v using Nat.strongRecOn with
  | _ v ih =>
    by_cases h : v < 10
    · refine ⟨1, by omega, ?_⟩
      rw [decI_lo h]
      show stp (some (A, 0, 0)) _ = _
      unfold stp
      simp only [Option.bind_some]
      rw [if_neg (by omega), if_neg (by omega)]
      congr 3
      omega
    · obtain ⟨k, hk, e⟩ := ih (v / 10) (by omega)
      refine ⟨k + 1, by omega, ?_⟩
      rw [decI_hi h, List.foldl_append, e]
      show stp (some (A, v / 10, k)) _ = _
      unfold stp
      simp only [Option.bind_some]
      rw [if_neg (by omega), if_neg (by omega)]
      congr 3
      omega
theorem fold_J : ∀ (T : List Nat) (A : List Nat) (v k : Nat), 0 < k → ∃ A' v' k', 0 < k' ∧ (oidJ T).foldl stp (some (A, v, k)) = some (A', v', k') ∧ A' ++ [v'] = A ++ [v] ++ T
  | [], A, v, k, hk => ⟨A, v, k, hk, rfl, by simp⟩
  | t :: T, A, v, k, hk => by
    have e : oidJ (t :: T) = 46 :: (decI t ++ oidJ T) := rfl
    have e1 : stp (some (A, v, k)) 46 = some (A ++ [v], 0, 0) := by
      unfold stp
      simp only [Option.bind_some]
      rw [if_pos trivial, if_pos hk]
    obtain ⟨k2, hk2, e2⟩ := fold_dec (A ++ [v]) t
    obtain ⟨A', v', k', h1, h2, h3⟩ := fold_J T (A ++ [v]) t k2 hk2
    refine ⟨A', v', k', h1, ?_, ?_⟩
    · rw [e, List.foldl_cons, e1, List.foldl_append, e2, h2]
    · rw [h3]; simp
theorem arcs_text (x : Nat) (T : List Nat) : arcsP (decI x ++ oidJ T) = some (x :: T) := by
  unfold arcsP
  rw [ast_fold _ _ (Nat.le_refl _), List.take_length, List.foldl_append]
  obtain ⟨k, hk, e⟩ := fold_dec [] x
  obtain ⟨A', v', k', h1, h2, h3⟩ := fold_J T [] x k hk
  rw [e, h2]
  simp only [Option.bind_some]
  rw [if_pos h1, h3]
  simp
theorem hiG_z : hiG 0 = [] := by rw [hiG, dif_pos rfl]
theorem hiG_s {v : Nat} (h : v ≠ 0) : hiG v = hiG (v / 128) ++ [((v % 128 + 128 : Nat) : Int)] := by rw [hiG, dif_neg h]
theorem gst_back {X : List Int} (hU : U8s X) : ∀ i, i ≤ X.length → fine X i → X.take i = (gst X i).1.flatMap sevL ++ hiG (gst X i).2 ∧ (btw X i = true → (gst X i).2 = 0) ∧ (btw X i = false → 0 < (gst X i).2)
  | 0, _, _ => ⟨by simp [gst, hiG_z], fun _ => rfl, fun h => by cases h⟩
  | i + 1, hi, hf => by
    obtain ⟨h1, h2, h3⟩ := gst_back hU i (by omega) (fun j hj => hf j (by omega))
    have hb := hU.at i
    unfold U8 at hb
    obtain ⟨x, hx⟩ : ∃ x, X.getD i 0 = x := ⟨_, rfl⟩
    rw [hx] at hb
    have ht : X.take (i + 1) = X.take i ++ [x] := by
      rw [List.take_succ_eq_append_getElem (by omega), ← hx, List.getD_eq_getElem?_getD, List.getElem?_eq_getElem (by omega)]
      rfl
    have hbt : btw X (i + 1) = decide (x < 128) := by show decide (X.getD i 0 < 128) = _; rw [hx]
    obtain ⟨g, hg⟩ : ∃ g, (gst X i).2 = g := ⟨_, rfl⟩
    rw [hg] at h1 h2 h3
    by_cases hlo : x < 128
    · rw [gst_lo hx hlo, hg, hbt]
      refine ⟨?_, fun _ => rfl, fun h => by simp [hlo] at h⟩
      show X.take (i + 1) = ((gst X i).1 ++ [g * 128 + (x % 128).toNat]).flatMap sevL ++ hiG 0
      rw [ht, h1, hiG_z, List.append_nil, List.flatMap_append]
      have e : sevL (g * 128 + (x % 128).toNat) = hiG g ++ [x] := by
        rw [sevL_hi, show (g * 128 + (x % 128).toNat) / 128 = g by omega, show (((g * 128 + (x % 128).toNat) % 128 : Nat) : Int) = x by omega]
      simp [e]
    · have hne : g * 128 + (x % 128).toNat ≠ 0 := by
        cases hbi : btw X i with
        | true =>
          have := hf i (by omega)
          rw [hx] at this
          have h9 : x ≠ 128 := fun h => this ⟨hbi, h⟩
          omega
        | false => have := h3 hbi; omega
      rw [gst_hi hx hlo, hg, hbt]
      refine ⟨?_, fun h => by simp [hlo] at h, fun _ => by show 0 < g * 128 + (x % 128).toNat; omega⟩
      show X.take (i + 1) = (gst X i).1.flatMap sevL ++ hiG (g * 128 + (x % 128).toNat)
      rw [ht, h1, hiG_s hne, show (g * 128 + (x % 128).toNat) / 128 = g by omega, show (((g * 128 + (x % 128).toNat) % 128 + 128 : Nat) : Int) = x by omega, List.append_assoc]
theorem oid_back {X s : List Int} (hU : U8s X) (h : OidR X s 0) : PutR s X 0 := by
  rcases h with ⟨_, _, h⟩ | ⟨_, _, _, h⟩ | ⟨⟨hf, ha⟩, hl, rfl, _⟩
  · cases h
  · cases h
  · obtain ⟨h1, h2, _⟩ := gst_back hU X.length (Nat.le_refl _) hf
    unfold arcsOk at ha
    rw [Bool.and_eq_true] at ha
    rw [h2 ha.1, hiG_z, List.append_nil, List.take_length] at h1
    obtain ⟨G, hG⟩ : ∃ G, (gst X X.length).1 = G := ⟨_, rfl⟩
    rw [hG] at h1 hl ha
    rw [hG]
    cases G with
    | nil => simp at ha
    | cons v0 R =>
      have hx : oidX v0 ≤ 2 := by unfold oidX; omega
      refine .inr (.inr ⟨oidX v0 :: (v0 - 40 * oidX v0) :: R, arcs_text _ _, ?_, ?_, ?_, rfl⟩)
      · unfold putOk
        simp only [decide_eq_true_eq, List.length_cons, List.getD_cons_zero, List.getD_cons_succ]
        refine ⟨by omega, hx, ?_⟩
        unfold oidX
        omega
      · unfold putLong
        rw [List.any_cons]
        have hl' : ((v0 - 40 * oidX v0) :: R).any (fun v => decide (2147483647 < v)) = false := hl
        rw [hl']
        simp
        omega
      · unfold putB
        simp only [List.getD_cons_zero, List.getD_cons_succ, List.drop_succ_cons, List.drop_zero]
        rw [show 40 * oidX v0 + (v0 - 40 * oidX v0) = v0 by unfold oidX; omega]
        exact h1
end Go.Proofs.YtndcpjnfdgojkaaDoor
