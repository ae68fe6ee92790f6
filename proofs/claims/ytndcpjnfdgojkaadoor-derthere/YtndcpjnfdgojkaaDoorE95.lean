/-
  Der: small numbers there and back, without a walk.
-/
import Derived.Test.YtndcpjnfdgojkaaDoorE87
namespace Go.Proofs.YtndcpjnfdgojkaaDoor
open Go.RowKit
theorem iv_pI {n : Int} {m : Nat} (h1 : 1 ≤ m) (hp : pk n (m - 1)) : ∀ i, i ≤ m → iv (pI n m) i = qs n (m - i)
  | 0, _ => by
    show (if 128 ≤ (pI n m).getD 0 0 then (-1 : Int) else 0) = qs n (m - 0)
    rw [pI_get n m 0 (by omega)]
    unfold pk at hp
    rw [rsI_qs] at hp
    obtain ⟨d, rfl⟩ : ∃ d, m = d + 1 := ⟨m - 1, by omega⟩
    rw [show d + 1 - 1 - 0 = d by omega, show d + 1 - 0 = d + 1 by omega]
    rw [show d + 1 - 1 = d by omega] at hp
    show _ = qs n d / 256
    obtain ⟨a, ha⟩ : ∃ a, qs n d = a := ⟨_, rfl⟩
    rw [ha] at hp ⊢
    split <;> omega
  | i + 1, hi => by
    show 256 * iv (pI n m) i + (pI n m).getD i 0 = _
    rw [iv_pI h1 hp i (by omega), pI_get n m i (by omega), show m - i = (m - (i + 1)) + 1 by omega, show m - 1 - i = m - (i + 1) by omega]
    show 256 * (qs n (m - (i + 1)) / 256) + _ = _
    omega
theorem int_there {n : Int} {m : Nat} (h : IsM n m) : intV (pI n m) = n ∧ intE (pI n m) = 0 := by
  have hok := (int_pI h.1 h.2.2.1).2 h.2.2.2
  refine ⟨?_, ?_⟩
  · unfold intV
    rw [if_pos ⟨hok, by rw [pI_len]; exact h.2.1⟩, pI_len, iv_pI h.1 h.2.2.1 m (Nat.le_refl _), Nat.sub_self]
    rfl
  · unfold intE
    rw [if_neg (by rw [hok]; simp), if_neg (by rw [pI_len]; have := h.2.1; omega)]
theorem qs_iv {X : List Int} (hU : U8s X) (L : Nat) : ∀ d, d ≤ L → qs (iv X L) d = iv X (L - d)
  | 0, _ => rfl
  | d + 1, hd => by
    show qs (iv X L) d / 256 = _
    rw [qs_iv hU L d (by omega), show L - d = (L - (d + 1)) + 1 by omega]
    show (256 * iv X (L - (d + 1)) + X.getD (L - (d + 1)) 0) / 256 = _
    have h := hU.at (L - (d + 1))
    unfold U8 at h
    omega
theorem pI_iv {X : List Int} (hU : U8s X) : pI (iv X X.length) X.length = X := by
  refine List.ext_getElem (pI_len _ _) (fun i h1 h2 => ?_)
  have h := pI_get (iv X X.length) X.length i h2
  rw [List.getD_eq_getElem?_getD, List.getElem?_eq_getElem h1, qs_iv hU _ _ (by omega), show X.length - (X.length - 1 - i) = i + 1 by omega] at h
  have e : iv X (i + 1) = 256 * iv X i + X.getD i 0 := rfl
  have hb := hU.at i
  unfold U8 at hb
  rw [e] at h
  have h3 : X.getD i 0 = X[i] := by rw [List.getD_eq_getElem?_getD, List.getElem?_eq_getElem h2]; rfl
  rw [h3] at h hb
  simp only [Option.getD_some] at h
  omega
theorem int_back {X : List Int} (hU : U8s X) (hok : intOk X = true) (hl : X.length ≤ 8) : IsM (iv X X.length) X.length := by
  have h1 := intOk_ne hok
  have hp : pk (iv X X.length) (X.length - 1) := by
    unfold pk
    rw [rsI_qs, qs_iv hU _ _ (by omega), show X.length - (X.length - 1) = 1 by omega]
    have h := iv_bd hU 0
    simp only [Nat.pow_zero, Nat.zero_add] at h
    omega
  refine ⟨h1, hl, hp, (int_pI h1 hp).1 ?_⟩
  rw [pI_iv hU]; exact hok
end Go.Proofs.YtndcpjnfdgojkaaDoor
