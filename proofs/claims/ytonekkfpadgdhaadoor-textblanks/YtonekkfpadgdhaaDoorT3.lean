/-
  Text: folding, byte by byte; a character and its bytes.
-/
import Derived.Test.YtonekkfpadgdhaaDoorT2
import Derived.Lib.MapLaws
import Derived.Lib.ValidLaws
namespace Go.Proofs.YtonekkfpadgdhaaDoor
open Go.RowKit
def low (c : UInt8) : UInt8 := if 65 ≤ c.toNat ∧ c.toNat ≤ 90 then UInt8.ofNat (c.toNat + 32) else c
def gap (a : List UInt8) (p : Bool) : List UInt8 := if p = true ∧ a ≠ [] then [32] else []
def fstep (st : List UInt8 × Bool) (c : UInt8) : List UInt8 × Bool := if c = 32 then (st.1, true) else (st.1 ++ gap st.1 st.2 ++ [low c], false)
def foldB (l : List UInt8) : List UInt8 := (l.foldl fstep ([], false)).1
theorem low_high {c : UInt8} (h : 128 ≤ c.toNat) : low c = c := by unfold low; rw [if_neg (by omega)]
theorem u8_eq {a b : UInt8} (h : a.toNat = b.toNat) : a = b := UInt8.toNat_inj.1 h
theorem low_nat (c : UInt8) : (low c).toNat = if 65 ≤ c.toNat ∧ c.toNat ≤ 90 then c.toNat + 32 else c.toNat := by
  unfold low
  split
  · rename_i h; simp; omega
  · rfl
theorem low32 (c : UInt8) : low c = 32 ↔ c = 32 := by
  constructor
  · intro h
    have := congrArg UInt8.toNat h
    rw [low_nat] at this
    apply u8_eq
    simp at this ⊢
    split at this <;> omega
  · rintro rfl; rfl
theorem high_foldl : ∀ (m : List UInt8) (a : List UInt8), (∀ x ∈ m, 128 ≤ x.toNat) → m.foldl fstep (a, false) = (a ++ m, false)
  | [], a, _ => by simp
  | x :: m, a, h => by
    have hx := h x (by simp)
    have e : fstep (a, false) x = (a ++ [x], false) := by
      unfold fstep
      rw [if_neg (fun e => by subst e; simp at hx), low_high hx]
      simp [gap]
    rw [List.foldl_cons, e, high_foldl m _ (fun y hy => h y (by simp [hy]))]
    simp
theorem high_fold (m : List UInt8) (hm : m ≠ []) (a : List UInt8) (p : Bool) (h : ∀ x ∈ m, 128 ≤ x.toNat) : m.foldl fstep (a, p) = (a ++ gap a p ++ m, false) := by
  match m, hm with
  | x :: m, _ =>
    have hx := h x (by simp)
    have e : fstep (a, p) x = (a ++ gap a p ++ [x], false) := by
      unfold fstep
      rw [if_neg (fun e => by subst e; simp at hx), low_high hx]
    rw [List.foldl_cons, e, high_foldl m _ (fun y hy => h y (by simp [hy]))]
    simp
/-- What a character that is decoded knows of its bytes. -/
theorem dec_cases (l : List UInt8) (hne : l ≠ []) :
    (∃ b t, l = b :: t ∧ b.toNat < 128 ∧ Lib.decodeL l = (b.toNat, 1)) ∨
    (128 ≤ (Lib.decodeL l).1 ∧ (Lib.decodeL l).1 ≤ 1114111 ∧ 1 ≤ (Lib.decodeL l).2 ∧ (Lib.decodeL l).2 ≤ l.length ∧ (∀ x ∈ l.take (Lib.decodeL l).2, 128 ≤ x.toNat) ∧ ((Lib.decodeL l).1 ≠ 65533 → Lib.encodeRune ((Lib.decodeL l).1 : Int) = l.take (Lib.decodeL l).2)) := by
  match l, hne with
  | b :: t, _ =>
    by_cases hb : b.toNat < 128
    · exact .inl ⟨b, t, rfl, hb, Lib.decodeL_ascii b t hb⟩
    · right
      have hE := Lib.encode_decode (b :: t) (by simp)
      obtain ⟨L, hL⟩ : ∃ L, L = b :: t := ⟨_, rfl⟩
      have h0 : L.getD 0 0 = b := by rw [hL]; rfl
      rw [← hL] at hE ⊢
      rw [Lib.decodeL_N] at hE ⊢
      have hn0 : 0 < L.length := by rw [hL]; simp
      clear hL
      rw [h0] at hE ⊢
      rcases Lib.decodeN_shape L.length b.toNat (L.getD 1 0).toNat (L.getD 2 0).toNat (L.getD 3 0).toNat with ⟨c, e⟩ | ⟨c1, c2, c3, cv, e⟩ | ⟨c1, c2, c3, c4, cv, cs, e⟩ | ⟨c1, c2, c3, c4, c5, cv, cw, e⟩ | e
      · omega
      · rw [e] at hE ⊢
        refine ⟨by dsimp only; omega, by dsimp only; have := b.toNat_lt; omega, by dsimp only; omega, by dsimp only; omega, ?_, fun hn => hE (fun h => hn h.1)⟩
        rw [Lib.takeB L c2, h0]
        intro x hx
        simp only [List.mem_cons, List.not_mem_nil, or_false] at hx
        rcases hx with rfl | rfl <;> omega
      · rw [e] at hE ⊢
        refine ⟨by dsimp only; omega, by dsimp only; have := b.toNat_lt; omega, by dsimp only; omega, by dsimp only; omega, ?_, fun hn => hE (fun h => hn h.1)⟩
        rw [Lib.takeC L c2, h0]
        intro x hx
        simp only [List.mem_cons, List.not_mem_nil, or_false] at hx
        rcases hx with rfl | rfl | rfl <;> omega
      · rw [e] at hE ⊢
        refine ⟨by dsimp only; omega, by dsimp only; omega, by dsimp only; omega, by dsimp only; omega, ?_, fun hn => hE (fun h => hn h.1)⟩
        rw [Lib.takeD L c2, h0]
        intro x hx
        simp only [List.mem_cons, List.not_mem_nil, or_false] at hx
        rcases hx with rfl | rfl | rfl | rfl <;> omega
      · rw [e] at hE ⊢
        refine ⟨by dsimp only; omega, by dsimp only; omega, by dsimp only; omega, by dsimp only; omega, ?_, fun hn => absurd rfl hn⟩
        rw [Lib.takeA L hn0, h0]
        intro x hx
        simp only [List.mem_cons, List.not_mem_nil, or_false] at hx
        subst hx; omega
/-- What is written of the character that stands ahead. -/
def wr1 (l : List UInt8) : List UInt8 := (l.take (Lib.decodeL l).2).map low
theorem map_low_high (m : List UInt8) (h : ∀ x ∈ m, 128 ≤ x.toNat) : m.map low = m := by
  induction m with
  | nil => rfl
  | cons x m ih => rw [List.map_cons, ih (fun y hy => h y (by simp [hy])), low_high (h x (by simp))]
theorem fold_step (l : List UInt8) (hne : l ≠ []) (a : List UInt8) (p : Bool) (h32 : (Lib.decodeL l).1 ≠ 32) : (l.take (Lib.decodeL l).2).foldl fstep (a, p) = (a ++ gap a p ++ wr1 l, false) := by
  rcases dec_cases l hne with ⟨b, t, rfl, hb, e⟩ | ⟨h1, _, h2, h3, h4, _⟩
  · unfold wr1
    rw [e] at h32 ⊢
    have hn : b ≠ 32 := fun h => h32 (by rw [h]; rfl)
    simp [fstep, hn]
  · unfold wr1
    rw [map_low_high _ h4, high_fold _ ?_ a p h4]
    intro h0
    have := congrArg List.length h0
    rw [List.length_take, Nat.min_eq_left h3, List.length_nil] at this
    omega
theorem blank_step (l : List UInt8) (hne : l ≠ []) (h32 : (Lib.decodeL l).1 = 32) : (Lib.decodeL l).2 = 1 ∧ l.take 1 = [32] := by
  rcases dec_cases l hne with ⟨b, t, rfl, hb, e⟩ | ⟨h1, _⟩
  · rw [e] at h32 ⊢
    have : b = 32 := u8_eq (by simpa using h32)
    subst this
    exact ⟨rfl, rfl⟩
  · omega
end Go.Proofs.YtonekkfpadgdhaaDoor
