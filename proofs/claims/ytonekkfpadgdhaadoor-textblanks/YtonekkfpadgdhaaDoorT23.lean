/-
  Text: letters turned, blanks added.
-/
import Derived.Test.YtonekkfpadgdhaaDoorT16
namespace Go.Proofs.YtonekkfpadgdhaaDoor
open Go.RowKit
def letter (c : Nat) : Bool := decide ((65 ≤ c ∧ c ≤ 90) ∨ (97 ≤ c ∧ c ≤ 122))
def flip (c : UInt8) (t : Nat) : UInt8 := if t % 2 = 1 ∧ letter c.toNat = true then c ^^^ 32 else c
def oneS (c : UInt8) (t : Nat) : List UInt8 := if flip c t = 32 ∧ t % 3 = 1 then [flip c t, 32, 32] else [flip c t]
def outS (T : Nat → Nat) : Nat → List UInt8 → List UInt8
  | _, [] => []
  | i, c :: l => oneS c (T i) ++ outS T (i + 1) l
theorem outS_app (T : Nat → Nat) : ∀ (a b : List UInt8) (i : Nat), outS T i (a ++ b) = outS T i a ++ outS T (i + a.length) b
  | [], b, i => by simp [outS]
  | c :: a, b, i => by
    show oneS c (T i) ++ outS T (i + 1) (a ++ b) = (oneS c (T i) ++ outS T (i + 1) a) ++ _
    rw [outS_app T a b (i + 1), List.append_assoc, List.length_cons, show i + 1 + a.length = i + (a.length + 1) by omega]
theorem outS_next (T : Nat → Nat) (l : List UInt8) (i : Nat) (h : i < l.length) : outS T 0 (l.take (i + 1)) = outS T 0 (l.take i) ++ oneS (l.getD i 0) (T i) := by
  have e : l.take (i + 1) = l.take i ++ [l.getD i 0] := by
    rw [List.take_add_one, List.getElem?_eq_getElem h]; simp [h]
  rw [e, outS_app, Nat.zero_add, List.length_take, Nat.min_eq_left (by omega)]
  simp [outS]
theorem one_len (c : UInt8) (t : Nat) : (oneS c t).length ≤ 3 := by unfold oneS; split <;> simp
theorem outS_len (T : Nat → Nat) : ∀ (l : List UInt8) (i : Nat), (outS T i l).length ≤ 3 * l.length
  | [], _ => by simp [outS]
  | c :: l, i => by
    have := outS_len T l (i + 1)
    have := one_len c (T i)
    show (oneS c (T i) ++ outS T (i + 1) l).length ≤ _
    rw [List.length_append, List.length_cons]; omega
/-! ### a letter turned -/
def xorB (c : Fin 256) : UInt8 := UInt8.ofNat c.val ^^^ 32
set_option maxRecDepth 100000 in
theorem turn_fin : ∀ c : Fin 256, letter c.val = true → low (xorB c) = low (UInt8.ofNat c.val) ∧ xorB c ≠ 32 ∧ c.val ≠ 32 ∧ (xorB c).toNat < 128 ∧ c.val < 128 ∧ pN c.val = false ∧ pP (xorB c).toNat = true ∧ pV (xorB c).toNat = true ∧ ((xorB c).toNat : Int) = bits .xor .u8 (c.val : Int) 32 := by decide +kernel
theorem turn_letter (c : UInt8) (h : letter c.toNat = true) : low (c ^^^ 32) = low c ∧ c ^^^ 32 ≠ 32 ∧ c ≠ 32 ∧ (c ^^^ 32).toNat < 128 ∧ c.toNat < 128 ∧ pN c.toNat = false ∧ pP (c ^^^ 32).toNat = true ∧ pV (c ^^^ 32).toNat = true ∧ ((c ^^^ 32).toNat : Int) = bits .xor .u8 (c.toNat : Int) 32 := by
  have := turn_fin ⟨c.toNat, c.toNat_lt⟩ h
  unfold xorB at this
  simp only [UInt8.ofNat_toNat] at this
  exact ⟨this.1, this.2.1, fun e => this.2.2.1 (by rw [e]; rfl), this.2.2.2⟩
theorem flip_low (c : UInt8) (t : Nat) : low (flip c t) = low c ∧ (flip c t = 32 ↔ c = 32) := by
  unfold flip
  split
  · rename_i h
    have := turn_letter c h.2
    exact ⟨this.1, ⟨fun e => absurd e this.2.1, fun e => absurd e this.2.2.1⟩⟩
  · exact ⟨rfl, Iff.rfl⟩
theorem flip_high {c : UInt8} (h : 128 ≤ c.toNat) (t : Nat) : oneS c t = [c] := by
  have e : flip c t = c := by
    unfold flip
    rw [if_neg]
    rintro ⟨_, hl⟩
    have := (turn_letter c hl).2.2.2.2.1
    omega
  unfold oneS
  rw [e, if_neg]
  rintro ⟨h1, _⟩
  rw [h1] at h; simp at h
theorem flip_lowb {c : UInt8} (h : c.toNat < 128) (t : Nat) : (flip c t).toNat < 128 := by
  unfold flip
  split
  · rename_i hl; exact (turn_letter c hl.2).2.2.2.1
  · exact h
/-! ### folded alike -/
theorem one_fold (st : List UInt8 × Bool) (c : UInt8) (t : Nat) : (oneS c t).foldl fstep st = fstep st c := by
  have hf := flip_low c t
  unfold oneS
  split
  · rename_i h
    have hc := hf.2.1 h.1
    rw [h.1, hc]
    simp [fstep]
  · show fstep st (flip c t) = _
    unfold fstep
    by_cases hc : c = 32
    · rw [if_pos hc, if_pos (hf.2.2 hc)]
    · rw [if_neg hc, if_neg (fun e => hc (hf.2.1 e)), hf.1]
theorem out_fold (T : Nat → Nat) : ∀ (l : List UInt8) (i : Nat) (st : List UInt8 × Bool), (outS T i l).foldl fstep st = l.foldl fstep st
  | [], _, _ => rfl
  | c :: l, i, st => by
    show (oneS c (T i) ++ outS T (i + 1) l).foldl fstep st = _
    rw [List.foldl_append, one_fold, out_fold T l, List.foldl_cons]
theorem fold_lead : ∀ (l : List UInt8) (p q : Bool), (l.foldl fstep ([], p)).1 = (l.foldl fstep ([], q)).1
  | [], _, _ => rfl
  | c :: l, p, q => by
    rw [List.foldl_cons, List.foldl_cons]
    unfold fstep
    by_cases hc : c = 32
    · rw [if_pos hc, if_pos hc]
    · rw [if_neg hc, if_neg hc]
      simp [gap]
def wrapS (o : List UInt8) : List UInt8 := 32 :: (o ++ [32, 32])
theorem fold_wrap (T : Nat → Nat) (l : List UInt8) : foldB (wrapS (outS T 0 l)) = foldB l := by
  unfold foldB wrapS
  rw [List.foldl_cons, List.foldl_append, out_fold]
  have e : fstep ([], false) 32 = ([], true) := rfl
  rw [e, fold_lead l false true]
  generalize l.foldl fstep ([], true) = st
  obtain ⟨a, p⟩ := st
  rfl
/-! ### a text still -/
theorem one_all (p : Nat → Bool) (h32 : p 32 = true) (hp : ∀ c : UInt8, letter c.toNat = true → p c.toNat = true → p (c ^^^ 32).toNat = true) (c : UInt8) (t : Nat) (h : p c.toNat = true) : allB p (oneS c t) = true := by
  have hf : p (flip c t).toNat = true := by
    unfold flip
    split
    · rename_i hl; exact hp c hl.2 h
    · exact h
  unfold oneS allB
  split <;> simp [hf, h32]
theorem out_all (p : Nat → Bool) (h32 : p 32 = true) (hp : ∀ c : UInt8, letter c.toNat = true → p c.toNat = true → p (c ^^^ 32).toNat = true) (T : Nat → Nat) : ∀ (l : List UInt8) (i : Nat), allB p l = true → allB p (outS T i l) = true
  | [], _, _ => rfl
  | c :: l, i, h => by
    have h' : p c.toNat = true ∧ allB p l = true := by unfold allB at h ⊢; simpa using h
    have h1 := one_all p h32 hp c (T i) h'.1
    have h2 := out_all p h32 hp T l (i + 1) h'.2
    show allB p (oneS c (T i) ++ outS T (i + 1) l) = true
    unfold allB at *
    rw [List.all_append, h1, h2]; rfl
theorem wrap_all (p : Nat → Bool) (h32 : p 32 = true) (hp : ∀ c : UInt8, letter c.toNat = true → p c.toNat = true → p (c ^^^ 32).toNat = true) (T : Nat → Nat) (l : List UInt8) (h : allB p l = true) : allB p (wrapS (outS T 0 l)) = true := by
  have := out_all p h32 hp T l 0 h
  unfold wrapS allB at *
  simp [this, h32]
/-- A character that is whole is decoded alike, whatever follows it. -/
theorem dec_prefix (l R : List UInt8) (h0 : 128 ≤ (l.getD 0 0).toNat) (hv : ¬ ((Lib.decodeL l).1 = 65533 ∧ (Lib.decodeL l).2 = 1)) : Lib.decodeL (l.take (Lib.decodeL l).2 ++ R) = Lib.decodeL l := by
  have hg : ∀ k j, k ≤ l.length → j < k → (l.take k ++ R).getD j 0 = l.getD j 0 := by
    intro k j hk hj
    unfold List.getD
    rw [List.getElem?_append_left (by rw [List.length_take]; omega), List.getElem?_take, if_pos hj]
  have hl : ∀ k, k ≤ l.length → k ≤ (l.take k ++ R).length := by
    intro k hk
    rw [List.length_append, List.length_take]; omega
  rw [Lib.decodeL_N l] at hv ⊢
  rcases Lib.decodeN_shape l.length (l.getD 0 0).toNat (l.getD 1 0).toNat (l.getD 2 0).toNat (l.getD 3 0).toNat with ⟨c, e⟩ | ⟨c1, c2, c3, cv, e⟩ | ⟨c1, c2, c3, c4, cv, cs, e⟩ | ⟨c1, c2, c3, c4, c5, cv, cw, e⟩ | e
  · omega
  · rw [e]
    simp only
    rw [Lib.decodeL_N, hg 2 0 (by omega) (by omega), hg 2 1 (by omega) (by omega)]
    have := hl 2 (by omega)
    unfold Lib.decodeN
    rw [if_neg (by omega), if_pos ⟨c1, by omega, c3⟩, if_pos cv]
  · rw [e]
    simp only
    rw [Lib.decodeL_N, hg 3 0 (by omega) (by omega), hg 3 1 (by omega) (by omega), hg 3 2 (by omega) (by omega)]
    have := hl 3 (by omega)
    unfold Lib.decodeN
    rw [if_neg (by omega), if_neg (by omega), if_pos ⟨c1, ⟨by omega, c3⟩, by omega, c4⟩, if_pos ⟨cv, by omega⟩]
  · rw [e]
    simp only
    rw [Lib.decodeL_N, hg 4 0 (by omega) (by omega), hg 4 1 (by omega) (by omega), hg 4 2 (by omega) (by omega), hg 4 3 (by omega) (by omega)]
    have := hl 4 (by omega)
    unfold Lib.decodeN
    rw [if_neg (by omega), if_neg (by omega), if_neg (by omega), if_pos ⟨c1, ⟨by omega, c3⟩, ⟨by omega, c4⟩, by omega, c5⟩, if_pos ⟨cv, by omega⟩]
  · rw [e] at hv
    exact absurd ⟨rfl, rfl⟩ hv
theorem out_high (T : Nat → Nat) : ∀ (m : List UInt8) (i : Nat), (∀ x ∈ m, 128 ≤ x.toNat) → outS T i m = m
  | [], _, _ => rfl
  | c :: m, i, h => by
    show oneS c (T i) ++ outS T (i + 1) m = _
    rw [flip_high (h c (by simp)), out_high T m (i + 1) (fun x hx => h x (by simp [hx]))]
    rfl
theorem valid_one (c : UInt8) (t : Nat) (h : c.toNat < 128) (R : List UInt8) : Lib.validD (oneS c t ++ R) = Lib.validD R := by
  have hf := flip_lowb h t
  unfold oneS
  split
  · show Lib.validD (flip c t :: 32 :: 32 :: R) = _
    rw [Lib.validD_cons _ _ hf, Lib.validD_cons _ _ (by decide), Lib.validD_cons _ _ (by decide)]
  · show Lib.validD (flip c t :: R) = _
    rw [Lib.validD_cons _ _ hf]
theorem out_valid (T : Nat → Nat) : ∀ (n : Nat) (l : List UInt8) (i : Nat), l.length ≤ n → Lib.validD l = true → Lib.validD (outS T i l ++ [32, 32]) = true
  | 0, l, i, hn, _ => by
    have : l = [] := List.eq_nil_of_length_eq_zero (by omega)
    subst this
    show Lib.validD [32, 32] = true
    rw [Lib.validD_cons _ _ (by decide), Lib.validD_cons _ _ (by decide)]; rfl
  | n + 1, l, i, hn, hv => by
    by_cases hne : l = []
    · subst hne
      show Lib.validD [32, 32] = true
      rw [Lib.validD_cons _ _ (by decide), Lib.validD_cons _ _ (by decide)]; rfl
    · rcases dec_cases l hne with ⟨b, t, rfl, hb, e⟩ | ⟨h1, _, h2, h3, h4, _⟩
      · rw [Lib.validD_cons _ _ hb] at hv
        show Lib.validD ((oneS b (T i) ++ outS T (i + 1) t) ++ [32, 32]) = true
        rw [List.append_assoc, valid_one b (T i) hb]
        exact out_valid T n t (i + 1) (by simp at hn; omega) hv
      · have hst := Lib.validD_step l hne
        by_cases hbad : (Lib.decodeL l).1 = 65533 ∧ (Lib.decodeL l).2 = 1
        · rw [if_pos hbad, hv] at hst; cases hst
        · rw [if_neg hbad, hv] at hst
          have h0 : 128 ≤ (l.getD 0 0).toNat := by
            refine h4 _ ?_
            match l, hne with
            | b :: t, _ =>
              obtain ⟨k, hk⟩ : ∃ k, (Lib.decodeL (b :: t)).2 = k + 1 := ⟨(Lib.decodeL (b :: t)).2 - 1, by omega⟩
              rw [hk]; simp
          obtain ⟨k, hk⟩ : ∃ k, (Lib.decodeL l).2 = k := ⟨_, rfl⟩
          have ih := out_valid T n (l.drop k) (i + k) (by rw [List.length_drop]; omega) (by rw [← hk]; exact hst.symm)
          have hp := dec_prefix l (outS T (i + k) (l.drop k) ++ [32, 32]) h0 hbad
          rw [hk] at hp h2 h3 h4
          have eo : outS T i l = l.take k ++ outS T (i + k) (l.drop k) := by
            have := outS_app T (l.take k) (l.drop k) i
            rw [List.take_append_drop, List.length_take, Nat.min_eq_left h3, out_high T (l.take k) i h4] at this
            exact this
          rw [eo, List.append_assoc]
          have hne2 : l.take k ++ (outS T (i + k) (l.drop k) ++ [32, 32]) ≠ [] := by simp
          rw [Lib.validD_step _ hne2, hp, if_neg hbad, hk, List.drop_append_of_le_length (by rw [List.length_take]; omega), List.drop_of_length_le (by rw [List.length_take]; omega), List.nil_append]
          exact ih
theorem wrap_valid (T : Nat → Nat) (l : List UInt8) (h : Lib.validD l = true) : Lib.validD (wrapS (outS T 0 l)) = true := by
  unfold wrapS
  rw [Lib.validD_cons _ _ (by decide)]
  exact out_valid T l.length l 0 (Nat.le_refl _) h
theorem okT_zero {b : Bool} {l : List UInt8} (h : (okT b l).2 = 0) : b = true := by
  unfold okT at h; cases b
  · simp at h
  · rfl
theorem text_wrap (T : Nat → Nat) (tag : Int) (l : List UInt8) (h30 : tag ≠ 30) (h : (textS tag l).2 = 0) : (textS tag (wrapS (outS T 0 l))).2 = 0 := by
  unfold textS at h ⊢
  by_cases g1 : tag = 12
  · rw [if_pos g1] at h ⊢
    rw [wrap_valid T l (okT_zero h)]; rfl
  · rw [if_neg g1] at h ⊢
    by_cases g2 : tag = 18
    · rw [if_pos g2] at h ⊢
      rw [wrap_all pN (by decide) (fun c hl hp => by have := (turn_letter c hl).2.2.2.2.2.1; rw [this] at hp; cases hp) T l (okT_zero h)]; rfl
    · rw [if_neg g2] at h ⊢
      by_cases g3 : tag = 19
      · rw [if_pos g3] at h ⊢
        rw [wrap_all pP (by decide) (fun c hl _ => (turn_letter c hl).2.2.2.2.2.2.1) T l (okT_zero h)]; rfl
      · rw [if_neg g3] at h ⊢
        by_cases g4 : tag = 22
        · rw [if_pos g4] at h ⊢
          rw [wrap_all pI (by decide) (fun c hl _ => by unfold pI; exact decide_eq_true (turn_letter c hl).2.2.2.1) T l (okT_zero h)]; rfl
        · rw [if_neg g4] at h ⊢
          by_cases g5 : tag = 26
          · rw [if_pos g5] at h ⊢
            rw [wrap_all pV (by decide) (fun c hl _ => (turn_letter c hl).2.2.2.2.2.2.2.1) T l (okT_zero h)]; rfl
          · rw [if_neg g5, if_neg h30] at h ⊢
            simp at h
theorem key_wrap (T : Nat → Nat) (tag : Int) (l : List UInt8) (h30 : tag ≠ 30) (h : (textS tag l).2 = 0) : keyB tag (wrapS (outS T 0 l)) = keyB tag l := by
  rw [key_same tag l h30 h, key_same tag _ h30 (text_wrap T tag l h30 h), fold_wrap]
end Go.Proofs.YtonekkfpadgdhaaDoor
