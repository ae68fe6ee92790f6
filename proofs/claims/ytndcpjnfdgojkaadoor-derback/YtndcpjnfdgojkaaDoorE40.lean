/-
  Der: what reading a row of elements tells, over lists of bytes; no Go text in sight.
-/
import Derived.Test.YtndcpjnfdgojkaaDoorE0
namespace Go.Proofs.YtndcpjnfdgojkaaDoor
open Go.RowKit
/-- A fault and its place, or a number and where what comes behind it begins. -/
inductive Rs where
  | bad (e : Int) (a : Nat)
  | ok (v : Int) (i : Nat)
def Rs.v : Rs → Int
  | .bad _ _ => 0
  | .ok v _ => v
def Rs.e : Rs → Int
  | .bad e _ => e
  | .ok _ _ => 0
def Rs.at : Rs → Nat
  | .bad _ a => a
  | .ok _ i => i
/-- A long tag from place i on, t being what was read of it. -/
def lngF (M : List Int) : Nat → Nat → Int → Rs
  | 0, _, _ => .bad 2 M.length
  | f + 1, i, t =>
    if t * 128 + M.getD i 0 % 128 = 0 ∨ 268435455 < t * 128 + M.getD i 0 % 128 ∨ (M.getD i 0 < 128 ∧ t * 128 + M.getD i 0 % 128 < 31) then .bad 30 i
    else if M.getD i 0 < 128 then .ok (t * 128 + M.getD i 0 % 128) (i + 1)
    else lngF M f (i + 1) (t * 128 + M.getD i 0 % 128)
def lng (M : List Int) (i : Nat) (t : Int) : Rs := lngF M (M.length - i) i t
theorem lng_end {M : List Int} {i : Nat} {t : Int} (h : M.length ≤ i) : lng M i t = .bad 2 M.length := by
  unfold lng; rw [show M.length - i = 0 by omega]; rfl
theorem lng_step {M : List Int} {i : Nat} {t x t' : Int} (h : i < M.length) (hx : M.getD i 0 = x) (ht : t * 128 + x % 128 = t') :
    lng M i t = if t' = 0 ∨ 268435455 < t' ∨ (x < 128 ∧ t' < 31) then .bad 30 i else if x < 128 then .ok t' (i + 1) else lng M (i + 1) t' := by
  unfold lng; rw [show M.length - i = (M.length - (i + 1)) + 1 by omega, lngF, hx, ht]
/-- The number of k bytes from place i on; of a great one only that it is. -/
def fold8 (M : List Int) (i : Nat) : Nat → Int
  | 0 => 0
  | k + 1 => min (fold8 M i k * 256 + M.getD (i + k) 0) 16777217
theorem fold8_bd {M : List Int} (hM : U8s M) (i : Nat) : ∀ k, 0 ≤ fold8 M i k ∧ fold8 M i k ≤ 16777217
  | 0 => by simp [fold8]
  | k + 1 => by
    have := fold8_bd hM i k
    have h8 := hM.at (i + k)
    unfold U8 at h8
    show 0 ≤ min (fold8 M i k * 256 + M.getD (i + k) 0) 16777217 ∧ min (fold8 M i k * 256 + M.getD (i + k) 0) 16777217 ≤ 16777217
    omega
def lenS (M : List Int) (i : Nat) : Rs :=
  if M.length ≤ i then .bad 2 M.length
  else if M.getD i 0 = 128 ∨ M.getD i 0 = 255 then .bad 31 i
  else if M.getD i 0 < 128 then (if (M.length : Int) < i + 1 + M.getD i 0 then .bad 31 i else .ok (M.getD i 0) (i + 1))
  else if M.length < i + 1 + (M.getD i 0 - 128).toNat then .bad 2 M.length
  else if fold8 M (i + 1) (M.getD i 0 - 128).toNat < 128 ∨ M.getD (i + 1) 0 = 0 then .bad 31 i
  else if (M.length : Int) - (i + 1 + (M.getD i 0 - 128).toNat : Nat) < fold8 M (i + 1) (M.getD i 0 - 128).toNat then .bad 31 i
  else .ok (fold8 M (i + 1) (M.getD i 0 - 128).toNat) (i + 1 + (M.getD i 0 - 128).toNat)
def tagS (M : List Int) (p : Nat) : Rs :=
  if M.getD p 0 % 32 = 31 then lng M (p + 1) 0
  else if M.getD p 0 % 32 = 0 ∧ M.getD p 0 < 64 then .bad 30 p
  else .ok (M.getD p 0 % 32) (p + 1)
inductive Es where
  | bad (e : Int) (a : Nat)
  | ok (t : Int) (j E : Nat)
def elemS (M : List Int) (p : Nat) : Es :=
  match tagS M p with
  | .bad e a => .bad e a
  | .ok t i => match lenS M i with
    | .bad e a => .bad e a
    | .ok l j => .ok t j (j + l.toNat)
/-- An element: class, tag, made of others or not, its data, all its bytes. -/
structure El where
  cl : Int
  tg : Int
  co : Bool
  d : List Int
  r : List Int
def elAt (M : List Int) (p : Nat) (t : Int) (j E : Nat) : El := ⟨M.getD p 0 / 64, t, decide (M.getD p 0 / 32 % 2 = 1), (M.drop j).take (E - j), (M.drop p).take (E - p)⟩
theorem lng_ok {M : List Int} : ∀ f i t, M.length - i = f → ∀ v j, lng M i t = .ok v j → i < j ∧ j ≤ M.length ∧ 31 ≤ v ∧ v ≤ 268435455
  | 0, i, t, hf, v, j, h => by rw [lng_end (by omega)] at h; cases h
  | f + 1, i, t, hf, v, j, h => by
    rw [lng_step (by omega) rfl rfl] at h
    split at h
    · cases h
    · rename_i h1
      split at h
      · cases h; omega
      · have := lng_ok f (i + 1) _ (by omega) v j h; omega
theorem lng_bad {M : List Int} : ∀ f i t, M.length - i = f → i ≤ M.length → ∀ e a, lng M i t = .bad e a → i ≤ a ∧ a ≤ M.length ∧ (e = 2 ∨ e = 30)
  | 0, i, t, hf, hi, e, a, h => by rw [lng_end (by omega)] at h; cases h; omega
  | f + 1, i, t, hf, hi, e, a, h => by
    rw [lng_step (by omega) rfl rfl] at h
    split at h
    · cases h; omega
    · split at h
      · cases h
      · have := lng_bad f (i + 1) _ (by omega) (by omega) e a h; omega
theorem lenS_ok {M : List Int} (hM : U8s M) {i : Nat} {v : Int} {j : Nat} (h : lenS M i = .ok v j) : i < j ∧ 0 ≤ v ∧ j + v ≤ M.length ∧ v ≤ 16777216 + 1 := by
  have hx := hM.at i
  unfold U8 at hx
  have hf := fold8_bd hM (i + 1) (M.getD i 0 - 128).toNat
  unfold lenS at h
  split at h
  · cases h
  split at h
  · cases h
  split at h
  · split at h
    · cases h
    · cases h; omega
  split at h
  · cases h
  split at h
  · cases h
  split at h
  · cases h
  · cases h; omega
theorem lenS_bad {M : List Int} {i : Nat} {e : Int} {a : Nat} (hi : i ≤ M.length) (h : lenS M i = .bad e a) : i ≤ a ∧ a ≤ M.length ∧ (e = 2 ∨ e = 31) := by
  unfold lenS at h
  split at h
  · cases h; omega
  split at h
  · cases h; omega
  split at h
  · split at h
    · cases h; omega
    · cases h
  split at h
  · cases h; omega
  split at h
  · cases h; omega
  split at h
  · cases h; omega
  · cases h
theorem tagS_ok {M : List Int} (hM : U8s M) {p : Nat} (hp : p < M.length) {v : Int} {j : Nat} (h : tagS M p = .ok v j) : p < j ∧ j ≤ M.length ∧ 0 ≤ v ∧ v ≤ 268435455 := by
  have hx := hM.at p
  unfold U8 at hx
  unfold tagS at h
  split at h
  · have := lng_ok _ _ _ rfl v j h; omega
  split at h
  · cases h
  · cases h; omega
theorem tagS_bad {M : List Int} {p : Nat} (hp : p < M.length) {e : Int} {a : Nat} (h : tagS M p = .bad e a) : p ≤ a ∧ a ≤ M.length ∧ (e = 2 ∨ e = 30) := by
  unfold tagS at h
  split at h
  · have := lng_bad _ _ _ rfl (by omega) e a h; omega
  split at h
  · cases h; omega
  · cases h
theorem elemS_ok {M : List Int} (hM : U8s M) {p : Nat} (hp : p < M.length) {t : Int} {j E : Nat} (h : elemS M p = .ok t j E) : p < j ∧ j ≤ E ∧ E ≤ M.length ∧ 0 ≤ t ∧ t ≤ 268435455 := by
  unfold elemS at h
  split at h
  · cases h
  · rename_i t' i ht
    have h1 := tagS_ok hM hp ht
    split at h
    · cases h
    · rename_i l j' hl
      have h2 := lenS_ok hM hl
      cases h; omega
theorem elemS_bad {M : List Int} (hM : U8s M) {p : Nat} (hp : p < M.length) {e : Int} {a : Nat} (h : elemS M p = .bad e a) : p ≤ a ∧ a ≤ M.length ∧ (e = 2 ∨ e = 30 ∨ e = 31) := by
  unfold elemS at h
  split at h
  · rename_i e' a' ht
    have h1 := tagS_bad hp ht
    cases h; omega
  · rename_i t' i ht
    have h1 := tagS_ok hM hp ht
    split at h
    · rename_i e' a' hl
      have h2 := lenS_bad (by omega) hl
      cases h; omega
    · cases h
/-- A row of elements, or the first fault and its place. -/
inductive Sp where
  | bad (e : Int) (a : Nat)
  | ok (L : List El)
def spF (M : List Int) : Nat → Nat → List El → Sp
  | 0, _, L => .ok L
  | f + 1, p, L =>
    if M.length ≤ p then .ok L
    else if 65536 ≤ L.length then .bad 4 p
    else match elemS M p with
      | .bad e a => .bad e a
      | .ok t j E => spF M f E (L ++ [elAt M p t j E])
theorem spF_fuel {M : List Int} (hM : U8s M) : ∀ f g p L, M.length ≤ p + f → M.length ≤ p + g → spF M f p L = spF M g p L
  | 0, 0, _, _, _, _ => rfl
  | 0, g + 1, p, L, h, _ => by rw [spF, spF, if_pos (by omega)]
  | f + 1, 0, p, L, _, h => by rw [spF, spF, if_pos (by omega)]
  | f + 1, g + 1, p, L, h, h' => by
    rw [spF, spF]
    by_cases h1 : M.length ≤ p
    · rw [if_pos h1, if_pos h1]
    rw [if_neg h1, if_neg h1]
    split
    · rfl
    split
    · rfl
    · rename_i t j E he
      have h2 := elemS_ok hM (by omega) he
      exact spF_fuel hM f g E _ (by omega) (by omega)
def spl (M : List Int) (p : Nat) (L : List El) : Sp := spF M (M.length - p) p L
def splitS (M : List Int) : Sp := if 16777216 < M.length then .bad 3 0 else spl M 0 []
theorem spl_end {M : List Int} {p : Nat} {L : List El} (h : M.length ≤ p) : spl M p L = .ok L := by
  unfold spl; rw [show M.length - p = 0 by omega, spF]
theorem spl_many {M : List Int} {p : Nat} {L : List El} (h : p < M.length) (hL : 65536 ≤ L.length) : spl M p L = .bad 4 p := by
  unfold spl; rw [show M.length - p = (M.length - p - 1) + 1 by omega, spF, if_neg (by omega), if_pos hL]
theorem spl_bad {M : List Int} {p : Nat} {L : List El} (h : p < M.length) (hL : L.length < 65536) {e : Int} {a : Nat} (he : elemS M p = .bad e a) : spl M p L = .bad e a := by
  unfold spl; rw [show M.length - p = (M.length - p - 1) + 1 by omega, spF, if_neg (by omega), if_neg (by omega), he]
theorem spl_ok {M : List Int} (hM : U8s M) {p : Nat} {L : List El} (h : p < M.length) (hL : L.length < 65536) {t : Int} {j E : Nat} (he : elemS M p = .ok t j E) : spl M p L = spl M E (L ++ [elAt M p t j E]) := by
  have h2 := elemS_ok hM h he
  unfold spl; rw [show M.length - p = (M.length - p - 1) + 1 by omega, spF, if_neg (by omega), if_neg (by omega), he]
  exact spF_fuel hM _ _ _ _ (by omega) (by omega)
/-- What a few bytes of a length tell, read from place i on. -/
def lenL (M : List Int) (i k : Nat) : Rs := if M.length < i + k then .bad 2 M.length else .ok (fold8 M i k) (i + k)
theorem fold8_at {M : List Int} (i k : Nat) {x : Int} (hx : M.getD (i + k) 0 = x) : fold8 M i (k + 1) = min (fold8 M i k * 256 + x) 16777217 := by
  rw [← hx]; rfl
end Go.Proofs.YtndcpjnfdgojkaaDoor
