/-
  Digest: messages, and the state that their blocks make; no Go text in sight.
-/
import Derived.Test.YtgipmjpkaemdkaaDoorG11
namespace Go.Proofs.YtgipmjpkaemdkaaDoor
open Go.RowKit
def R8.of (xs : List Int) : R8 := ⟨xs.getD 0 0, xs.getD 1 0, xs.getD 2 0, xs.getD 3 0, xs.getD 4 0, xs.getD 5 0, xs.getD 6 0, xs.getD 7 0⟩
def R8.zero : R8 := ⟨0, 0, 0, 0, 0, 0, 0, 0⟩
/-- The first state: words, and wide ones. -/
def firstW (alg : Int) : R8 := if alg = 1 then R8.of first1L else if alg = 2 then R8.of first256L else R8.zero
def firstQ (alg : Int) : R8 := if alg = 3 then R8.of first384L else if alg = 4 then R8.of first512L else R8.zero
structure St where
  words : R8
  wide : R8
def St.mix (alg : Int) (s : St) (bs : List Int) : St :=
  if alg = 1 then ⟨mx1 s.words bs, s.wide⟩ else if alg = 2 then ⟨mx256 s.words bs, s.wide⟩ else ⟨s.words, mx512 s.wide bs⟩
/-- The state behind k blocks of a message. -/
def run (alg : Int) (msg : List Int) : Nat → St
  | 0 => ⟨firstW alg, firstQ alg⟩
  | k + 1 => (run alg msg k).mix alg ((msg.drop (k * blk alg)).take (blk alg))
theorem run_app (alg : Int) (msg more : List Int) : ∀ k, k * blk alg ≤ msg.length → run alg (msg ++ more) k = run alg msg k
  | 0, _ => rfl
  | k + 1, h => by
    have h' : k * blk alg + blk alg ≤ msg.length := by rw [Nat.succ_mul] at h; exact h
    simp only [run]
    rw [run_app alg msg more k (by omega), List.drop_append_of_le_length (by omega), List.take_append_of_le_length (by simp; omega)]
/-- h holds the state of the message. -/
structure Inv (alg : Int) (h : Hs) (msg : List Int) : Prop where
  algE : h.alg = alg
  totalE : h.total = msg.length
  state : (⟨h.words, h.wide⟩ : St) = run alg msg (msg.length / blk alg)
  restE : h.rest.take (msg.length % blk alg) = msg.drop (msg.length / blk alg * blk alg)
theorem Alg.blk_pos {alg : Int} (h : Alg alg) : blk alg = 64 ∨ blk alg = 128 := by
  rcases h with rfl | rfl | rfl | rfl
  · exact .inl rfl
  · exact .inl rfl
  · exact .inr rfl
  · exact .inr rfl
theorem Hs.mixed_state {h : Hs} {alg : Int} (ha : h.alg = alg) (bs : List Int) : (⟨(h.mixed bs).words, (h.mixed bs).wide⟩ : St) = St.mix alg ⟨h.words, h.wide⟩ bs ∧ (h.mixed bs).alg = alg ∧ (h.mixed bs).total = h.total ∧ (h.mixed bs).rest = h.rest := by
  subst ha
  unfold Hs.mixed St.mix
  split
  · exact ⟨rfl, rfl, rfl, rfl⟩
  · split
    · exact ⟨rfl, rfl, rfl, rfl⟩
    · exact ⟨rfl, rfl, rfl, rfl⟩
/-- A number's last j bytes, the highest first. -/
def be : Nat → Nat → List Int
  | 0, _ => []
  | j + 1, m => ((m / 256 ^ j % 256 : Nat) : Int) :: be j m
theorem be_len (j m : Nat) : (be j m).length = j := by
  induction j with
  | zero => rfl
  | succ j ih => simp [be, ih]
theorem be_u8 (j m : Nat) : U8s (be j m) := by
  induction j with
  | zero => intro x hx; simp [be] at hx
  | succ j ih =>
    intro x hx
    rcases List.mem_cons.1 hx with rfl | hx
    · unfold U8; omega
    · exact ih x hx
theorem be_high (m : Nat) : ∀ (i j : Nat), m / 256 ^ j = 0 → be (i + j) m = List.replicate i 0 ++ be j m
  | 0, j, _ => by simp
  | i + 1, j, h => by
    rw [show i + 1 + j = (i + j) + 1 by omega, be, be_high m i j h, List.replicate_succ, List.cons_append]
    have : m / 256 ^ (i + j) = 0 := by
      rw [Nat.add_comm, Nat.pow_add, ← Nat.div_div_eq_div_mul, h, Nat.zero_div]
    rw [this]; rfl
/-- How many bytes fill a message of n bytes up, and which. -/
def fillLen (n B : Nat) : Nat := B - (n + B / 8) % B + B / 8
def fill (n B : Nat) : List Int := 128 :: (List.replicate (fillLen n B - 1 - B / 8) 0 ++ be (B / 8) (n * 8))
theorem fill_len {n B : Nat} (h : B = 64 ∨ B = 128) : (fill n B).length = fillLen n B := by
  have h1 : (n + B / 8) % B < B := Nat.mod_lt _ (by omega)
  simp only [fill, List.length_cons, List.length_append, List.length_replicate, be_len]
  unfold fillLen; omega
theorem fill_u8 (n B : Nat) : U8s (fill n B) := by
  intro x hx
  rcases List.mem_cons.1 hx with rfl | hx
  · exact ⟨by decide, by decide⟩
  · rcases List.mem_append.1 hx with hx | hx
    · rw [(List.mem_replicate.1 hx).2]; exact ⟨by decide, by decide⟩
    · exact be_u8 _ _ x hx
/-- The state's bytes. -/
def outB (alg : Int) (s : St) (i : Nat) : Int := if blk alg = 64 then s.words.list.getD (i / 4) 0 / 2 ^ (24 - i % 4 * 8) % 256 else s.wide.list.getD (i / 8) 0 / 2 ^ (56 - i % 8 * 8) % 256
def out (alg : Int) (s : St) : List Int := (List.range (siz alg)).map (outB alg s)
/-- The digest of a message. -/
def dig (alg : Int) (msg : List Int) : List Int :=
  out alg (run alg (msg ++ fill msg.length (blk alg)) ((msg.length + fillLen msg.length (blk alg)) / blk alg))
theorem out_len (alg : Int) (s : St) : (out alg s).length = siz alg := by simp [out]
theorem outB_u8 (alg : Int) (s : St) (i : Nat) : U8 (outB alg s i) := by
  unfold outB U8; split <;> exact ⟨Int.emod_nonneg _ (by decide), Int.emod_lt_of_pos _ (by decide)⟩
theorem out_u8 (alg : Int) (s : St) : U8s (out alg s) := by
  intro x hx; obtain ⟨i, _, rfl⟩ := List.mem_map.1 hx; exact outB_u8 _ _ _
theorem U8s.append {xs ys : List Int} (h : U8s xs) (k : U8s ys) : U8s (xs ++ ys) := by
  intro y hy; rcases List.mem_append.1 hy with hy | hy
  · exact h y hy
  · exact k y hy
theorem U8s.take {xs : List Int} (h : U8s xs) (n : Nat) : U8s (xs.take n) := fun y hy => h y (List.mem_of_mem_take hy)
theorem U8s.drop {xs : List Int} (h : U8s xs) (n : Nat) : U8s (xs.drop n) := fun y hy => h y (List.mem_of_mem_drop hy)
theorem U8s.set {xs : List Int} (h : U8s xs) (i : Nat) {x : Int} (hx : U8 x) : U8s (xs.set i x) := by
  intro y hy; rcases List.mem_or_eq_of_mem_set hy with hy | rfl
  · exact h y hy
  · exact hx
end Go.Proofs.YtgipmjpkaemdkaaDoor
