/-
  Ber: words of memory, picked from the texts of layer 4 (wip/pick.py).
-/
import Derived.BigQuiet
import Derived.Deep.QuietTactic
import Derived.Deep.CutRange
import Derived.Test.YtefebamomdcaaaaGreatDoorK6
namespace Go.Proofs.YtefebamomdcaaaaGreatDoor
open Go.RowKit
theorem wp_gen {P : Program} {c : Code} {Q : Exit → Act → World → Prop} {a : Act} {W : World} (R : World → Prop) (hR : R W) (h : ∀ W', R W' → Code.wp P c Q a W') : Code.wp P c Q a W := h W hR
/-- A function with two results, the first in a block of its own. -/
theorem results_blk2 {P : Program} {fn : Func} {T : TypeId} {t u : Tmp} (h : fn.results = #[.cell t T, .tmp u]) {a : Array Value} {w : World} {b : Nat} {cs : List Value} {d : TypeDesc} {v : Value} (ha : a.getD t undef = .pointer (some ⟨b, 0, none⟩))
    (hb : Blk T w b cs) (hu : P.underlying T = some d) (hd : d.isRow = true) (hi : (P.info? T).map (·.size) = some cs.length) (hv : a.getD u undef = v) : (results fn a).run P w = .ok (.tuple #[.agg cs.toArray, v]) w := by
  have := run_loadVar_mid (P := P) w b 0 T cs d hb.whole hu hd hi
  have ha' : a[t]?.getD undef = .pointer (some ⟨b, 0, none⟩) := by simpa using ha
  have hv' : a[u]?.getD undef = v := by simpa using hv
  simp [results, h, ha', asAddr, this, hv']
theorem Upd.old {w w1 w2 : World} {o : Obj} {g : Nat} (h : Upd (w.alloc o) w1 g) (h2 : Upd w1 w2 w.heap.size) : Upd w w2 g := by
  have hs := (al1 (w := w) o).size
  have h1 := h.size
  refine ⟨h2.os.trans h.os, h2.tape.trans h.tape, h2.output.trans h.output, by have := h2.size; omega, fun j hj hne => ?_⟩
  rw [h2.block j (by omega) (fun e => by simp at e; omega), h.block j (by omega) hne]
  exact (al1 (w := w) o).block j hj
theorem Row.upd {k : IntKind} {e : TypeId} {B : Nat} {w w' : World} {v : Value} {xs : List Int} {g : Nat} (h : Row k e B w v xs) (hu : Upd w w' g) (hg : g < B) : Row k e B w' v xs := by
  rcases h with h | ⟨b, S, rfl, h1, hA, h2⟩
  · exact .inl h
  · exact .inr ⟨b, S, rfl, h1, hu.arr hA (by omega), h2⟩
theorem Upd.more {w w1 w2 : World} {g m : Nat} (h1 : Upd w w1 g) (hu : Upd w1 w2 m) (hm : w.heap.size ≤ m) : Upd w w2 g :=
  ⟨hu.os.trans h1.os, hu.tape.trans h1.tape, hu.output.trans h1.output, Nat.le_trans h1.size hu.size, fun j hj hne => (hu.block j (Nat.lt_of_lt_of_le hj h1.size) (fun e => by simp at e; omega)).trans (h1.block j hj hne)⟩
theorem Below.upd {w w' : World} {g : Nat} (h : Below w.heap.size w w') : Upd w w' g := ⟨h.os, h.tape, h.output, h.size, fun j hj _ => h.block j hj⟩
theorem src_m {P : Program} {tx e' T : TypeId} (hk : P.underlying tx = some (.slice e')) {w : World} {b : Nat} (m : Nat) {vs : List Value} (h : Blk T w b vs) (hl : vs.length = 1 * m) (ho : ∀ u ∈ vs, u.oneCell' = true) : Src P m tx (.slice (some ⟨b, 0, none⟩) 1 1) 1 vs w := by
  refine Src.ofSlice w hk _ _ _ _ hl (fun j u hj => ?_) ho
  have hadd : (⟨b, 0, none⟩ : Addr).add j = ⟨b, j, none⟩ := by simp [Addr.add] <;> omega
  rw [hadd, h.cell j, hj]
theorem blk_nw {e : TypeId} {w : World} {b : Nat} {cs : Array Value} {xs : List Value} (hb : b = w.heap.size) (h : cs = xs.toArray) : Blk e (w.alloc (.cells cs e)) b xs := by subst hb; subst h; exact Blk.new e w _
theorem MRow.upd {m : Nat} {e : TypeId} {B : Nat} {w w' : World} {v : Value} {n : Nat} {xs : List Value} {g : Nat} (h : MRow m e B w v n xs) (hu : Upd w w' g) (hg : g < B) : MRow m e B w' v n xs := by
  obtain ⟨h0, h⟩ := h
  refine ⟨h0, ?_⟩
  rcases h with h | ⟨b, S, c, rfl, h1, hA, h2⟩
  · exact .inl h
  · exact .inr ⟨b, S, c, rfl, h1, hu.blk hA (by omega), h2⟩
theorem MRow.at {m : Nat} {e : TypeId} {B : Nat} {w : World} {v : Value} {n : Nat} {xs : List Value} (h : MRow m e B w v n xs) (hn : 0 < n) : ∃ b c, v = .slice (some ⟨b, 0, none⟩) n c ∧ n ≤ c ∧ B ≤ b ∧ b < w.heap.size ∧ ∀ i, i < n * m → w.cell? ⟨b, i, none⟩ = xs[i]? := by
  obtain ⟨h0, h⟩ := h
  rcases h with ⟨_, h⟩ | ⟨b, S, c, rfl, h1, hA, h2, h3, h4, h5⟩
  · omega
  · refine ⟨b, c, rfl, h3, h1, hA.lt, fun i hi => ?_⟩
    rw [hA.cell i, ← h4, List.getElem?_take, if_pos hi]
def posOf : Option Value → Nat
  | some v => (intOf v).toNat
  | none => 0
theorem or_i64 (s : Nat) (x y : Int) (hx0 : 0 ≤ x) (hx : x * 2 ^ s < 9223372036854775808) (hy0 : 0 ≤ y) (hy : y < 2 ^ s) (hs : s ≤ 32) : bits .or .i64 (x * 2 ^ s) y = x * 2 ^ s + y := by
  obtain ⟨a, rfl⟩ := Int.eq_ofNat_of_zero_le hx0
  obtain ⟨b, rfl⟩ := Int.eq_ofNat_of_zero_le hy0
  have e : ((a * 2 ^ s : Nat) : Int) = (a : Int) * 2 ^ s := by simp
  have hb : b < 2 ^ s := by
    have : ((b : Nat) : Int) < ((2 ^ s : Nat) : Int) := by rw [Int.natCast_pow]; exact hy
    exact Int.ofNat_lt.1 this
  have ha : a * 2 ^ s < 2 ^ 63 := by
    have : ((a * 2 ^ s : Nat) : Int) < ((2 ^ 63 : Nat) : Int) := by rw [e]; exact hx
    exact Int.ofNat_lt.1 this
  have hb2 : b < 2 ^ 63 := Nat.lt_of_lt_of_le hb (Nat.pow_le_pow_right (by decide) (by omega))
  have h := (bits_nat .i64 63 (by decide) (fun n h₀ h₁ => by rw [IntKind.wrap_i64]; omega) (a * 2 ^ s) b ha hb2).2
  rw [e] at h
  rw [h, Nat.mul_comm a, ← Nat.two_pow_add_eq_or_of_lt hb a, Nat.mul_comm, Int.natCast_add, e]
theorem upd_drewN (w : World) (n g : Nat) : Upd w (w.drewN n) g := ⟨rfl, rfl, rfl, Nat.le_refl _, fun _ _ _ => rfl⟩
theorem and_31u (x : Int) (h : U8 x) : bits .and .u8 x 31 = x % 32 := by
  obtain ⟨h0, h1⟩ := h
  obtain ⟨k, rfl⟩ := Int.eq_ofNat_of_zero_le h0
  have : ∀ y : Fin 256, bits .and .u8 ((y : Nat) : Int) 31 = ((y : Nat) : Int) % 32 := by decide +kernel
  exact this ⟨k, by omega⟩
theorem and_32u (x : Int) (h : U8 x) : (bits .and .u8 x 32 != 0) = decide (x / 32 % 2 = 1) := by
  obtain ⟨h0, h1⟩ := h
  obtain ⟨k, rfl⟩ := Int.eq_ofNat_of_zero_le h0
  have : ∀ y : Fin 256, (bits .and .u8 ((y : Nat) : Int) 32 != 0) = decide (((y : Nat) : Int) / 32 % 2 = 1) := by decide +kernel
  exact this ⟨k, by omega⟩
theorem rd_slo {w : World} {b off c : Nat} {M : List Int} (hb : b < w.heap.size) (hr : Rd .u8 w b off M) (i j : Nat) (hij : i ≤ j) (hj : j ≤ M.length) (hc : j ≤ c) : Sl .u8 w (.slice (if c = i then some ⟨b, off, none⟩ else some ⟨b, off + i, none⟩) (j - i) (c - i)) ((M.drop i).take (j - i)) := by
  have hl : ((M.drop i).take (j - i)).length = j - i := by rw [List.length_take, List.length_drop]; omega
  refine ⟨_, _, by rw [hl], by omega, ?_⟩
  by_cases h : c = i
  · exact .inl (List.eq_nil_of_length_eq_zero (by omega))
  · rw [if_neg h]
    refine .inr ⟨b, off + i, rfl, hb, fun k hk => ?_⟩
    have := hr (i + k) (by omega)
    rw [← Nat.add_assoc] at this
    rw [this, List.getD_eq_getElem?_getD, List.getD_eq_getElem?_getD, List.getElem?_take, if_pos (by omega), List.getElem?_drop]
/-- The block that a slice lies in. -/
def blkOf : Value → Option Nat
  | .slice (some a) _ _ => some a.block
  | _ => none
/-- No two of them lie in one block. -/
def Apart (vs : List Value) : Prop := vs.Pairwise fun u v => ∀ b, blkOf u = some b → blkOf v ≠ some b
theorem Row.blk_lt {k : IntKind} {e : TypeId} {B : Nat} {w : World} {v : Value} {xs : List Int} (h : Row k e B w v xs) {b : Nat} (hb : blkOf v = some b) : B ≤ b ∧ b < w.heap.size := by
  rcases h with ⟨rfl, _⟩ | ⟨b', S, rfl, h1, hA, _⟩
  · simp [blkOf] at hb
  · simp only [blkOf, Option.some.injEq] at hb; subst hb; exact ⟨h1, hA.lt⟩
theorem Apart.snoc {vs : List Value} {d r : Value} (h : Apart vs) (m : Nat) (h1 : ∀ u ∈ vs, ∀ b, blkOf u = some b → b < m) (hd : ∀ b, blkOf d = some b → m ≤ b) (hr : ∀ b, blkOf r = some b → m ≤ b) (hdr : ∀ b, blkOf d = some b → blkOf r ≠ some b) : Apart (vs ++ [d, r]) := by
  unfold Apart at *
  rw [List.pairwise_append]
  refine ⟨h, ?_, ?_⟩
  · simp only [List.pairwise_cons, List.mem_singleton, List.not_mem_nil, false_implies, implies_true, List.Pairwise.nil, and_true, forall_eq]
    exact hdr
  · intro u hu v hv b hb hb'
    have := h1 u hu b hb
    simp only [List.mem_cons, List.not_mem_nil, or_false] at hv
    rcases hv with rfl | rfl
    · have := hd b hb'; omega
    · have := hr b hb'; omega
theorem MRow.mono {m : Nat} {e : TypeId} {B B' : Nat} {w : World} {v : Value} {n : Nat} {xs : List Value} (h : MRow m e B w v n xs) (hb : B' ≤ B) : MRow m e B' w v n xs := by
  obtain ⟨h0, h⟩ := h
  refine ⟨h0, ?_⟩
  rcases h with h | ⟨b, S, c, rfl, h1, h2⟩
  · exact .inl h
  · exact .inr ⟨b, S, c, rfl, by omega, h2⟩
theorem and_127 (x : Int) (h : U8 x) : bits .and .u8 x 127 = x % 128 := by obtain ⟨h0, h1⟩ := h; go_bits2
theorem wrapI (z : Int) (h0 : 0 ≤ z) (h1 : z < 9223372036854775808) : IntKind.i64.wrap z = z := by rw [IntKind.wrap_i64]; omega
end Go.Proofs.YtefebamomdcaaaaGreatDoor
/-
  Ber: what reading bytes as a tree tells, over lists of bytes; no Go text in sight.
-/
namespace Go.Proofs.YtefebamomdcaaaaGreatDoor
open Go.RowKit
/-- An element of a tree: depth, class, tag, made of others or not, its data. -/
structure Te where
  dp : Int
  cl : Int
  tg : Int
  co : Bool
  d : List Int
/-- A length at i: -1 stands for an open one. -/
def blen (M : List Int) (i : Nat) (co : Bool) : Rs :=
  if M.length ≤ i then .inl (2, M.length)
  else if M.getD i 0 = 255 ∨ (M.getD i 0 = 128 ∧ co = false) then .inl (31, i)
  else if M.getD i 0 = 128 then .inr (-1, i + 1)
  else if M.getD i 0 < 128 then (if (M.length : Int) < i + 1 + M.getD i 0 then .inl (31, i) else .inr (M.getD i 0, i + 1))
  else if M.length < i + 1 + (M.getD i 0 - 128).toNat then .inl (2, M.length)
  else if (M.length : Int) - (i + 1 + (M.getD i 0 - 128).toNat : Nat) < fold8 M (i + 1) (M.getD i 0 - 128).toNat then .inl (31, i)
  else .inr (fold8 M (i + 1) (M.getD i 0 - 128).toNat, i + 1 + (M.getD i 0 - 128).toNat)
theorem blen_ok {M : List Int} (hM : U8s M) {i : Nat} {co : Bool} {v : Int} {j : Nat} (h : blen M i co = .inr (v, j)) : i < j ∧ j ≤ M.length ∧ (v = -1 ∧ co = true ∨ 0 ≤ v ∧ j + v ≤ M.length ∧ v ≤ 16777216 + 1) := by
  have hx := hM.at i
  unfold U8 at hx
  have hf := fold8_bd hM (i + 1) (M.getD i 0 - 128).toNat
  unfold blen at h
  split at h
  · cases h
  split at h
  · cases h
  split at h
  · rename_i h1 h2 h3
    cases h
    exact ⟨by omega, by omega, .inl ⟨rfl, by cases co <;> simp_all⟩⟩
  split at h
  · split at h
    · cases h
    · cases h; exact ⟨by omega, by omega, .inr ⟨by omega, by omega, by omega⟩⟩
  split at h
  · cases h
  split at h
  · cases h
  · cases h; exact ⟨by omega, by omega, .inr ⟨by omega, by omega, by omega⟩⟩
theorem blen_bad {M : List Int} {i : Nat} {co : Bool} {e : Int} {a : Nat} (hi : i ≤ M.length) (h : blen M i co = .inl (e, a)) : i ≤ a ∧ a ≤ M.length ∧ (e = 2 ∨ e = 31) := by
  unfold blen at h
  split at h
  · cases h; omega
  split at h
  · cases h; omega
  split at h
  · cases h
  split at h
  · split at h
    · cases h; omega
    · cases h
  split at h
  · cases h; omega
  split at h
  · cases h; omega
  · cases h
/-- The head and the length of the element at p, ahead of q; m elements are there already, dp parts are about it: its tag, its length, where it begins. -/
abbrev Bs := (Int × Nat) ⊕ (Int × Int × Nat)
def belS (M : List Int) (p q m dp : Nat) : Bs :=
  if m = 65536 then .inl (4, p)
  else if dp = 64 then .inl (32, p)
  else if q ≤ p then .inl (2, q)
  else match tagS (M.take q) p with
    | .inl (e, a) => .inl (e, a)
    | .inr (t, i) => match blen (M.take q) i (decide (M.getD p 0 / 32 % 2 = 1)) with
      | .inl (e, a) => .inl (e, a)
      | .inr (l, j) => .inr (t, l, j)
/-- The element itself. -/
def belE (M : List Int) (p dp : Nat) (t l : Int) (j : Nat) : Te :=
  ⟨dp, M.getD p 0 / 64, t, decide (M.getD p 0 / 32 % 2 = 1), if M.getD p 0 / 32 % 2 = 1 then [] else (M.drop j).take l.toNat⟩
/-- A part that has not come to its end: open or not, until where. -/
abbrev Prt := Bool × Nat
/-- Where an element that was read ends, as far as it was read. -/
def belP (M : List Int) (p : Nat) (l : Int) (j : Nat) : Nat := if M.getD p 0 / 32 % 2 = 1 then j else j + l.toNat
def belT (M : List Int) (p q : Nat) (l : Int) (j : Nat) (S : List Prt) : List Prt :=
  if M.getD p 0 / 32 % 2 = 1 then (if l < 0 then (true, q) else (false, j + l.toNat)) :: S else S
/-- Does the part end at p? -/
def ends (M : List Int) (p : Nat) : Prt → Bool
  | (o, u) => if o then decide (p + 1 < u ∧ M.getD p 0 = 0 ∧ M.getD (p + 1) 0 = 0) else decide (p = u)
/-- All parts that end at p are left. -/
def cls (M : List Int) : Nat → List Prt → Nat × List Prt
  | p, [] => (p, [])
  | p, x :: S => if ends M p x then cls M (if x.1 then p + 2 else p) S else (p, x :: S)
abbrev Ps := (Int × Nat) ⊕ (Nat × List Te)
/-- Reading on at p, ahead of q, in the parts S, behind the elements L. -/
def prF (M : List Int) : Nat → Nat → Nat → List Prt → List Te → Ps
  | 0, p, _, _, _ => .inl (4, p)
  | f + 1, p, q, S, L => match belS M p q L.length S.length with
    | .inl e => .inl e
    | .inr (t, l, j) => match cls M (belP M p l j) (belT M p q l j S) with
      | (p', []) => .inr (p', L ++ [belE M p S.length t l j])
      | (p', x :: S') => prF M f p' x.2 (x :: S') (L ++ [belE M p S.length t l j])
def pr (M : List Int) (p q : Nat) (S : List Prt) (L : List Te) : Ps := prF M (65537 - L.length) p q S L
/-- Behind an element: parts are left, or the next one is read. -/
def prC (M : List Int) (p : Nat) (S : List Prt) (L : List Te) : Ps := match cls M p S with
  | (p', []) => .inr (p', L)
  | (p', x :: S') => pr M p' x.2 (x :: S') L
theorem pr_bad {M : List Int} {p q : Nat} {S : List Prt} {L : List Te} (hL : L.length ≤ 65536) {e : Int × Nat} (h : belS M p q L.length S.length = .inl e) : pr M p q S L = .inl e := by
  unfold pr
  rw [show 65537 - L.length = (65536 - L.length) + 1 by omega, prF, h]
theorem pr_ok {M : List Int} {p q : Nat} {S : List Prt} {L : List Te} (hL : L.length ≤ 65536) {t l : Int} {j : Nat} (h : belS M p q L.length S.length = .inr (t, l, j)) :
    pr M p q S L = prC M (belP M p l j) (belT M p q l j S) (L ++ [belE M p S.length t l j]) := by
  unfold pr
  rw [show 65537 - L.length = (65536 - L.length) + 1 by omega, prF, h]
  unfold prC pr
  simp only []
  rw [List.length_append, List.length_singleton, show 65537 - (L.length + 1) = 65536 - L.length by omega]
theorem prC_end {M : List Int} {p : Nat} {L : List Te} : prC M p [] L = .inr (p, L) := rfl
theorem prC_pop {M : List Int} {p : Nat} {x : Prt} {S : List Prt} {L : List Te} (h : ends M p x = true) : prC M p (x :: S) L = prC M (if x.1 then p + 2 else p) S L := by
  unfold prC; rw [cls, if_pos h]
theorem prC_on {M : List Int} {p : Nat} {x : Prt} {S : List Prt} {L : List Te} (h : ends M p x = false) : prC M p (x :: S) L = pr M p x.2 (x :: S) L := by
  unfold prC; rw [cls, if_neg (by simp [h])]
/-- The whole: a tree, or the first fault and its place. -/
abbrev Tr := (Int × Nat) ⊕ List Te
def parseS (M : List Int) : Tr :=
  if 16777216 < M.length then .inl (3, 0)
  else match pr M 0 M.length [] [] with
    | .inl e => .inl e
    | .inr (p, L) => if p < M.length then .inl (33, p) else .inr L
theorem belS_many {M : List Int} {p q m dp : Nat} {t l : Int} {j : Nat} (h : belS M p q m dp = .inr (t, l, j)) : m ≠ 65536 ∧ dp ≠ 64 ∧ p < q := by
  unfold belS at h
  split at h
  · cases h
  split at h
  · cases h
  split at h
  · cases h
  · exact ⟨by omega, by omega, by omega⟩
theorem belS_at {M : List Int} {p q m dp : Nat} (hm : m ≠ 65536) (hd : dp ≠ 64) (hp : p < q) {t : Int} {i : Nat} (ht : tagS (M.take q) p = .inr (t, i)) :
    belS M p q m dp = match blen (M.take q) i (decide (M.getD p 0 / 32 % 2 = 1)) with
      | .inl (e, a) => .inl (e, a)
      | .inr (l, j) => .inr (t, l, j) := by
  unfold belS
  rw [if_neg hm, if_neg hd, if_neg (by omega), ht]
theorem belS_tag {M : List Int} {p q m dp : Nat} (hm : m ≠ 65536) (hd : dp ≠ 64) (hp : p < q) {e : Int} {a : Nat} (ht : tagS (M.take q) p = .inl (e, a)) : belS M p q m dp = .inl (e, a) := by
  unfold belS
  rw [if_neg hm, if_neg hd, if_neg (by omega), ht]
theorem take_getD {M : List Int} {q i : Nat} (h : i < q) : (M.take q).getD i 0 = M.getD i 0 := by
  simp [List.getD_eq_getElem?_getD, h]
theorem take_u8 {M : List Int} (h : U8s M) (q : Nat) : U8s (M.take q) := fun x hx => h x (List.mem_of_mem_take hx)
theorem belS_ok {M : List Int} (hM : U8s M) {p q m dp : Nat} (hq : q ≤ M.length) {t l : Int} {j : Nat} (h : belS M p q m dp = .inr (t, l, j)) :
    p < j ∧ j ≤ q ∧ 0 ≤ t ∧ t ≤ 268435455 ∧ (l = -1 ∧ M.getD p 0 / 32 % 2 = 1 ∨ 0 ≤ l ∧ j + l ≤ q) := by
  obtain ⟨h1, h2, h3⟩ := belS_many h
  have hl : (M.take q).length = q := by rw [List.length_take]; omega
  cases ht : tagS (M.take q) p with
  | inl x =>
    obtain ⟨e, a⟩ := x
    rw [belS_tag h1 h2 h3 ht] at h
    cases h
  | inr x =>
    obtain ⟨t', i⟩ := x
    have h4 := tagS_ok (take_u8 hM q) (by omega) ht
    rw [belS_at h1 h2 h3 ht] at h
    split at h
    · cases h
    · rename_i l' j' hb
      have h5 := blen_ok (take_u8 hM q) hb
      cases h
      rw [hl] at h4 h5
      refine ⟨by omega, h5.2.1, by omega, by omega, ?_⟩
      rcases h5.2.2 with h6 | h6
      · exact .inl ⟨h6.1, by simpa using h6.2⟩
      · exact .inr ⟨h6.1, h6.2.1⟩
theorem belS_bad {M : List Int} (hM : U8s M) {p q m dp : Nat} (hq : q ≤ M.length) (hp : p ≤ q) {e : Int} {a : Nat} (h : belS M p q m dp = .inl (e, a)) : p ≤ a ∧ a ≤ q ∧ 0 < e := by
  have hl : (M.take q).length = q := by rw [List.length_take]; omega
  unfold belS at h
  split at h
  · cases h; omega
  split at h
  · cases h; omega
  split at h
  · cases h; omega
  split at h
  · rename_i e' a' ht
    have := tagS_bad (by omega) ht
    cases h; omega
  · rename_i t' i' ht
    have h4 := tagS_ok (take_u8 hM q) (by omega) ht
    split at h
    · rename_i e' a' hb
      have := blen_bad (by omega) hb
      cases h; omega
    · cases h
end Go.Proofs.YtefebamomdcaaaaGreatDoor
/-
  Ber: bytes that are read as an element are none with more behind them, nor cut: over lists of bytes; no Go text in sight.
-/
namespace Go.Proofs.YtefebamomdcaaaaGreatDoor
open Go.RowKit
theorem lng_more {A A' : List Int} (hl : A.length ≤ A'.length) (hg : ∀ i, i < A.length → A'.getD i 0 = A.getD i 0) : ∀ f i t, A.length - i = f → ∀ v j, lng A i t = .inr (v, j) → lng A' i t = .inr (v, j)
  | 0, i, t, hf, v, j, h => by rw [lng_end (by omega)] at h; cases h
  | f + 1, i, t, hf, v, j, h => by
    rw [lng_step (by omega) rfl rfl] at h
    rw [lng_step (by omega) (hg i (by omega)) rfl]
    split at h
    · cases h
    · rename_i h1
      rw [if_neg h1]
      split at h
      · rename_i h2; rw [if_pos h2]; exact h
      · rename_i h2; rw [if_neg h2]; exact lng_more hl hg f (i + 1) _ (by omega) v j h
theorem tagS_more {A A' : List Int} (hl : A.length ≤ A'.length) (hg : ∀ i, i < A.length → A'.getD i 0 = A.getD i 0) {p : Nat} (hp : p < A.length) {v : Int} {j : Nat} (h : tagS A p = .inr (v, j)) : tagS A' p = .inr (v, j) := by
  unfold tagS at h ⊢
  rw [hg p hp]
  split at h
  · rename_i h1; rw [if_pos h1]; exact lng_more hl hg _ _ _ rfl v j h
  · rename_i h1
    rw [if_neg h1]
    split at h
    · cases h
    · rename_i h2; rw [if_neg h2]; exact h
theorem fold8_more {A A' : List Int} (hg : ∀ i, i < A.length → A'.getD i 0 = A.getD i 0) {i : Nat} : ∀ k, i + k ≤ A.length → fold8 A' i k = fold8 A i k
  | 0, _ => rfl
  | k + 1, h => by
    show min (fold8 A' i k * 256 + A'.getD (i + k) 0) 16777217 = min (fold8 A i k * 256 + A.getD (i + k) 0) 16777217
    rw [fold8_more hg k (by omega), hg (i + k) (by omega)]
theorem blen_more {A A' : List Int} (hl : A.length ≤ A'.length) (hg : ∀ i, i < A.length → A'.getD i 0 = A.getD i 0) {i : Nat} {co : Bool} {v : Int} {j : Nat} (h : blen A i co = .inr (v, j)) : blen A' i co = .inr (v, j) := by
  unfold blen at h ⊢
  split at h
  · cases h
  rename_i h0
  rw [if_neg (by omega), hg i (by omega)]
  split at h
  · cases h
  rename_i h1
  rw [if_neg h1]
  split at h
  · rename_i h2; rw [if_pos h2]; exact h
  rename_i h2
  rw [if_neg h2]
  split at h
  · rename_i h3
    rw [if_pos h3]
    split at h
    · cases h
    · rename_i h4; rw [if_neg (by omega)]; exact h
  rename_i h3
  rw [if_neg h3]
  split at h
  · cases h
  rename_i h4
  rw [if_neg (by omega), fold8_more hg _ (by omega)]
  split at h
  · cases h
  rename_i h5
  rw [if_neg (by omega)]; exact h
/-- An element has two bytes at least. -/
theorem belS_two {M : List Int} (hM : U8s M) {p q m dp : Nat} (hq : q ≤ M.length) {t l : Int} {j : Nat} (h : belS M p q m dp = .inr (t, l, j)) : p + 1 < j ∧ j ≤ q := by
  obtain ⟨h1, h2, h3⟩ := belS_many h
  have hl : (M.take q).length = q := by rw [List.length_take]; omega
  cases ht : tagS (M.take q) p with
  | inl x =>
    obtain ⟨e, a⟩ := x
    rw [belS_tag h1 h2 h3 ht] at h
    cases h
  | inr x =>
    obtain ⟨t', i⟩ := x
    have h4 := tagS_ok (take_u8 hM q) (by omega) ht
    rw [belS_at h1 h2 h3 ht] at h
    split at h
    · cases h
    · rename_i l' j' hb
      have h5 := blen_ok (take_u8 hM q) hb
      cases h
      omega
theorem belS_more {M M' : List Int} {n : Nat} (hn : M.length = n) (hg : ∀ i, i < n → M'.getD i 0 = M.getD i 0) {p q q' m dp : Nat} (hq : q ≤ n) (hqq : q ≤ q') (hq' : q' ≤ M'.length) {t l : Int} {j : Nat} (h : belS M p q m dp = .inr (t, l, j)) : belS M' p q' m dp = .inr (t, l, j) := by
  obtain ⟨h1, h2, h3⟩ := belS_many h
  have hl : (M.take q).length = q := by rw [List.length_take]; omega
  have hl' : (M'.take q').length = q' := by rw [List.length_take]; omega
  have hg' : ∀ i, i < (M.take q).length → (M'.take q').getD i 0 = (M.take q).getD i 0 := fun i hi => by
    rw [hl] at hi
    rw [take_getD (by omega), take_getD hi, hg i (by omega)]
  cases ht : tagS (M.take q) p with
  | inl x =>
    obtain ⟨e, a⟩ := x
    rw [belS_tag h1 h2 h3 ht] at h
    cases h
  | inr x =>
    obtain ⟨t', i⟩ := x
    rw [belS_at h1 h2 h3 ht] at h
    rw [belS_at h1 h2 (by omega) (tagS_more (by omega) hg' (by omega) ht), hg p (by omega)]
    split at h
    · cases h
    · rename_i l' j' hb
      rw [blen_more (by omega) hg' hb]
      exact h
/-- Parts of a row of bytes, and of a longer one: open ones may end later. -/
def Wid (n n' : Nat) : List Prt → List Prt → Prop
  | [], [] => True
  | x :: S, x' :: S' => x.1 = x'.1 ∧ x.2 ≤ n ∧ x'.2 ≤ n' ∧ x.2 ≤ x'.2 ∧ (x.1 = false → x.2 = x'.2) ∧ Wid n n' S S'
  | _, _ => False
theorem Wid.len {n n' : Nat} : ∀ {S S' : List Prt}, Wid n n' S S' → S.length = S'.length
  | [], [], _ => rfl
  | _ :: S, _ :: S', h => by simp [Wid.len (S := S) (S' := S') h.2.2.2.2.2]
  | [], _ :: _, h => h.elim
  | _ :: _, [], h => h.elim
theorem cls_more {M M' : List Int} {n n' : Nat} (hg : ∀ i, i < n → M'.getD i 0 = M.getD i 0) : ∀ {S S' : List Prt} {p : Nat}, Wid n n' S S' → (∀ x T p1, cls M p S = (p1, x :: T) → p1 + 1 < x.2) → ∃ T', cls M' p S' = ((cls M p S).1, T') ∧ Wid n n' (cls M p S).2 T'
  | [], [], p, _, _ => ⟨[], rfl, trivial⟩
  | [], _ :: _, _, h, _ => h.elim
  | _ :: _, [], _, h, _ => h.elim
  | (o, u) :: S, (o', u') :: S', p, h, hgo => by
    obtain ⟨h1, h2, h3, h4, h5, h6⟩ := h
    simp only [] at h1 h2 h3 h4 h5
    subst h1
    by_cases he : ends M p (o, u) = true
    · have he' : ends M' p (o, u') = true := by
        unfold ends at he ⊢
        cases o with
        | false => have := h5 rfl; simp at he ⊢; omega
        | true =>
          simp only [if_true, decide_eq_true_eq] at he ⊢
          rw [hg p (by omega), hg (p + 1) (by omega)]
          exact ⟨by omega, he.2⟩
      have hc : cls M p ((o, u) :: S) = cls M (if o = true then p + 2 else p) S := by rw [cls, if_pos he]
      have hc' : cls M' p ((o, u') :: S') = cls M' (if o = true then p + 2 else p) S' := by rw [cls, if_pos he']
      rw [hc, hc']
      exact cls_more hg h6 fun x T p1 h => hgo x T p1 (by rw [hc]; exact h)
    · have hc : cls M p ((o, u) :: S) = (p, (o, u) :: S) := by rw [cls, if_neg he]
      have hgo := hgo _ _ _ hc
      simp only [] at hgo
      have he' : ¬ ends M' p (o, u') = true := by
        unfold ends at he ⊢
        cases o with
        | false => have := h5 rfl; simp at he ⊢; omega
        | true =>
          simp only [if_true, decide_eq_true_eq] at he ⊢
          rw [hg p (by omega), hg (p + 1) (by omega)]
          exact fun h => he ⟨by omega, h.2⟩
      have hc' : cls M' p ((o, u') :: S') = (p, (o, u') :: S') := by rw [cls, if_neg he']
      rw [hc, hc']
      exact ⟨_, rfl, rfl, h2, h3, h4, h5, h6⟩
theorem prF_more {M M' : List Int} {n n' : Nat} (hM : U8s M) (hn : M.length = n) (hn' : M'.length = n') (hg : ∀ i, i < n → M'.getD i 0 = M.getD i 0) : ∀ (f p q q' : Nat) (S S' : List Prt) (L : List Te) (R : Nat × List Te), Wid n n' S S' → q ≤ n → q ≤ q' → q' ≤ n' → prF M f p q S L = .inr R → prF M' f p q' S' L = .inr R
  | 0, _, _, _, _, _, _, _, _, _, _, _, h => by cases h
  | f + 1, p, q, q', S, S', L, R, hS, hq, hqq, hq', h => by
    cases hb : belS M p q L.length S.length with
    | inl e => rw [prF, hb] at h; cases h
    | inr x =>
      obtain ⟨t, l, j⟩ := x
      have h3 := (belS_many hb).2.2
      have hok := belS_ok hM (by omega) hb
      have hb' := belS_more hn hg hq hqq (by omega) hb
      rw [hS.len] at hb'
      have hgp := hg p (by omega)
      have hP : belP M' p l j = belP M p l j := by unfold belP; rw [hgp]
      have hE : belE M' p S'.length t l j = belE M p S.length t l j := by
        unfold belE
        rw [hgp, hS.len]
        split
        · rfl
        · congr 1
          refine List.ext_getElem? fun k => ?_
          rw [List.getElem?_take, List.getElem?_take]
          split
          · rw [List.getElem?_drop, List.getElem?_drop]
            have := hg (j + k) (by omega)
            rw [List.getD_eq_getElem?_getD, List.getD_eq_getElem?_getD, List.getElem?_eq_getElem (by omega), List.getElem?_eq_getElem (by omega)] at this
            rw [List.getElem?_eq_getElem (by omega), List.getElem?_eq_getElem (by omega)]
            simpa using this
          · rfl
      have hT : Wid n n' (belT M p q l j S) (belT M' p q' l j S') := by
        unfold belT
        rw [hgp]
        split
        · split
          · exact ⟨rfl, hq, hq', hqq, (fun h => by cases h), hS⟩
          · exact ⟨rfl, (by simp only []; omega), (by simp only []; omega), Nat.le_refl _, fun _ => rfl, hS⟩
        · exact hS
      rw [prF, hb] at h
      rw [prF, hb']
      simp only [] at h ⊢
      rw [hP, hE]
      have hgo : ∀ x T p1, cls M (belP M p l j) (belT M p q l j S) = (p1, x :: T) → p1 + 1 < x.2 ∧ x.2 ≤ n := fun x T p1 hc => by
        have hx : x.2 ≤ n := by
          have : ∀ (S S' : List Prt) (p p1 : Nat) (x : Prt) (T : List Prt), Wid n n' S S' → cls M p S = (p1, x :: T) → x.2 ≤ n := by
            intro S
            induction S with
            | nil => intro S' p p1 x T _ h; simp [cls] at h
            | cons y S ih =>
              intro S' p p1 x T hw h
              cases S' with
              | nil => exact hw.elim
              | cons y' S' =>
                rw [cls] at h
                split at h
                · exact ih S' _ _ _ _ hw.2.2.2.2.2 h
                · cases h; exact hw.2.1
          exact this _ _ _ _ _ _ hT hc
        rw [hc] at h
        simp only [] at h
        refine ⟨?_, hx⟩
        cases f with
        | zero => cases h
        | succ f =>
          cases hb2 : belS M p1 x.2 (L ++ [belE M p S.length t l j]).length (x :: T).length with
          | inl e => rw [prF, hb2] at h; cases h
          | inr y => obtain ⟨t2, l2, j2⟩ := y; have := belS_two hM (by omega) hb2; omega
      obtain ⟨T', hc', hw'⟩ := cls_more hg hT fun x T p1 hc => (hgo x T p1 hc).1
      rw [hc']
      cases hc : cls M (belP M p l j) (belT M p q l j S) with
      | mk p1 T =>
        rw [hc] at h hw'
        simp only [] at h hw' ⊢
        cases T with
        | nil => cases T' with
          | nil => exact h
          | cons _ _ => exact hw'.elim
        | cons x T => cases T' with
          | nil => exact hw'.elim
          | cons x' T' =>
            simp only [] at h ⊢
            exact prF_more hM hn hn' hg f p1 x.2 x'.2 (x :: T) (x' :: T') _ R hw' hw'.2.1 hw'.2.2.2.1 hw'.2.2.1 h
/-- Parts about a place: none ends ahead of it, nor behind the part about it. -/
def Nst (n : Nat) : Nat → List Prt → Prop
  | q, [] => q ≤ n
  | q, x :: S => q ≤ x.2 ∧ Nst n x.2 S
theorem Nst.mono {n q q' : Nat} {S : List Prt} (h : Nst n q S) (hq : q' ≤ q) : Nst n q' S := by
  cases S with
  | nil => exact Nat.le_trans hq h
  | cons x S => exact ⟨Nat.le_trans hq h.1, h.2⟩
theorem Nst.le {n : Nat} : ∀ {q : Nat} {S : List Prt}, Nst n q S → q ≤ n
  | _, [], h => h
  | _, _ :: _, h => Nat.le_trans h.1 (Nst.le h.2)
theorem Nst.cls {M : List Int} {n : Nat} : ∀ {S : List Prt} {p : Nat}, Nst n p S → Nst n (cls M p S).1 (cls M p S).2
  | [], _, h => h
  | (o, u) :: S, p, h => by
    by_cases he : ends M p (o, u) = true
    · rw [Go.Proofs.YtefebamomdcaaaaGreatDoor.cls, if_pos he]
      refine Nst.cls (h.2.mono ?_)
      unfold ends at he
      cases o with
      | false => simp at he ⊢; omega
      | true => simp at he ⊢; omega
    · rw [Go.Proofs.YtefebamomdcaaaaGreatDoor.cls, if_neg he]; exact h
theorem prF_in {M : List Int} {n : Nat} (hM : U8s M) (hn : M.length = n) : ∀ (f p q : Nat) (S : List Prt) (L : List Te), p ≤ q → Nst n q S → (∀ e a, prF M f p q S L = .inl (e, a) → a ≤ n ∧ 0 < e) ∧ ∀ p' L', prF M f p q S L = .inr (p', L') → p' ≤ n
  | 0, p, q, S, L, hp, hS => ⟨fun e a h => by have := hS.le; cases h; omega, fun _ _ h => by cases h⟩
  | f + 1, p, q, S, L, hp, hS => by
    have hqn := hS.le
    cases hb : belS M p q L.length S.length with
    | inl x =>
      obtain ⟨e0, a0⟩ := x
      have h1 := belS_bad hM (by omega) hp hb
      constructor
      · intro e a h
        rw [prF, hb] at h
        cases h; omega
      · intro p' L' h
        rw [prF, hb] at h
        cases h
    | inr x =>
      obtain ⟨t, l, j⟩ := x
      have hok := belS_ok hM (by omega) hb
      have hT : Nst n (belP M p l j) (belT M p q l j S) := by
        unfold belP belT
        split
        · split
          · exact ⟨hok.2.1, hS⟩
          · exact ⟨by simp only []; omega, hS.mono (by simp only []; omega)⟩
        · refine hS.mono ?_
          omega
      have hC := Nst.cls (M := M) hT
      rw [prF, hb]
      simp only []
      cases hc : cls M (belP M p l j) (belT M p q l j S) with
      | mk p1 T =>
        rw [hc] at hC
        simp only [] at hC ⊢
        cases T with
        | nil =>
          constructor
          · intro e a h; cases h
          · intro p' L' h; cases h; exact hC
        | cons x T => exact prF_in hM hn f p1 x.2 (x :: T) _ hC.1 ⟨Nat.le_refl _, hC.2⟩
/-- More behind. -/
theorem parse_more {b m : List Int} (hb : U8s b) {L : List Te} (h : parseS b = .inr L) (hm : m ≠ []) (hl : (b ++ m).length ≤ 16777216) : parseS (b ++ m) = .inl (33, b.length) := by
  unfold parseS at h ⊢
  rw [if_neg (by omega)]
  rw [List.length_append] at hl
  rw [if_neg (by omega)] at h
  have hml : 0 < m.length := by cases m with
    | nil => exact absurd rfl hm
    | cons x r => simp
  cases hp : pr b 0 b.length [] [] with
  | inl e => rw [hp] at h; cases h
  | inr x =>
    obtain ⟨p, L'⟩ := x
    rw [hp] at h
    simp only [] at h
    have hpn : p ≤ b.length := (prF_in hb rfl _ 0 b.length [] [] (by omega) (Nat.le_refl b.length)).2 p L' hp
    split at h
    · cases h
    · have h1 := prF_more hb rfl rfl (M' := b ++ m) (fun i hi => by simp [List.getD_eq_getElem?_getD, List.getElem?_append_left hi]) _ 0 b.length (b ++ m).length [] [] [] (p, L') trivial (Nat.le_refl _) (by simp) (Nat.le_refl _) hp
      have h2 : pr (b ++ m) 0 (b ++ m).length [] [] = .inr (p, L') := h1
      rw [h2]
      simp only []
      rw [if_pos (by rw [List.length_append]; omega), show p = b.length by omega]
theorem parse_in {b : List Int} (hb : U8s b) {e : Int} {a : Nat} (h : parseS b = .inl (e, a)) : a ≤ b.length ∧ 0 < e := by
  unfold parseS at h
  split at h
  · cases h; omega
  cases hp : pr b 0 b.length [] [] with
  | inl x =>
    obtain ⟨e', a'⟩ := x
    rw [hp] at h
    cases h
    exact (prF_in hb rfl _ 0 b.length [] [] (by omega) (Nat.le_refl b.length)).1 e a hp
  | inr x =>
    obtain ⟨p, L'⟩ := x
    have hpn : p ≤ b.length := (prF_in hb rfl _ 0 b.length [] [] (by omega) (Nat.le_refl b.length)).2 p L' hp
    rw [hp] at h
    simp only [] at h
    split at h
    · cases h; omega
    · cases h
/-- Cut. -/
theorem parse_cut {b : List Int} (hb : U8s b) {L : List Te} (h : parseS b = .inr L) (hl : b.length ≤ 16777216) {k : Nat} (hk : k < b.length) : ∃ e a, parseS (b.take k) = .inl (e, a) ∧ a ≤ k ∧ 0 < e := by
  have hkl : (b.take k).length = k := by rw [List.length_take]; omega
  cases hp : parseS (b.take k) with
  | inl x =>
    obtain ⟨e, a⟩ := x
    have := parse_in (take_u8 hb k) hp
    exact ⟨e, a, rfl, by omega, this.2⟩
  | inr L2 =>
    have := parse_more (take_u8 hb k) hp (m := b.drop k) (by intro h0; have := congrArg List.length h0; simp at this; omega) (by rw [List.take_append_drop]; exact hl)
    rw [List.take_append_drop, h] at this
    cases this
end Go.Proofs.YtefebamomdcaaaaGreatDoor
/-
  Ber: bytes of heads and lengths; what is laid is read as it was, over lists of bytes; no Go text in sight (picked from the texts of layer 4: wip/pick.py).
-/
namespace Go.Proofs.YtefebamomdcaaaaGreatDoor
open Go.RowKit
/-- A group of seven bits that another follows. -/
def gr (n j : Nat) : Int := ((n / 128 ^ j % 128 + 128 : Nat) : Int)
/-- The first i of the groups k, k - 1, .. -/
def tp (n k : Nat) : Nat → List Int
  | 0 => []
  | i + 1 => tp n k i ++ [gr n (k - i)]
def sev (k n : Nat) : List Int := tp n k k ++ [((n % 128 : Nat) : Int)]
theorem tp_len (n k : Nat) : ∀ i, (tp n k i).length = i
  | 0 => rfl
  | i + 1 => by show (tp n k i ++ [_]).length = _; rw [List.length_append, tp_len n k i]; rfl
theorem or_128 (x : Int) (h : U8 x) : bits .or .u8 x 128 = x % 128 + 128 := by
  obtain ⟨h0, h1⟩ := h
  obtain ⟨k, rfl⟩ := Int.eq_ofNat_of_zero_le h0
  have : ∀ y : Fin 256, bits .or .u8 ((y : Nat) : Int) 128 = ((y : Nat) : Int) % 128 + 128 := by decide +kernel
  exact this ⟨k, by omega⟩
theorem wrapU8 (z : Int) (h0 : 0 ≤ z) (h1 : z < 256) : IntKind.u8.wrap z = z := by rw [IntKind.wrap_u8]; omega
theorem div_sev (n j s : Nat) (hs : s = 7 * j) : (n : Int) / 2 ^ s = ((n / 128 ^ j : Nat) : Int) := by
  subst hs
  rw [Int.pow_mul]
  simp
theorem Row.drew {k : IntKind} {e : TypeId} {B : Nat} {w : World} {v : Value} {xs : List Int} (h : Row k e B w v xs) : Row k e B w.drew v xs :=
  h.below ⟨rfl, rfl, rfl, Nat.le_refl _, fun _ _ => rfl⟩
def by8 (n j : Nat) : Int := ((n / 256 ^ j % 256 : Nat) : Int)
/-- The first i of the bytes c - 1, c - 2, .. -/
def tb (n c : Nat) : Nat → List Int
  | 0 => []
  | i + 1 => tb n c i ++ [by8 n (c - 1 - i)]
theorem tb_len (n c : Nat) : ∀ i, (tb n c i).length = i
  | 0 => rfl
  | i + 1 => by show (tb n c i ++ [_]).length = _; rw [List.length_append, tb_len n c i]; rfl
def lenB (n c : Nat) : List Int := if n < 128 then [(n : Int)] else (128 + (c : Int)) :: tb n c c
theorem div_by8 (n j s : Nat) (hs : s = 8 * j) : (n : Int) / 2 ^ s = ((n / 256 ^ j : Nat) : Int) := by
  subst hs
  rw [Int.pow_mul]
  simp
def frst (class_ : Int) (cons : Bool) : Int := class_ * 64 + (if cons then 32 else 0)
def headB (class_ : Int) (cons : Bool) (tag k : Nat) : List Int := if tag < 31 then [frst class_ cons + tag] else (frst class_ cons + 31) :: sev k tag
theorem or_low (a t : Nat) (ha : a < 8) (ht : t < 32) : bits .or .u8 (32 * (a : Int)) (t : Int) = 32 * (a : Int) + t := by
  have : ∀ (a : Fin 8) (t : Fin 32), bits .or .u8 (32 * ((a : Nat) : Int)) ((t : Nat) : Int) = 32 * ((a : Nat) : Int) + ((t : Nat) : Int) := by decide +kernel
  exact this ⟨a, ha⟩ ⟨t, ht⟩
theorem or_31 (a : Nat) (ha : a < 8) : bits .or .u8 (32 * (a : Int)) 31 = 32 * (a : Int) + 31 := or_low a 31 ha (by decide)
theorem or_c0 : bits .or .u8 0 32 = 32 := by decide +kernel
theorem or_c1 : bits .or .u8 64 32 = 96 := by decide +kernel
theorem or_c2 : bits .or .u8 128 32 = 160 := by decide +kernel
theorem or_c3 : bits .or .u8 192 32 = 224 := by decide +kernel
def headOk (class_ tag : Int) : Bool := decide (0 ≤ class_ ∧ class_ ≤ 3 ∧ 0 ≤ tag ∧ tag ≤ 268435455 ∧ ¬ (class_ = 0 ∧ tag = 0))
/-- M reads e from place p on. -/
def At (M : List Int) (p : Nat) (e : List Int) : Prop := p + e.length ≤ M.length ∧ ∀ q, q < e.length → M.getD (p + q) 0 = e.getD q 0
theorem At.left {M : List Int} {p : Nat} {a b : List Int} (h : At M p (a ++ b)) : At M p a := by
  obtain ⟨h1, h2⟩ := h
  rw [List.length_append] at h1 h2
  refine ⟨by omega, fun q hq => ?_⟩
  rw [h2 q (by omega)]
  simp [List.getD, List.getElem?_append_left hq]
theorem At.right {M : List Int} {p : Nat} {a b : List Int} (h : At M p (a ++ b)) : At M (p + a.length) b := by
  obtain ⟨h1, h2⟩ := h
  rw [List.length_append] at h1 h2
  refine ⟨by omega, fun q hq => ?_⟩
  have := h2 (a.length + q) (by omega)
  rw [← Nat.add_assoc] at this
  rw [this]
  simp [List.getD, List.getElem?_append_right (show a.length ≤ a.length + q by omega)]
theorem At.take {M : List Int} {p : Nat} {e : List Int} (h : At M p e) : (M.drop p).take e.length = e := by
  obtain ⟨h1, h2⟩ := h
  refine List.ext_getElem (by simp; omega) fun q hq hq' => ?_
  have := h2 q hq'
  simp only [List.getElem_take, List.getElem_drop]
  rw [List.getD_eq_getElem?_getD, List.getD_eq_getElem?_getD, List.getElem?_eq_getElem (by omega), List.getElem?_eq_getElem hq'] at this
  simpa using this
theorem tp_get (n k : Nat) : ∀ i q, q < i → (tp n k i).getD q 0 = gr n (k - q)
  | 0, q, h => by omega
  | i + 1, q, h => by
    show (tp n k i ++ [gr n (k - i)]).getD q 0 = _
    by_cases hq : q < i
    · have := tp_get n k i q hq
      simp only [List.getD_eq_getElem?_getD] at this ⊢
      rw [List.getElem?_append_left (by rw [tp_len]; exact hq)]; exact this
    · obtain rfl : q = i := by omega
      simp [List.getD, tp_len]
theorem tb_get (n c : Nat) : ∀ i q, q < i → (tb n c i).getD q 0 = by8 n (c - 1 - q)
  | 0, q, h => by omega
  | i + 1, q, h => by
    show (tb n c i ++ [by8 n (c - 1 - i)]).getD q 0 = _
    by_cases hq : q < i
    · have := tb_get n c i q hq
      simp only [List.getD_eq_getElem?_getD] at this ⊢
      rw [List.getElem?_append_left (by rw [tb_len]; exact hq)]; exact this
    · obtain rfl : q = i := by omega
      simp [List.getD, tb_len]
theorem sev_len (k n : Nat) : (sev k n).length = k + 1 := by unfold sev; rw [List.length_append, tp_len]; rfl
theorem sev_get (k n q : Nat) (hq : q < k) : (sev k n).getD q 0 = gr n (k - q) := by
  have := tp_get n k k q hq
  unfold sev
  simp only [List.getD_eq_getElem?_getD] at this ⊢
  rw [List.getElem?_append_left (by rw [tp_len]; exact hq)]; exact this
theorem sev_last (k n : Nat) : (sev k n).getD k 0 = ((n % 128 : Nat) : Int) := by
  unfold sev
  simp [List.getD, tp_len]
theorem gr_step (n j : Nat) : n / 128 ^ (j + 1) * 128 + n / 128 ^ j % 128 = n / 128 ^ j := by
  rw [Nat.pow_succ, ← Nat.div_div_eq_div_mul]; omega
/-- A long tag is read as it was laid. -/
theorem lng_sev {M : List Int} {p : Nat} (k n : Nat) (hA : At M p (sev k n)) (hk : n / 128 ^ k < 128) (hk1 : ∀ j, j < k → 128 ≤ n / 128 ^ j) (h31 : 31 ≤ n) (hn : n ≤ 268435455) :
    lng M p 0 = .inr ((n : Int), (p + k + 1)) := by
  have hl := hA.1
  rw [sev_len] at hl
  have key : ∀ d i, i + d = k → ∀ t : Nat, (i = 0 → t = 0) → (0 < i → t = n / 128 ^ (d + 1)) → lng M (p + i) (t : Int) = .inr ((n : Int), (p + k + 1)) := by
    intro d
    induction d with
    | zero =>
      intro i hi t h0 h1
      obtain rfl : i = k := by omega
      have hx := hA.2 i (by rw [sev_len]; omega)
      rw [sev_last] at hx
      have ht : t * 128 + n % 128 = n := by
        by_cases hi0 : i = 0
        · subst hi0
          have := h0 rfl
          subst this
          simp at hk
          omega
        · have := h1 (by omega)
          rw [this]
          have := gr_step n 0
          simp at this ⊢
          omega
      rw [lng_step (by omega) hx rfl, if_neg (by omega), if_pos (by omega)]
      refine congrArg Sum.inr (Prod.ext ?_ ?_)
      · simp only []; omega
      · simp only []
    | succ d ih =>
      intro i hi t h0 h1
      have hx := hA.2 i (by rw [sev_len]; omega)
      rw [sev_get k n i (by omega), show k - i = d + 1 by omega] at hx
      obtain ⟨v, hv⟩ : ∃ v, n / 128 ^ (d + 1) = v := ⟨_, rfl⟩
      have hgr : gr n (d + 1) = ((v % 128 + 128 : Nat) : Int) := by unfold gr; rw [hv]
      rw [hgr] at hx
      have hvn : v ≤ n := by rw [← hv]; exact Nat.div_le_self _ _
      have hv1 : 1 ≤ v := by
        have := hk1 d (by omega)
        have h3 := gr_step n d
        rw [hv] at h3
        omega
      have ht : t * 128 + v % 128 = v := by
        by_cases hi0 : i = 0
        · have := h0 hi0
          subst this
          have : v < 128 := by rw [← hv, show d + 1 = k by omega]; exact hk
          omega
        · have h2 := h1 (by omega)
          have h3 := gr_step n (d + 1)
          rw [hv, ← h2] at h3
          exact h3
      rw [lng_step (t' := (v : Int)) (by omega) hx (by omega), if_neg (by omega), if_neg (by omega)]
      have := ih (i + 1) (by omega) v (by omega) (fun _ => hv.symm)
      rw [Nat.add_assoc]
      exact this
  have := key k 0 (by omega) 0 (fun _ => rfl) (by omega)
  simpa using this
theorem by8_step (n j : Nat) : n / 256 ^ (j + 1) * 256 + n / 256 ^ j % 256 = n / 256 ^ j := by
  rw [Nat.pow_succ, ← Nat.div_div_eq_div_mul]; omega
theorem lenB_len (n c : Nat) : (lenB n c).length = if n < 128 then 1 else c + 1 := by
  unfold lenB
  split
  · rfl
  · rw [List.length_cons, tb_len]
theorem headB_len (cl : Int) (co : Bool) (t k : Nat) : (headB cl co t k).length = if t < 31 then 1 else k + 2 := by
  unfold headB
  split
  · rfl
  · rw [List.length_cons, sev_len]
theorem tagS_head {M : List Int} {p : Nat} (cl : Int) (co : Bool) (t k : Nat) (hA : At M p (headB cl co t k)) (h : headOk cl t = true) (hk : t / 128 ^ k < 128) (hk1 : ∀ j, j < k → 128 ≤ t / 128 ^ j) :
    tagS M p = .inr ((t : Int), (p + (headB cl co t k).length)) ∧ M.getD p 0 / 64 = cl ∧ decide (M.getD p 0 / 32 % 2 = 1) = co := by
  have hh : 0 ≤ cl ∧ cl ≤ 3 ∧ (t : Int) ≤ 268435455 ∧ ¬ (cl = 0 ∧ (t : Int) = 0) := by unfold headOk at h; simp at h; omega
  have hco : (if co then (32 : Int) else 0) = 0 ∧ co = false ∨ (if co then (32 : Int) else 0) = 32 ∧ co = true := by cases co <;> simp
  rw [headB_len]
  by_cases ht : t < 31
  · have hx := hA.2 0 (by rw [headB_len, if_pos ht]; omega)
    rw [show (headB cl co t k).getD 0 0 = frst cl co + t by unfold headB; rw [if_pos ht]; rfl, Nat.add_zero] at hx
    unfold frst at hx
    obtain ⟨z, hz⟩ : ∃ z : Int, (if co then (32 : Int) else 0) = z := ⟨_, rfl⟩
    rw [hz] at hx hco
    rw [if_pos ht]
    refine ⟨?_, by omega, ?_⟩
    · unfold tagS
      rw [hx, show (cl * 64 + z + (t : Int)) % 32 = t by omega, if_neg (by omega), if_neg (by omega)]
    · rw [hx]
      rcases hco with ⟨h1, rfl⟩ | ⟨h1, rfl⟩
      · simp; omega
      · simp; omega
  · have hB : headB cl co t k = (frst cl co + 31) :: sev k t := by unfold headB; rw [if_neg ht]
    rw [hB] at hA
    have hx := hA.2 0 (by simp)
    rw [Nat.add_zero] at hx
    have hx : M.getD p 0 = frst cl co + 31 := by rw [hx]; rfl
    unfold frst at hx
    obtain ⟨z, hz⟩ : ∃ z : Int, (if co then (32 : Int) else 0) = z := ⟨_, rfl⟩
    rw [hz] at hx hco
    rw [if_neg ht]
    have hA' : At M (p + 1) (sev k t) := by
      have : At M p ([cl * 64 + z + 31] ++ sev k t) := by
        have := hA
        unfold frst at this
        rw [hz] at this
        exact this
      exact this.right
    refine ⟨?_, by omega, ?_⟩
    · unfold tagS
      rw [hx, if_pos (by omega), lng_sev k t hA' hk hk1 (by omega) (by omega)]
      refine congrArg Sum.inr (Prod.ext ?_ ?_)
      · simp only []
      · simp only []; omega
    · rw [hx]
      rcases hco with ⟨h1, rfl⟩ | ⟨h1, rfl⟩
      · simp; omega
      · simp; omega
end Go.Proofs.YtefebamomdcaaaaGreatDoor
