/-
  Der: the reader's next byte.
-/
import Derived.BigQuiet
import Derived.Deep.QuietTactic
import Derived.Deep.CutRange
import Derived.Laws.MathBits
import Derived.Laws.BytesArg
import Derived.Lib.OthersKept
import Derived.Laws.RangeString
import Derived.Lib.Tables
import Derived.Deep.RegionHeld3
import Derived.Test.YtjmiaakfdclfjaaGreatDoorK13
namespace Go.Proofs.YtjmiaakfdclfjaaGreatDoor
open Go.RowKit
theorem wp_gen {P : Program} {c : Code} {Q : Exit → Act → World → Prop} {a : Act} {W : World} (R : World → Prop) (hR : R W) (h : ∀ W', R W' → Code.wp P c Q a W') : Code.wp P c Q a W := h W hR
theorem Upd.old {w w1 w2 : World} {o : Obj} {g : Nat} (h : Upd (w.alloc o) w1 g) (h2 : Upd w1 w2 w.heap.size) : Upd w w2 g := by
  have hs := (al1 (w := w) o).size
  have h1 := h.size
  refine ⟨h2.os.trans h.os, h2.tape.trans h.tape, h2.output.trans h.output, by have := h2.size; omega, fun j hj hne => ?_⟩
  rw [h2.block j (by omega) (fun e => by simp at e; omega), h.block j (by omega) hne]
  exact (al1 (w := w) o).block j hj
end Go.Proofs.YtjmiaakfdclfjaaGreatDoor
/-
  Der: decimal numbers of the page's example.
-/
namespace Go.Proofs.YtjmiaakfdclfjaaGreatDoor
open Go.RowKit
end Go.Proofs.YtjmiaakfdclfjaaGreatDoor
/-
  append of elements of m cells each (structs), in the words of Blk.
-/
namespace Go.Proofs.YtjmiaakfdclfjaaGreatDoor
open Go.RowKit

/-- A slice of the call's own whose n elements have m cells each: memory from block B on, the head of a whole block, or nil; its cells are xs. -/
def MRow (m : Nat) (e : TypeId) (B : Nat) (w : World) (v : Value) (n : Nat) (xs : List Value) : Prop :=
  xs.length = n * m ∧ ((v = .slice none 0 0 ∧ n = 0) ∨ ∃ b S c, v = .slice (some ⟨b, 0, none⟩) n c ∧ B ≤ b ∧ Blk e w b S ∧ S.length = c * m ∧ n ≤ c ∧ S.take (n * m) = xs ∧ c ≤ maxLen)
/-- What an append has done: only new memory, or the spare room of v's block has been written. -/
def MGrew (e : TypeId) (w w' : World) (v : Value) : Prop :=
  Below w.heap.size w w' ∨ ∃ b n c S, v = .slice (some ⟨b, 0, none⟩) n c ∧ Blk e w b S ∧ Upd w w' b
theorem MRow.nil (m : Nat) (e : TypeId) (B : Nat) (w : World) : MRow m e B w (.slice none 0 0) 0 [] := ⟨by simp, .inl ⟨rfl, rfl⟩⟩
theorem MRow.below {m : Nat} {e : TypeId} {B : Nat} {w w' : World} {v : Value} {n : Nat} {xs : List Value} (h : MRow m e B w v n xs) (hb : Below w.heap.size w w') : MRow m e B w' v n xs := by
  obtain ⟨h0, h⟩ := h
  refine ⟨h0, ?_⟩
  rcases h with h | ⟨b, S, c, rfl, h1, hA, h2⟩
  · exact .inl h
  · exact .inr ⟨b, S, c, rfl, h1, below_blk hb hA.lt hA, h2⟩
theorem MRow.ne {m : Nat} {e : TypeId} {B : Nat} {w : World} {v : Value} {n : Nat} {xs : List Value} (h : MRow m e B w v n xs) : ∃ a c, v = .slice a n c := by
  rcases h with ⟨_, ⟨rfl, rfl⟩ | ⟨b, S, c, rfl, _⟩⟩
  · exact ⟨_, _, rfl⟩
  · exact ⟨_, _, rfl⟩
theorem MRow.alloc {m : Nat} {e : TypeId} {B : Nat} {w : World} {v : Value} {n : Nat} {xs : List Value} (h : MRow m e B w v n xs) (o : Obj) : MRow m e B (w.alloc o) v n xs :=
  h.below ((Below.refl _ _).alloc (Nat.le_refl _) o)
theorem MGrew.below {m : Nat} {e : TypeId} {B : Nat} {w w' : World} {v : Value} {n : Nat} {xs : List Value} (h : MGrew e w w' v) (hr : MRow m e B w v n xs) (hB : B ≤ w.heap.size) : Below B w w' := by
  rcases h with h | ⟨b, n', c', S, rfl, _, hU⟩
  · exact h.mono hB
  · rcases hr with ⟨_, ⟨h, _⟩ | ⟨b', S', c, h, hb, _⟩⟩
    · cases h
    · simp only [Value.slice.injEq, Option.some.injEq, Addr.mk.injEq, and_true] at h
      obtain ⟨rfl, _, _⟩ := h
      exact hU.below (Below.refl _ _) hB hb
end Go.Proofs.YtjmiaakfdclfjaaGreatDoor
/-
  Der: a short length; bytes copied; a short element.
-/
namespace Go.Proofs.YtjmiaakfdclfjaaGreatDoor
open Go.RowKit
end Go.Proofs.YtjmiaakfdclfjaaGreatDoor
/-
  Der: a short element.
-/
namespace Go.Proofs.YtjmiaakfdclfjaaGreatDoor
open Go.RowKit
theorem Row.upd {k : IntKind} {e : TypeId} {B : Nat} {w w' : World} {v : Value} {xs : List Int} {g : Nat} (h : Row k e B w v xs) (hu : Upd w w' g) (hg : g < B) : Row k e B w' v xs := by
  rcases h with h | ⟨b, S, rfl, h1, hA, h2⟩
  · exact .inl h
  · exact .inr ⟨b, S, rfl, h1, hu.arr hA (by omega), h2⟩
theorem Upd.more {w w1 w2 : World} {g m : Nat} (h1 : Upd w w1 g) (hu : Upd w1 w2 m) (hm : w.heap.size ≤ m) : Upd w w2 g :=
  ⟨hu.os.trans h1.os, hu.tape.trans h1.tape, hu.output.trans h1.output, Nat.le_trans h1.size hu.size, fun j hj hne => (hu.block j (Nat.lt_of_lt_of_le hj h1.size) (fun e => by simp at e; omega)).trans (h1.block j hj hne)⟩
theorem Below.upd {w w' : World} {g : Nat} (h : Below w.heap.size w w') : Upd w w' g := ⟨h.os, h.tape, h.output, h.size, fun j hj _ => h.block j hj⟩
end Go.Proofs.YtjmiaakfdclfjaaGreatDoor
/-
  Der: the page's example of a row of elements.
-/
namespace Go.Proofs.YtjmiaakfdclfjaaGreatDoor
open Go.RowKit
theorem MRow.upd {m : Nat} {e : TypeId} {B : Nat} {w w' : World} {v : Value} {n : Nat} {xs : List Value} {g : Nat} (h : MRow m e B w v n xs) (hu : Upd w w' g) (hg : g < B) : MRow m e B w' v n xs := by
  obtain ⟨h0, h⟩ := h
  refine ⟨h0, ?_⟩
  rcases h with h | ⟨b, S, c, rfl, h1, hA, h2⟩
  · exact .inl h
  · exact .inr ⟨b, S, c, rfl, h1, hu.blk hA (by omega), h2⟩
theorem MRow.at {m : Nat} {e : TypeId} {B : Nat} {w : World} {v : Value} {n : Nat} {xs : List Value} (h : MRow m e B w v n xs) (hn : 0 < n) : ∃ b c, v = .slice (some ⟨b, 0, none⟩) n c ∧ n ≤ c ∧ B ≤ b ∧ b < w.heap.size ∧ ∀ i, i < n * m → w.cell? ⟨b, i, none⟩ = xs[i]? := by
  obtain ⟨h0, h⟩ := h
  rcases h with ⟨_, h⟩ | ⟨b, S, c, rfl, h1, hA, h2, h3, h4, h5⟩
  · omega
  · refine ⟨b, c, rfl, h3, h1, hA.lt, fun i hi => ?_⟩
    rw [hA.cell i, ← h4, List.getElem?_take, if_pos hi]
end Go.Proofs.YtjmiaakfdclfjaaGreatDoor
/-
  Der: the page's example of an object identifier, its numbers.
-/
namespace Go.Proofs.YtjmiaakfdclfjaaGreatDoor
open Go.RowKit
theorem Tryz.und64 : Tryz.prog.underlying 73 = some (.slice 43) := by kernel_rfl
theorem Tryz.info64 : (Tryz.prog.info? 43).map (fun i => (i.zero, i.size, i.bytes)) = some (some (.int .u64 0), 1, 8) := by kernel_rfl
end Go.Proofs.YtjmiaakfdclfjaaGreatDoor
/-
  Der: decimal digits appended; the page's example of an object identifier.
-/
namespace Go.Proofs.YtjmiaakfdclfjaaGreatDoor
open Go.RowKit
end Go.Proofs.YtjmiaakfdclfjaaGreatDoor
/-
  Der: the page's example of an object identifier.
-/
namespace Go.Proofs.YtjmiaakfdclfjaaGreatDoor
open Go.RowKit
end Go.Proofs.YtjmiaakfdclfjaaGreatDoor
/-
  Der: the page's example of an object identifier laid.
-/
namespace Go.Proofs.YtjmiaakfdclfjaaGreatDoor
open Go.RowKit
abbrev exS : ByteArray := ⟨#[50, 46, 57, 57, 57]⟩
def It (w W : World) (pos : Nat) : Prop := W.heap[w.heap.size]? = some (.stringIter exS pos) ∧ Below w.heap.size w W
theorem It.step {w W : World} {pos : Nat} (h : It w W pos) (pos' : Nat) : It w (W.iterAt w.heap.size exS pos') pos' := ⟨Lib.iterAt_heap W _ exS pos pos' h.1, Lib.below_iterAt h.2 (Nat.le_refl _) _ _⟩
theorem It.below {w W W' : World} {pos : Nat} (h : It w W pos) (hb : Below (w.heap.size + 1) W W') : It w W' pos := ⟨by rw [hb.block _ (by omega)]; exact h.1, h.2.trans (hb.mono (by omega))⟩
theorem It.lt {w W : World} {pos : Nat} (h : It w W pos) : w.heap.size < W.heap.size := (Array.getElem?_eq_some_iff.1 h.1).1
end Go.Proofs.YtjmiaakfdclfjaaGreatDoor
/-
  Der: rows of bits.
-/
namespace Go.Proofs.YtjmiaakfdclfjaaGreatDoor
open Go.RowKit
end Go.Proofs.YtjmiaakfdclfjaaGreatDoor
/-
  Der: a few bits as a number.
-/
namespace Go.Proofs.YtjmiaakfdclfjaaGreatDoor
open Go.RowKit
theorem bits_or_comm (k : IntKind) (x y : Int) : bits .or k x y = bits .or k y x := by unfold bits; simp only []; rw [BitVec.or_comm]
theorem or_hi (s : Nat) (x y : Int) (hx0 : 0 ≤ x) (hx : x * 2 ^ s < 4294967296) (hy0 : 0 ≤ y) (hy : y < 2 ^ s) (hs : s ≤ 32) : bits .or .u32 (x * 2 ^ s) y = x * 2 ^ s + y := by
  obtain ⟨a, rfl⟩ := Int.eq_ofNat_of_zero_le hx0
  obtain ⟨b, rfl⟩ := Int.eq_ofNat_of_zero_le hy0
  have e : ((a * 2 ^ s : Nat) : Int) = (a : Int) * 2 ^ s := by simp
  have hb : b < 2 ^ s := by
    have : ((b : Nat) : Int) < ((2 ^ s : Nat) : Int) := by rw [Int.natCast_pow]; exact hy
    exact Int.ofNat_lt.1 this
  have ha : a * 2 ^ s < 2 ^ 32 := by
    have : ((a * 2 ^ s : Nat) : Int) < ((2 ^ 32 : Nat) : Int) := by rw [e]; exact hx
    exact Int.ofNat_lt.1 this
  have hb2 : b < 2 ^ 32 := Nat.lt_of_lt_of_le hb (Nat.pow_le_pow_right (by decide) hs)
  have h := (bits_nat .u32 32 (by decide) (fun n h₀ h₁ => by rw [IntKind.wrap_u32']; omega) (a * 2 ^ s) b ha hb2).2
  rw [e] at h
  rw [h, Nat.mul_comm a, ← Nat.two_pow_add_eq_or_of_lt hb a, Nat.mul_comm, Int.natCast_add, e]
end Go.Proofs.YtjmiaakfdclfjaaGreatDoor
/-
  Der: the page's examples, all.
-/
namespace Go.Proofs.YtjmiaakfdclfjaaGreatDoor
open Go.RowKit
end Go.Proofs.YtjmiaakfdclfjaaGreatDoor
/-
  Der: any number in bytes of seven bits.
-/
namespace Go.Proofs.YtjmiaakfdclfjaaGreatDoor
open Go.RowKit
/-- A group of seven bits that another follows. -/
def gr (n j : Nat) : Int := ((n / 128 ^ j % 128 + 128 : Nat) : Int)
/-- The first i of the groups k, k - 1, .. -/
def tp (n k : Nat) : Nat → List Int
  | 0 => []
  | i + 1 => tp n k i ++ [gr n (k - i)]
def sev (k n : Nat) : List Int := tp n k k ++ [((n % 128 : Nat) : Int)]
theorem tp_len (n k : Nat) : ∀ i, (tp n k i).length = i
  | 0 => rfl
  | i + 1 => by show (tp n k i ++ [_]).length = _; rw [List.length_append, tp_len n k i]; rfl
theorem or_128 (x : Int) (h : U8 x) : bits .or .u8 x 128 = x % 128 + 128 := by
  obtain ⟨h0, h1⟩ := h
  obtain ⟨k, rfl⟩ := Int.eq_ofNat_of_zero_le h0
  have : ∀ y : Fin 256, bits .or .u8 ((y : Nat) : Int) 128 = ((y : Nat) : Int) % 128 + 128 := by decide +kernel
  exact this ⟨k, by omega⟩
theorem and_127w (z : Int) (h0 : 0 ≤ z) (h1 : z < 18446744073709551616) : bits .and .u64 z 127 = z % 128 := by go_bits2
theorem wrapU8 (z : Int) (h0 : 0 ≤ z) (h1 : z < 256) : IntKind.u8.wrap z = z := by rw [IntKind.wrap_u8]; omega
theorem div_sev (n j s : Nat) (hs : s = 7 * j) : (n : Int) / 2 ^ s = ((n / 128 ^ j : Nat) : Int) := by
  subst hs
  rw [Int.pow_mul]
  simp
theorem Row.drew {k : IntKind} {e : TypeId} {B : Nat} {w : World} {v : Value} {xs : List Int} (h : Row k e B w v xs) : Row k e B w.drew v xs :=
  h.below ⟨rfl, rfl, rfl, Nat.le_refl _, fun _ _ => rfl⟩
set_option maxRecDepth 20000 in
set_option maxHeartbeats 2000000 in
theorem sevens_any {w : World} (B : Nat) (v : Value) (X : List Int) (n k : Nat) (hr : Row .u8 5 B w v X) (hB : B ≤ w.heap.size) (hk : n / 128 ^ k < 128) (hk1 : ∀ j, j < k → 128 ≤ n / 128 ^ j) (hk8 : k ≤ 8) (hn : n < 9223372036854775808) (hX : X.length ≤ 100000000) :
    Calls Tryz.prog 88 #[v, .int .u64 n] w fun e w' => ∃ r, e = .returned r ∧ Row .u8 5 B w' r (X ++ sev k n) ∧ Below B w w' := by
  have HR : Hid (Row .u8 5 B w v X) := hr
  have HK : Hid (n / 128 ^ k < 128 ∧ ∀ j, j < k → 128 ≤ n / 128 ^ j) := ⟨hk, hk1⟩
  clear hr hk hk1
  have n0 : (0 : Int) ≤ (n : Int) := by omega
  have a127 := and_127w (n : Int) n0 (by omega)
  have w127 : IntKind.u8.wrap ((n : Int) % 128) = (n : Int) % 128 := wrapU8 _ (by omega) (by omega)
  go_enter Tryz.func88, Tryz.ntmps88
  go_wp2_with fail
  go_loopw [5] (fun sv wr => ∃ j s : Nat, sv = .int .i64 s ∧ s = 7 * j ∧ j ≤ k ∧ w = wr) (fun sv _ => 7 * k - (intOf sv).toNat)
  case atStart => exact ⟨0, 0, rfl, rfl, by omega, rfl⟩
  case round =>
    obtain ⟨j, s, rfl, hs, hj, rfl⟩ := hrel
    have HS : Hid (s = 7 * j) := hs
    obtain ⟨q, hq⟩ : ∃ q, n / 128 ^ j = q := ⟨_, rfl⟩
    have HQ : Hid (n / 128 ^ j = q) := hq
    have hd := div_sev n j s hs
    rw [hq] at hd
    clear hq
    have s0 : (s : Int) ≤ 56 := by omega
    clear hs
    by_cases hlt : j < k
    · have hge : (128 : Int) ≤ (q : Int) := by have := HK.out.2 j hlt; rw [HQ.out] at this; omega
      go_wp2
      go_roundw
      case rel => exact ⟨j + 1, s + 7, by go_num, by have := HS.out; omega, by omega, trivial⟩
      case measure => have := HS.out; simp [intOf]; omega
    · obtain rfl : j = k := by omega
      have hge : ¬ (128 : Int) ≤ (q : Int) := by have := HK.out.1; rw [HQ.out] at this; omega
      go_wp2
      go_loopw [0, 5] (fun bv sv wr => ∃ (i s : Nat) (b0 : Value), b0 = bv ∧ sv = .int .i64 s ∧ s + 7 * i = 7 * j ∧ Row .u8 5 B wr b0 (X ++ tp n j i) ∧ Below B w wr) (fun _ sv _ => (intOf sv).toNat)
      case atStart => exact ⟨0, s, _, rfl, rfl, by have := HS.out; omega, by simpa [tp] using HR.out, Below.refl _ _⟩
      case round =>
        clear hd s0 hge
        obtain ⟨i, s', b0, rfl, rfl, hs', hr, hb⟩ := hrel
        have H1 : Hid (Row .u8 5 B wr b0 (X ++ tp n j i) ∧ Below B w wr ∧ s' + 7 * i = 7 * j) := ⟨hr, hb, hs'⟩
        by_cases h0 : 0 < s'
        · have h0I : (0 : Int) < (s' : Int) := by omega
          have h7 : 7 ≤ s' := by omega
          obtain ⟨q', hq'⟩ : ∃ q, n / 128 ^ (j - i) = q := ⟨_, rfl⟩
          have hd := div_sev n (j - i) s' (by omega)
          rw [hq'] at hd
          have s0 : (s' : Int) ≤ 56 := by omega
          obtain ⟨x, hx⟩ : ∃ x : Int, IntKind.u8.wrap (q' : Int) = x := ⟨_, rfl⟩
          have ho : bits .or .u8 x 128 = gr n (j - i) := by
            rw [IntKind.wrap_u8] at hx
            rw [or_128 x ⟨by omega, by omega⟩]
            unfold gr
            rw [hq']
            omega
          obtain ⟨y, hy⟩ : ∃ y : Int, gr n (j - i) = y := ⟨_, rfl⟩
          have HY : Hid (gr n (j - i) = y) := hy
          rw [hy] at ho
          clear hq' hy hr hb hs'
          go_wp2_with (at_builtin; refine wpList_ap rfl (.tmp 16) (.tmp 22) 22 22 rfl .u8 5 1 Tryz.und8 Tryz.info8 (by decide) B _ (X ++ tp n j i) rfl (H1.out.1.alloc _) _ [y] rfl (src_sl Tryz.und8 (new1 y)) (by have := tp_len n j i; have := H1.out.2.2; simp; omega) (by have := H1.out.2.1.size; simp; omega) ?_; intro v1 w1 hr hg)
          have hb1 : Below B w w1 := (H1.out.2.1.trans ((al1 _).mono (by have := H1.out.2.1.size; omega))).trans (hg.below (H1.out.1.alloc _) (by have := H1.out.2.1.size; simp; omega))
          have hr' : Row .u8 5 B w1 v1 (X ++ tp n j (i + 1)) := by
            show Row _ _ _ _ _ (X ++ (tp n j i ++ [gr n (j - i)]))
            rw [HY.out, ← List.append_assoc]; exact hr
          have H2 : Hid (Row .u8 5 B w1 v1 (X ++ tp n j (i + 1)) ∧ Below B w w1) := ⟨hr', hb1⟩
          clear hr hg hb1 hr'
          go_roundw
          case rel => exact ⟨i + 1, s' - 7, _, rfl, by go_num, by have := H1.out.2.2; omega, H2.out.1, H2.out.2⟩
          case measure => simp [intOf]; omega
        · have h0I : ¬ (0 : Int) < (s' : Int) := by omega
          obtain rfl : i = j := by omega
          obtain ⟨y, hy⟩ : ∃ y : Int, (n : Int) % 128 = y := ⟨_, rfl⟩
          have HY : Hid ((n : Int) % 128 = y) := hy
          rw [hy] at a127 w127
          clear hr hb hs' hy
          go_wp2_with (at_builtin; refine wpList_ap rfl (.tmp 24) (.tmp 28) 22 22 rfl .u8 5 1 Tryz.und8 Tryz.info8 (by decide) B _ (X ++ tp n i i) rfl (H1.out.1.alloc _) _ [y] rfl (src_sl Tryz.und8 (new1 y)) (by have := tp_len n i i; simp; omega) (by have := H1.out.2.1.size; simp; omega) ?_; intro v1 w1 hr hg)
          have hb1 : Below B w w1 := (H1.out.2.1.trans ((al1 _).mono (by have := H1.out.2.1.size; omega))).trans (hg.below (H1.out.1.alloc _) (by have := H1.out.2.1.size; simp; omega))
          go_ret
          refine ⟨_, rfl, ?_, hb1⟩
          unfold sev
          rw [← List.append_assoc]
          have e : ((n % 128 : Nat) : Int) = y := by have := HY.out; omega
          rw [e]; exact hr
end Go.Proofs.YtjmiaakfdclfjaaGreatDoor
/-
  Der: any length; any head.
-/
namespace Go.Proofs.YtjmiaakfdclfjaaGreatDoor
open Go.RowKit
def by8 (n j : Nat) : Int := ((n / 256 ^ j % 256 : Nat) : Int)
/-- The first i of the bytes c - 1, c - 2, .. -/
def tb (n c : Nat) : Nat → List Int
  | 0 => []
  | i + 1 => tb n c i ++ [by8 n (c - 1 - i)]
theorem tb_len (n c : Nat) : ∀ i, (tb n c i).length = i
  | 0 => rfl
  | i + 1 => by show (tb n c i ++ [_]).length = _; rw [List.length_append, tb_len n c i]; rfl
def lenB (n c : Nat) : List Int := if n < 128 then [(n : Int)] else (128 + (c : Int)) :: tb n c c
theorem div_by8 (n j s : Nat) (hs : s = 8 * j) : (n : Int) / 2 ^ s = ((n / 256 ^ j : Nat) : Int) := by
  subst hs
  rw [Int.pow_mul]
  simp
set_option maxRecDepth 20000 in
set_option maxHeartbeats 2000000 in
theorem length_any {w : World} (n c : Nat) (hc : n / 256 ^ c = 0) (hc1 : ∀ j, j < c → 0 < n / 256 ^ j) (hc8 : c ≤ 7) (hn : n < 9223372036854775808) :
    Calls Tryz.prog 105 #[.int .i64 n] w fun e w' => ∃ r, e = .returned r ∧ Row .u8 5 w.heap.size w' r (lenB n c) ∧ Below w.heap.size w w' := by
  have HC : Hid (n / 256 ^ c = 0 ∧ ∀ j, j < c → 0 < n / 256 ^ j) := ⟨hc, hc1⟩
  clear hc hc1
  by_cases h1 : n < 128
  · have HL : Hid (lenB n c = [(n : Int)]) := by show _ = _; unfold lenB; rw [if_pos h1]
    have i1 : (n : Int) < 128 := by omega
    have i2 : IntKind.u8.wrap (n : Int) = (n : Int) := wrapU8 _ (by omega) (by omega)
    go_enter Tryz.func105, Tryz.ntmps105
    go_wp2
    go_ret
    rw [HL.out]
    exact ⟨_, rfl, (Row.arr (S := [_]) (arr_nw rfl rfl) (Nat.le_refl _) (by simp [maxLen])), al1 _⟩
  · have HL : Hid (lenB n c = (128 + (c : Int)) :: tb n c c) := by show _ = _; unfold lenB; rw [if_neg h1]
    have i1 : ¬ (n : Int) < 128 := by omega
    have i2 : IntKind.u8.wrap (c : Int) = (c : Int) := wrapU8 _ (by omega) (by omega)
    have i3 : IntKind.u8.wrap (128 + (c : Int)) = 128 + (c : Int) := wrapU8 _ (by omega) (by omega)
    go_enter Tryz.func105, Tryz.ntmps105
    go_wp2_with fail
    go_loopw [3, 4] (fun cv rv wr => ∃ j q : Nat, cv = .int .i64 j ∧ rv = .int .i64 q ∧ n / 256 ^ j = q ∧ j ≤ c ∧ w = wr) (fun cv _ _ => c - (intOf cv).toNat)
    case atStart => exact ⟨0, n, rfl, rfl, by simp, by omega, rfl⟩
    case round =>
      obtain ⟨j, q, rfl, rfl, hq, hj, rfl⟩ := hrel
      have HQ : Hid (n / 256 ^ j = q) := hq
      clear hq
      by_cases hlt : j < c
      · have hg : (0 : Int) < (q : Int) := by have := HC.out.2 j hlt; rw [HQ.out] at this; omega
        go_wp2
        go_roundw
        case rel => exact ⟨j + 1, q / 256, by go_num, by go_num, by rw [Nat.pow_succ, ← Nat.div_div_eq_div_mul, HQ.out], by omega, trivial⟩
        case measure => simp [intOf]; omega
      · obtain rfl : j = c := by omega
        have hg : ¬ (0 : Int) < (q : Int) := by have := HC.out.1; rw [HQ.out] at this; omega
        go_wp2
        go_loopw [5, 24] (fun bv iv wr => ∃ (i : Nat) (b0 : Value), b0 = bv ∧ iv = .int .i64 i ∧ i ≤ j ∧ Row .u8 5 w.heap.size wr b0 ((128 + (j : Int)) :: tb n j i) ∧ Below w.heap.size w wr) (fun _ iv _ => j - (intOf iv).toNat)
        case atStart => exact ⟨0, _, rfl, rfl, by omega, (Row.arr (S := [_]) (arr_nw rfl rfl) (Nat.le_refl _) (by simp [maxLen])), al1 _⟩
        case round =>
          obtain ⟨i, b0, rfl, rfl, hi, hr, hb⟩ := hrel
          have H1 : Hid (Row .u8 5 w.heap.size wr b0 ((128 + (j : Int)) :: tb n j i) ∧ Below w.heap.size w wr) := ⟨hr, hb⟩
          clear hr hb hg
          by_cases hlt : i < j
          · have l1 : (i : Int) < (j : Int) := by omega
            obtain ⟨c1, hc1⟩ : ∃ c1, j = c1 + 1 := ⟨j - 1, by omega⟩
            obtain ⟨d, hd1⟩ : ∃ d, c1 = d + i := ⟨c1 - i, by omega⟩
            have e1 : (j : Int) - 1 = (c1 : Int) := by omega
            have e2 : (c1 : Int) - (i : Int) = (d : Int) := by omega
            have e3 : (d : Int) ≤ 7 := by omega
            have e4 : (c1 : Int) ≤ 7 := by omega
            have HJ : Hid (j = d + i + 1) := by show _ = _; omega
            clear hc1 hd1
            have hd := div_by8 n d (8 * d) rfl
            obtain ⟨q', hq'⟩ : ∃ q, n / 256 ^ d = q := ⟨_, rfl⟩
            rw [hq'] at hd
            obtain ⟨y, hy⟩ : ∃ y : Int, (q' : Int) % 256 = y := ⟨_, rfl⟩
            have hy2 : IntKind.u8.wrap (q' : Int) = y := by rw [IntKind.wrap_u8]; exact hy
            have HY : Hid (by8 n d = y) := by
              show _ = _
              unfold by8
              rw [hq']
              omega
            clear hq'
            go_wp2_with (at_builtin; refine wpList_ap rfl (.tmp 27) (.tmp 36) 22 22 rfl .u8 5 1 Tryz.und8 Tryz.info8 (by decide) w.heap.size _ ((128 + (j : Int)) :: tb n j i) rfl (H1.out.1.alloc _) _ [y] rfl (src_sl Tryz.und8 (new1 y)) (by have := tb_len n j i; simp; omega) (by have := H1.out.2.size; simp; omega) ?_; intro v1 w1 hr hg)
            have hb1 : Below w.heap.size w w1 := (H1.out.2.trans ((al1 _).mono H1.out.2.size)).trans (hg.below (H1.out.1.alloc _) (by have := H1.out.2.size; simp; omega))
            have hr' : Row .u8 5 w.heap.size w1 v1 ((128 + (j : Int)) :: tb n j (i + 1)) := by
              have e : tb n j (i + 1) = tb n j i ++ [by8 n (j - 1 - i)] := rfl
              rw [e, show j - 1 - i = d by have := HJ.out; omega, HY.out]
              exact hr
            have H2 : Hid (Row .u8 5 w.heap.size w1 v1 ((128 + (j : Int)) :: tb n j (i + 1)) ∧ Below w.heap.size w w1) := ⟨hr', hb1⟩
            clear hr hg hb1 hr'
            go_roundw
            case rel => exact ⟨i + 1, _, rfl, by go_num, by omega, H2.out.1, H2.out.2⟩
            case measure => simp [intOf]; omega
          · obtain rfl : i = j := by omega
            have l1 : ¬ (i : Int) < (i : Int) := by omega
            go_wp2
            go_ret
            rw [HL.out]
            exact ⟨_, rfl, H1.out.1, H1.out.2⟩
end Go.Proofs.YtjmiaakfdclfjaaGreatDoor
/-
  Der: which heads may be.
-/
namespace Go.Proofs.YtjmiaakfdclfjaaGreatDoor
open Go.RowKit
def headOk (class_ tag : Int) : Bool := decide (0 ≤ class_ ∧ class_ ≤ 3 ∧ 0 ≤ tag ∧ tag ≤ 268435455 ∧ ¬ (class_ = 0 ∧ tag = 0))
set_option maxHeartbeats 2000000 in
theorem isHead_any {w : World} (c t : Int) : Calls Tryz.prog 103 #[.int .i64 c, .int .i64 t] w fun e w' => e = .returned (.bool (headOk c t)) ∧ w = w' := by
  have HH : Hid (headOk c t = decide (0 ≤ c ∧ c ≤ 3 ∧ 0 ≤ t ∧ t ≤ 268435455 ∧ ¬ (c = 0 ∧ t = 0))) := rfl
  obtain ⟨r, hr⟩ : ∃ r, headOk c t = r := ⟨_, rfl⟩
  rw [hr] at HH ⊢
  clear hr
  by_cases h1 : c < 0
  · have HF : Hid (r = false) := by show _ = _; rw [HH.out]; simp; omega
    go_enter Tryz.func103, Tryz.ntmps103
    go_wp2
    go_ret
    exact ⟨by rw [HF.out]; rfl, rfl⟩
  by_cases h2 : 3 < c
  · have HF : Hid (r = false) := by show _ = _; rw [HH.out]; simp; omega
    go_enter Tryz.func103, Tryz.ntmps103
    go_wp2
    go_ret
    exact ⟨by rw [HF.out]; rfl, rfl⟩
  by_cases h3 : t < 0
  · have HF : Hid (r = false) := by show _ = _; rw [HH.out]; simp; omega
    go_enter Tryz.func103, Tryz.ntmps103
    go_wp2
    go_ret
    exact ⟨by rw [HF.out]; rfl, rfl⟩
  by_cases h4 : 268435455 < t
  · have HF : Hid (r = false) := by show _ = _; rw [HH.out]; simp; omega
    go_enter Tryz.func103, Tryz.ntmps103
    go_wp2
    go_ret
    exact ⟨by rw [HF.out]; rfl, rfl⟩
  by_cases h5 : c = 0
  · subst h5
    by_cases h6 : t = 0
    · subst h6
      have HF : Hid (r = false) := by show _ = _; rw [HH.out]; simp
      go_enter Tryz.func103, Tryz.ntmps103
      go_wp2
      go_ret
      exact ⟨by rw [HF.out]; rfl, rfl⟩
    · have HF : Hid (r = true) := by show _ = _; rw [HH.out]; simp; omega
      have h6b : (t != 0) = true := by simpa using h6
      go_enter Tryz.func103, Tryz.ntmps103
      go_wp2
      go_ret
      exact ⟨by rw [HF.out]; rfl, rfl⟩
  · have HF : Hid (r = true) := by show _ = _; rw [HH.out]; simp; omega
    have h5b : (c != 0) = true := by simpa using h5
    go_enter Tryz.func103, Tryz.ntmps103
    go_wp2
    go_ret
    exact ⟨by rw [HF.out]; rfl, rfl⟩
end Go.Proofs.YtjmiaakfdclfjaaGreatDoor
/-
  Der: any head.
-/
namespace Go.Proofs.YtjmiaakfdclfjaaGreatDoor
open Go.RowKit
def frst (class_ : Int) (cons : Bool) : Int := class_ * 64 + (if cons then 32 else 0)
def headB (class_ : Int) (cons : Bool) (tag k : Nat) : List Int := if tag < 31 then [frst class_ cons + tag] else (frst class_ cons + 31) :: sev k tag
theorem or_low (a t : Nat) (ha : a < 8) (ht : t < 32) : bits .or .u8 (32 * (a : Int)) (t : Int) = 32 * (a : Int) + t := by
  have : ∀ (a : Fin 8) (t : Fin 32), bits .or .u8 (32 * ((a : Nat) : Int)) ((t : Nat) : Int) = 32 * ((a : Nat) : Int) + ((t : Nat) : Int) := by decide +kernel
  exact this ⟨a, ha⟩ ⟨t, ht⟩
theorem or_31 (a : Nat) (ha : a < 8) : bits .or .u8 (32 * (a : Int)) 31 = 32 * (a : Int) + 31 := or_low a 31 ha (by decide)
theorem or_c0 : bits .or .u8 0 32 = 32 := by decide +kernel
theorem or_c1 : bits .or .u8 64 32 = 96 := by decide +kernel
theorem or_c2 : bits .or .u8 128 32 = 160 := by decide +kernel
theorem or_c3 : bits .or .u8 192 32 = 224 := by decide +kernel
set_option maxRecDepth 20000 in
set_option maxHeartbeats 4000000 in
theorem head_any {w : World} (c : Int) (cons : Bool) (t k : Nat) (h0 : 0 ≤ c) (h3 : c ≤ 3) (hk : t / 128 ^ k < 128) (hk1 : ∀ j, j < k → 128 ≤ t / 128 ^ j) (hk8 : k ≤ 8) (ht : t ≤ 268435455) :
    Calls Tryz.prog 104 #[.int .i64 c, .int .i64 t, .bool cons] w fun e w' => ∃ r, e = .returned r ∧ Row .u8 5 w.heap.size w' r (headB c cons t k) ∧ Below w.heap.size w w' := by
  have HK : Hid (t / 128 ^ k < 128 ∧ ∀ j, j < k → 128 ≤ t / 128 ^ j) := ⟨hk, hk1⟩
  clear hk hk1
  obtain ⟨a, ha, hf⟩ : ∃ a : Nat, a < 8 ∧ frst c cons = 32 * (a : Int) := by
    unfold frst
    cases cons
    · exact ⟨(2 * c).toNat, by omega, by simp; omega⟩
    · exact ⟨(2 * c + 1).toNat, by omega, by simp; omega⟩
  have o0 := or_c0
  have o1 := or_c1
  have o2 := or_c2
  have o3 := or_c3
  have hc : c = 0 ∨ c = 1 ∨ c = 2 ∨ c = 3 := by omega
  by_cases hlt : t < 31
  · have HB : Hid (headB c cons t k = [32 * (a : Int) + t]) := by show _ = _; unfold headB; rw [if_pos hlt, hf]
    have ho := or_low a t ha (by omega)
    have w1 : IntKind.u8.wrap (t : Int) = (t : Int) := wrapU8 _ (by omega) (by omega)
    have l1 : (t : Int) < 31 := by omega
    rcases hc with rfl | rfl | rfl | rfl <;> cases cons
    all_goals
      have hf' := hf
      unfold frst at hf'
      simp at hf'
      obtain ⟨y, hy⟩ : ∃ y : Int, 32 * (a : Int) + t = y := ⟨_, rfl⟩
      rw [hy] at HB ho
      rw [← hf'] at ho
      clear hf hf' ha hy
      go_enter Tryz.func104, Tryz.ntmps104
      go_wp2
      go_ret
      rw [HB.out]
      exact ⟨_, rfl, (Row.arr (S := [_]) (arr_nw rfl rfl) (Nat.le_refl _) (by simp [maxLen])), al1 _⟩
  · have HB : Hid (headB c cons t k = [32 * (a : Int) + 31] ++ sev k t) := by show _ = _; unfold headB; rw [if_neg hlt, hf]; rfl
    have ho := or_31 a ha
    have w1 : IntKind.u64.wrap (t : Int) = (t : Int) := by rw [IntKind.wrap_u64]; omega
    have l1 : ¬ (t : Int) < 31 := by omega
    rcases hc with rfl | rfl | rfl | rfl <;> cases cons
    all_goals
      have hf' := hf
      unfold frst at hf'
      simp at hf'
      obtain ⟨y, hy⟩ : ∃ y : Int, 32 * (a : Int) + 31 = y := ⟨_, rfl⟩
      rw [hy] at HB ho
      rw [← hf'] at ho
      clear hf hf' ha hy
      go_enter Tryz.func104, Tryz.ntmps104
      go_wp2_with fail
      refine (sevens_any w.heap.size _ [_] t k (Row.arr (S := [_]) (arr_nw rfl rfl) (Nat.le_refl _) (by simp [maxLen])) (by simp) HK.out.1 HK.out.2 hk8 (by omega) (by simp)).mono ?_
      rintro e w2 ⟨r, rfl, hr, hb⟩
      have H2 : Hid (Row .u8 5 w.heap.size w2 r (headB _ _ t k) ∧ Below w.heap.size w w2) := ⟨by rw [HB.out]; exact hr, (al1 _).trans hb⟩
      clear hr hb
      go_wp2
      go_ret
      exact ⟨_, rfl, H2.out.1, H2.out.2⟩
end Go.Proofs.YtjmiaakfdclfjaaGreatDoor
/-
  Der: slices of slices; Put.
-/
namespace Go.Proofs.YtjmiaakfdclfjaaGreatDoor
open Go.RowKit
/-- The slice v holds the values vs. -/
def SlS (w : World) (v : Value) (vs : List Value) : Prop :=
  ∃ a c, v = .slice a vs.length c ∧ vs.length ≤ c ∧ (vs = [] ∨ ∃ b off, a = some ⟨b, off, none⟩ ∧ b < w.heap.size ∧ ∀ i, i < vs.length → w.cell? ⟨b, off + i, none⟩ = some (vs.getD i undef))
/-- The values are slices that read the lists. -/
def Msgs (w : World) (vs : List Value) (ms : List (List Int)) : Prop := vs.length = ms.length ∧ ∀ i, i < vs.length → Sl .u8 w (vs.getD i undef) (ms.getD i []) ∧ U8s (ms.getD i [])
theorem Msgs.below {w w' : World} {vs : List Value} {ms : List (List Int)} (h : Msgs w vs ms) (hb : Below w.heap.size w w') : Msgs w' vs ms := ⟨h.1, fun i hi => ⟨below_sl hb (h.2 i hi).1, (h.2 i hi).2⟩⟩
theorem SlS.below {w w' : World} {v : Value} {vs : List Value} (h : SlS w v vs) (hb : Below w.heap.size w w') : SlS w' v vs := by
  obtain ⟨a, c, rfl, hc, h⟩ := h
  refine ⟨a, c, rfl, hc, ?_⟩
  rcases h with h | ⟨b, off, rfl, hbl, hr⟩
  · exact .inl h
  · exact .inr ⟨b, off, rfl, Nat.lt_of_lt_of_le hbl hb.size, fun i hi => (hb.cell (p := ⟨b, off + i, none⟩) hbl).trans (hr i hi)⟩
theorem flatten_u8 {ms : List (List Int)} (h : ∀ i, i < ms.length → U8s (ms.getD i [])) : U8s ms.flatten := by
  intro x hx
  obtain ⟨l, hl, hxl⟩ := List.mem_flatten.1 hx
  obtain ⟨i, hi, rfl⟩ := List.mem_iff_getElem.1 hl
  have := h i hi
  simp [hi] at this
  exact this x hxl
theorem flatten_take {ms : List (List Int)} {i : Nat} (hi : i < ms.length) : (ms.take (i + 1)).flatten = (ms.take i).flatten ++ ms.getD i [] := by
  rw [List.take_succ_eq_append_getElem hi, List.flatten_append, List.getD_eq_getElem?_getD, List.getElem?_eq_getElem hi]
  simp only [List.flatten_cons, List.flatten_nil, List.append_nil, Option.getD_some]
theorem flatten_take_le (ms : List (List Int)) (i : Nat) : (ms.take i).flatten.length ≤ ms.flatten.length := by
  have h : ms.flatten = (ms.take i).flatten ++ (ms.drop i).flatten := by rw [← List.flatten_append, List.take_append_drop]
  rw [h, List.length_append]; omega
/-- A slice of slices of bytes, as an argument has it. -/
structure Lists (w : World) (a : Option Addr) (n c : Nat) (vs : List Value) (ms : List (List Int)) : Prop where
  sls : SlS w (.slice a n c) vs
  msgs : Msgs w vs ms
  len : ms.length = n
theorem Lists.at {w : World} {a : Option Addr} {n c : Nat} {vs : List Value} {ms : List (List Int)} (h : Lists w a n c vs ms) (i : Nat) (hi : i < n) :
    ∃ b off ai ni ci, a = some ⟨b, off, none⟩ ∧ b < w.heap.size ∧ vs.getD i undef = .slice ai ni ci ∧ w.cell? ⟨b, off + i, none⟩ = some (.slice ai ni ci) ∧ Sl .u8 w (.slice ai ni ci) (ms.getD i []) ∧ U8s (ms.getD i []) ∧ (ms.getD i []).length = ni := by
  have hv : vs.length = n := by rw [h.msgs.1, h.len]
  obtain ⟨a', c', hva, hc, hx⟩ := h.sls
  simp only [Value.slice.injEq] at hva
  obtain ⟨rfl, _, rfl⟩ := hva
  rcases hx with hx | ⟨b, off, rfl, hb, hcell⟩
  · rw [hx] at hv; simp at hv; omega
  · have h1 := (h.msgs.2 i (by omega))
    obtain ⟨ai, ci, hvi, hci, hxi⟩ := h1.1
    refine ⟨b, off, ai, _, ci, rfl, hb, hvi, ?_, ?_, h1.2, rfl⟩
    · rw [hcell i (by omega), hvi]
    · rw [← hvi]; exact h1.1
theorem Lists.below {w w' : World} {a : Option Addr} {n c : Nat} {vs : List Value} {ms : List (List Int)} (h : Lists w a n c vs ms) (hb : Below w.heap.size w w') : Lists w' a n c vs ms := ⟨h.sls.below hb, h.msgs.below hb, h.len⟩
/-- 'make([]T, 0, n)': room for n in a block of its own. -/
theorem wpList_mk0 {P : Program} (w : World) {ops : Array Oper} {rest : List Oper} {o : Oper} {a : Act} {Q : Exit → Act → World → Prop} (hg : o.guard = none) (l c : Operand) (t : TypeId) (hop : o.op = .makeSlice t l c)
    (k : IntKind) (e : TypeId) (bytes : Nat) (ht : P.underlying t = some (.slice e)) (hi : (P.info? e).map (fun i => (i.zero, i.size, i.bytes)) = some (some (.int k 0), 1, bytes))
    (C : Int) (n : Nat) (hl : a.eval l = .int .i64 0) (hc : a.eval c = .int .i64 C) (hC : C = n) (hb : bytes * n ≤ 281474976710656) (hm : n ≤ 1152921504606846976)
    (hK : ∀ w', Row k e w.heap.size w' (.slice (some ⟨w.heap.size, 0, none⟩) 0 n) [] → Below w.heap.size w w' → wpList P ops Q rest (a.put o.dst (.slice (some ⟨w.heap.size, 0, none⟩) 0 n)) w') :
    wpList P ops Q (o :: rest) a w := by
  obtain ⟨i0, hi0, hz0, hz1, hz2⟩ := info_parts hi
  subst hC
  refine wpList_plain hg fun K hK' => ?_
  have hb' : (i0.bytes : Int) * (n : Int) ≤ 281474976710656 := by
    have h : ((i0.bytes * n : Nat) : Int) ≤ 281474976710656 := by rw [hz2]; omega
    rwa [Int.natCast_mul] at h
  have hr := run_make (P := P) w t e i0 (.int k 0) ht hi0 hz0 .i64 .i64 0 n (Int.le_refl _) (by omega) hb' (by omega)
  simp only [Int.toNat_zero, Int.toNat_natCast, hz1] at hr
  have hA : Arr k e (w.alloc (.cells (madeCells (Value.int k 0).cells (n * 1)) e)) w.heap.size (List.replicate n 0) := arr_nw rfl (by
    have e1 : (madeCells (Value.int k 0).cells (n * 1)).toList = List.replicate n (.int k 0) := by rw [Nat.mul_one]; exact toList_madeCells_one (.int k 0) n
    rw [toArray_of_toList e1]; simp)
  unfold Oper.wp
  simp [execOp, hop, hl, hc, hr, Result.andThen]
  refine hK' _ _ (hK _ (.inr ⟨w.heap.size, List.replicate n 0, by simp, Nat.le_refl _, ?_, by simp, by simp, by simp [maxLen]; omega⟩) (al1 _))
  simpa using hA
set_option maxRecDepth 20000 in
set_option maxHeartbeats 4000000 in
theorem Put_any {w : World} (c : Int) (t k l : Nat) (cons : Bool) (a : Option Addr) (n cp N : Nat) (vs : List Value) (ms : List (List Int)) (hL : Lists w a n cp vs ms) (hN : ms.flatten.length = N) (hN1 : N ≤ 16777216) (hn : n ≤ 1152921504606846976) (h : headOk c t = true)
    (hk : t / 128 ^ k < 128) (hk1 : ∀ j, j < k → 128 ≤ t / 128 ^ j) (hk8 : k ≤ 8) (hl : N / 256 ^ l = 0) (hl1 : ∀ j, j < l → 0 < N / 256 ^ j) (hl8 : l ≤ 7) :
    Calls Tryz.prog 89 #[.int .i64 c, .int .i64 t, .bool cons, .slice a n cp] w fun e w' => ∃ r, e = .returned (.tuple #[r, .int .i64 0]) ∧ Row .u8 5 w.heap.size w' r (headB c cons t k ++ lenB N l ++ ms.flatten) ∧ Below w.heap.size w w' := by
  have HH : Hid (headOk c t = true) := h
  have hh : 0 ≤ c ∧ c ≤ 3 ∧ t ≤ 268435455 := by unfold headOk at h; simp at h; omega
  have HK : Hid ((t / 128 ^ k < 128 ∧ ∀ j, j < k → 128 ≤ t / 128 ^ j) ∧ (N / 256 ^ l = 0 ∧ ∀ j, j < l → 0 < N / 256 ^ j) ∧ 0 ≤ c ∧ c ≤ 3 ∧ t ≤ 268435455) := ⟨⟨hk, hk1⟩, ⟨hl, hl1⟩, hh⟩
  have HL : Hid (Lists w a n cp vs ms ∧ ms.flatten.length = N) := ⟨hL, hN⟩
  clear h hk hk1 hl hl1 hL hh hN
  have n1 : (n : Int) ≤ 1152921504606846976 := by omega
  go_enter Tryz.func89, Tryz.ntmps89
  go_wp2_with (go_at_call 103; refine (isHead_any c t).mono ?_; rintro e w1 ⟨rfl, rfl⟩; rw [HH.out])
  go_loopw [10, 23] (fun nv iv wr => ∃ i q : Nat, nv = .int .i64 q ∧ iv = .int .i64 i ∧ i ≤ n ∧ (ms.take i).flatten.length = q ∧ w = wr) (fun _ iv _ => n - (intOf iv).toNat)
  case atStart => exact ⟨0, 0, rfl, rfl, by omega, by simp, rfl⟩
  case round =>
    obtain ⟨i, q, rfl, rfl, hi, hq, rfl⟩ := hrel
    have HQ : Hid ((ms.take i).flatten.length = q) := hq
    have hqN : q ≤ N := by have := flatten_take_le ms i; have := HL.out.2; omega
    clear hq
    by_cases hlt : i < n
    · have l1 : (i : Int) < (n : Int) := by omega
      obtain ⟨b, off, ai, ni, ci, rfl, hb, hvi, hcell, hsl, hu, hni⟩ := HL.out.1.at i hlt
      have HI : Hid ((ms.take (i + 1)).flatten.length = q + ni) := by
        show _ = _
        rw [flatten_take (by have := HL.out.1.len; omega), List.length_append, HQ.out, hni]
      have hq2 : q + ni ≤ N := by have := flatten_take_le ms (i + 1); rw [HI.out] at this; have := HL.out.2; omega
      clear hvi hsl hu hni
      go_wp2
      go_roundw
      case rel => exact ⟨i + 1, q + ni, by go_num, by go_num, by omega, HI.out, trivial⟩
      case measure => simp [intOf]; omega
    · obtain rfl : i = n := by omega
      have hqe : q = N := by
        have h1 := HQ.out
        rw [List.take_of_length_le (by have := HL.out.1.len; omega), HL.out.2] at h1
        omega
      subst hqe
      have l1 : ¬ (i : Int) < (i : Int) := by omega
      have l2 : ¬ (16777216 : Int) < (q : Int) := by omega
      go_wp2_with fail
      refine (head_any c cons t k HK.out.2.2.1 HK.out.2.2.2.1 HK.out.1.1 HK.out.1.2 hk8 HK.out.2.2.2.2).mono ?_
      rintro e w1 ⟨r1, rfl, hr1, hb1⟩
      have H1 : Hid (Row .u8 5 w.heap.size w1 r1 (headB c cons t k) ∧ Below w.heap.size w w1) := ⟨hr1, hb1⟩
      clear hr1 hb1
      go_wp2_with fail
      refine (length_any q l HK.out.2.1.1 HK.out.2.1.2 hl8 (by omega)).mono ?_
      rintro e w2 ⟨r2, rfl, hr2, hb2⟩
      have H2 : Hid (Row .u8 5 w.heap.size w2 r1 (headB c cons t k) ∧ Sl .u8 w2 r2 (lenB q l) ∧ Below w.heap.size w w2) := ⟨H1.out.1.below hb2, hr2.sl, below_via H1.out.2 hb2 (Nat.le_refl _)⟩
      clear hr2 hb2
      obtain ⟨F, hF⟩ : ∃ F, headB c cons t k ++ lenB q l = F := ⟨_, rfl⟩
      have HF : Hid (headB c cons t k ++ lenB q l = F) := hF
      have hFl : F.length ≤ 20 := by rw [← hF]; unfold headB lenB sev; split <;> split <;> simp [tp_len, tb_len] <;> omega
      have hF0 : (headB c cons t k).length + (lenB q l).length = F.length := by rw [← hF]; simp
      clear hF
      obtain ⟨f, hf⟩ : ∃ f, F.length = f := ⟨_, rfl⟩
      have HFl : Hid (F.length = f) := hf
      rw [hf] at hFl hF0
      clear hf
      obtain ⟨m, hm⟩ : ∃ m : Nat, f + q = m := ⟨_, rfl⟩
      have hfq : (f : Int) + (q : Int) = (m : Int) := by omega
      go_upto_region 12 with ((at_builtin; refine wpList_ap rfl (.tmp 37) (.tmp 39) 22 22 rfl .u8 5 1 Tryz.und8 Tryz.info8 (by decide) w.heap.size _ (headB c cons t k) rfl H2.out.1 _ (lenB q l) rfl (src_sl Tryz.und8 H2.out.2.1) (by omega) H2.out.2.2.size ?_; intro v3 w3 hr3 hg3; rw [HF.out] at hr3; obtain ⟨a3, c3, hv3⟩ := hr3.ne; rw [HFl.out] at hv3; subst hv3))
      have hb3 : Below w.heap.size w w3 := H2.out.2.2.trans (hg3.below H2.out.1 H2.out.2.2.size)
      have H3 : Hid (Row .u8 5 w.heap.size w3 (.slice a3 f c3) F ∧ Below w.heap.size w w3) := ⟨hr3, hb3⟩
      clear hr3 hg3 hb3 hF0
      go_upto_region 13 with ((at_make; refine wpList_mk0 _ rfl _ _ 22 rfl .u8 5 1 Tryz.und8 Tryz.info8 _ m rfl rfl (by omega) (by omega) (by omega) ?_; intro w4 hr4 hb4))
      have H4 : Hid (Row .u8 5 w.heap.size w4 (.slice (some ⟨w3.heap.size, 0, none⟩) 0 m) [] ∧ Sl .u8 w4 (.slice a3 f c3) F ∧ Below w.heap.size w w4) := ⟨hr4.mono H3.out.2.size, below_sl hb4 H3.out.1.sl, below_via H3.out.2 hb4 (Nat.le_refl _)⟩
      clear hr4 hb4
      go_wp2_with (at_builtin; refine wpList_ap rfl (.tmp 46) (.tmp 47) 22 22 rfl .u8 5 1 Tryz.und8 Tryz.info8 (by decide) w.heap.size _ [] rfl H4.out.1 _ F rfl (src_sl Tryz.und8 H4.out.2.1) (by have := HFl.out; simp; omega) H4.out.2.2.size ?_; intro v5 w5 hr5 hg5)
      have hb5 : Below w.heap.size w w5 := H4.out.2.2.trans (hg5.below H4.out.1 H4.out.2.2.size)
      have H5 : Hid (Row .u8 5 w.heap.size w5 v5 F ∧ Below w.heap.size w w5) := ⟨by simpa using hr5, hb5⟩
      clear hr5 hg5 hb5
      go_wp2_with fail
      go_loopw [14, 51] (fun bv iv wr => ∃ (j : Nat) (b0 : Value), b0 = bv ∧ iv = .int .i64 j ∧ j ≤ i ∧ Row .u8 5 w.heap.size wr b0 (F ++ (ms.take j).flatten) ∧ Below w.heap.size w wr) (fun _ iv _ => i - (intOf iv).toNat)
      case atStart => exact ⟨0, _, rfl, rfl, by omega, by simpa using H5.out.1, H5.out.2⟩
      case round =>
        clear l1
        obtain ⟨j, b0, rfl, rfl, hj, hr6, hb6⟩ := hrel
        have H6 : Hid (Row .u8 5 w.heap.size wr b0 (F ++ (ms.take j).flatten) ∧ Below w.heap.size w wr) := ⟨hr6, hb6⟩
        clear hr6
        by_cases hlt : j < i
        · have l1 : (j : Int) < (i : Int) := by omega
          obtain ⟨b, off, ai, ni, ci, rfl, hb, hvi, hcell, hsl, hu, hni⟩ := HL.out.1.at j hlt
          have hcr : wr.cell? ⟨b, off + j, none⟩ = some (.slice ai ni ci) := (hb6.cell (p := ⟨b, off + j, none⟩) hb).trans hcell
          have HI : Hid ((ms.take (j + 1)).flatten = (ms.take j).flatten ++ ms.getD j [] ∧ Sl .u8 wr (.slice ai ni ci) (ms.getD j []) ∧ F.length + (ms.take j).flatten.length + (ms.getD j []).length ≤ 20 + 16777216) := by
            refine ⟨flatten_take (by have := HL.out.1.len; omega), below_sl hb6 hsl, ?_⟩
            have h1 := flatten_take_le ms (j + 1)
            rw [flatten_take (by have := HL.out.1.len; omega), List.length_append, HL.out.2] at h1
            have := HFl.out
            omega
          clear hvi hsl hu hni hcell hb6
          go_wp2_with (at_builtin; refine wpList_ap rfl (.tmp 55) (.tmp 56) 22 22 rfl .u8 5 1 Tryz.und8 Tryz.info8 (by decide) w.heap.size _ (F ++ (ms.take j).flatten) rfl H6.out.1 _ (ms.getD j []) rfl (src_sl Tryz.und8 HI.out.2.1) (by have := HI.out.2.2; simp only [List.length_append]; omega) H6.out.2.size ?_; intro v7 w7 hr7 hg7)
          have hb7 : Below w.heap.size w w7 := H6.out.2.trans (hg7.below H6.out.1 H6.out.2.size)
          have H7 : Hid (Row .u8 5 w.heap.size w7 v7 (F ++ (ms.take (j + 1)).flatten) ∧ Below w.heap.size w w7) := ⟨by rw [HI.out.1, ← List.append_assoc]; exact hr7, hb7⟩
          clear hr7 hg7 hb7
          go_roundw
          case rel => exact ⟨j + 1, _, rfl, by go_num, by omega, H7.out.1, H7.out.2⟩
          case measure => simp [intOf]; omega
        · obtain rfl : j = i := by omega
          have l1 : ¬ (j : Int) < (j : Int) := by omega
          have HE : Hid (ms.take j = ms) := List.take_of_length_le (by have := HL.out.1.len; omega)
          clear hb6
          go_wp2
          go_ret2
          refine ⟨_, rfl, ?_, H6.out.2⟩
          have := H6.out.1
          rw [HE.out, ← HF.out, List.append_assoc] at this
          exact this
end Go.Proofs.YtjmiaakfdclfjaaGreatDoor
/-
  Der: the numbers that stand in an object identifier's bytes.
-/
namespace Go.Proofs.YtjmiaakfdclfjaaGreatDoor
open Go.RowKit
def capN (c v : Nat) : Int := ((min v c : Nat) : Int)
def capL (c : Nat) (A : List Nat) : List Int := A.map (capN c)
end Go.Proofs.YtjmiaakfdclfjaaGreatDoor
