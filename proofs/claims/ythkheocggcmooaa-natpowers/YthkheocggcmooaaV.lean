/-
  The contracts of the exported functions, said of values; how the laws' arguments read.
-/
import Derived.Test.YthkheocggcmooaaW18
import Derived.Test.YthkheocggcmooaaW23
import Derived.OpenShut
namespace Go.Proofs.Ythkheocggcmooaa
open Go.RowKit

theorem lim_fits {n : Int} {k : Nat} (h0 : 0 ≤ n) (h : n < 4294967296 ^ k) : (lim n.toNat).length ≤ k := lim_len_le (by rw [Int.toNat_of_nonneg h0]; exact h)
theorem val_limI {n : Int} (h0 : 0 ≤ n) : val (lim n.toNat) = n := by rw [val_lim, Int.toNat_of_nonneg h0]

theorem AddV {w : World} (v u : Value) (X Y : List Int) (h : Sl .u32 w v X) (h' : Sl .u32 w u Y) (uX : U32s X) (uY : U32s Y) (lX : X.length ≤ 500) (lY : Y.length ≤ 500) (N : Int) (hN : val X + val Y = N) :
    Calls Try.prog 10 #[v, u] w fun e w' => ∃ r, e = .returned (.tuple #[r, .int .i64 0]) ∧ Own w.heap.size w' r (lim N.toNat) ∧ Below w.heap.size w w' := by
  subst hN
  refine (Add_any X Y v u w h h' uX uY).mono ?_
  have hx := val_nonneg uX; have hy := val_nonneg uY; have hx' := val_lt uX; have hy' := val_lt uY
  have e1 : addS X Y = (lim (val X + val Y).toNat, 0) := by
    have hp := pow_mono lX; have hq := pow_mono lY
    have hl : (lim (val X + val Y).toNat).length ≤ 501 := lim_fits (by omega) (by rw [pow_succ32]; omega)
    unfold addS fit; rw [if_neg (by omega), if_neg (by omega)]
  rintro e w' ⟨⟨r, rfl, hr⟩, hB⟩
  rw [e1] at hr
  exact ⟨r, by rw [e1], hr, hB⟩
theorem SubV {w : World} (v u : Value) (X Y : List Int) (h : Sl .u32 w v X) (h' : Sl .u32 w u Y) (uX : U32s X) (uY : U32s Y) (lX : X.length ≤ 512) (lY : Y.length ≤ 512) (N : Int) (hN : val X - val Y = N) (h0 : 0 ≤ N) :
    Calls Try.prog 12 #[v, u] w fun e w' => ∃ r, e = .returned (.tuple #[r, .int .i64 0]) ∧ Own w.heap.size w' r (lim N.toNat) ∧ Below w.heap.size w w' := by
  subst hN
  refine (Sub_any X Y v u w h h' uX uY).mono ?_
  have e1 : subS X Y = (lim (val X - val Y).toNat, 0) := by unfold subS; rw [if_neg (by omega), if_neg (by omega)]
  rintro e w' ⟨⟨r, rfl, hr⟩, hB⟩
  rw [e1] at hr
  exact ⟨r, by rw [e1], hr, hB⟩
theorem MulV {w : World} (v u : Value) (X Y : List Int) (h : Sl .u32 w v X) (h' : Sl .u32 w u Y) (uX : U32s X) (uY : U32s Y) (lXY : X.length + Y.length ≤ 512) (N : Int) (hN : val X * val Y = N) :
    Calls Try.prog 24 #[v, u] w fun e w' => ∃ r, e = .returned (.tuple #[r, .int .i64 0]) ∧ Own w.heap.size w' r (lim N.toNat) ∧ (lim N.toNat).length ≤ X.length + Y.length ∧ Below w.heap.size w w' := by
  subst hN
  refine (Mul_any X Y v u w h h' uX uY).mono ?_
  have hx := val_nonneg uX; have hy := val_nonneg uY; have hx' := val_lt uX; have hy' := val_lt uY
  have hl : (lim (val X * val Y).toNat).length ≤ X.length + Y.length := lim_fits (Int.mul_nonneg hx hy) (by
    rw [Int.pow_add]
    calc val X * val Y ≤ val X * 4294967296 ^ Y.length := Int.mul_le_mul_of_nonneg_left (Int.le_of_lt hy') hx
      _ < 4294967296 ^ X.length * 4294967296 ^ Y.length := Int.mul_lt_mul_of_pos_right hx' (pow_pos32 _))
  have e1 : mulS X Y = (lim (val X * val Y).toNat, 0) := by unfold mulS fit; rw [if_neg (by omega), if_neg (by omega)]
  rintro e w' ⟨⟨r, rfl, hr⟩, hB⟩
  rw [e1] at hr
  exact ⟨r, by rw [e1], hr, hl, hB⟩
theorem TrimV {w : World} (v : Value) (X : List Int) (h : Sl .u32 w v X) (uX : U32s X) (lX : X.length ≤ 35184372088832) (N : Int) (hN : val X = N) :
    Calls Try.prog 16 #[v] w fun e w' => ∃ r, e = .returned r ∧ Own w.heap.size w' r (lim N.toNat) ∧ Below w.heap.size w w' := by
  subst hN; exact Trim_any X v w h uX lX
theorem DivV {w : World} (v u : Value) (X Y : List Int) (h : Sl .u32 w v X) (h' : Sl .u32 w u Y) (uX : U32s X) (uY : U32s Y) (lX : X.length ≤ 512) (lY : Y.length ≤ 512) (h0 : 0 < val Y) (Q R : Int) (hQ : val X / val Y = Q) (hR : val X % val Y = R) :
    Calls Try.prog 26 #[v, u] w fun e w' => ∃ q r, e = .returned (.tuple #[q, r, .int .i64 0]) ∧ Own w.heap.size w' q (lim Q.toNat) ∧ Own w.heap.size w' r (lim R.toNat) ∧ Below w.heap.size w w' := by
  subst hQ; subst hR
  refine (DivMod_any X Y v u w h h' uX uY (.inr long_ok)).mono ?_
  have e1 : divS X Y = (lim (val X / val Y).toNat, lim (val X % val Y).toNat, 0) := by unfold divS; rw [if_neg (by omega), if_neg (by omega)]
  rintro e w' ⟨⟨q, r, rfl, hq, hr⟩, hB⟩
  rw [e1] at hr hq
  exact ⟨q, r, by rw [e1], hq, hr, hB⟩
theorem CmpV {w : World} (v u : Value) (X Y : List Int) (h : Sl .u32 w v X) (h' : Sl .u32 w u Y) (uX : U32s X) (uY : U32s Y) (lX : X.length ≤ 1152921504606846976) (lY : Y.length ≤ 1152921504606846976) (c : Int) (hc : cmpI (val X) (val Y) = c) :
    Calls Try.prog 20 #[v, u] w fun e w' => e = .returned (.int .i64 c) ∧ Below w.heap.size w w' := Cmp_sl v u X Y h h' uX uY lX lY c hc

/-! ### how an argument reads -/
def IsRow (k : IntKind) (w : World) (a : Option Addr) (len cap : Nat) (zs : List Int) : Prop :=
  (a = none ∧ len = 0 ∧ cap = 0 ∧ zs = []) ∨
  ∃ x, a = some x ∧ len ≤ cap ∧ cap ≤ maxLen ∧ zs.length = cap ∧ (∀ i, i < zs.length → w.cell? (x.add i) = some (.int k (zs.getD i 0))) ∧ ∀ n ∈ zs, (Lit.int k n).wf = true
theorem cell_spot {w : World} {x : Addr} {v : Value} (h : w.cell? x = some v) : x.spot = none ∧ x.block < w.heap.size := by
  unfold World.cell? at h
  split at h
  · rename_i c t f hh
    refine ⟨?_, (Array.getElem?_eq_some_iff.1 hh).1⟩
    by_cases hs : x.spot.isSome
    · simp [hs] at h
    · simpa using hs
  · cases h
theorem IsRow.sl {k : IntKind} {w : World} {a : Option Addr} {len cap : Nat} {zs : List Int} (h : IsRow k w a len cap zs) :
    ∃ X, X.length = len ∧ Sl k w (.slice a len cap) X ∧ ∀ n ∈ X, (Lit.int k n).wf = true := by
  rcases h with ⟨rfl, rfl, rfl, rfl⟩ | ⟨x, rfl, hl, hm, hz, hc, hw⟩
  · exact ⟨[], rfl, ⟨none, 0, rfl, Nat.le_refl _, .inl rfl⟩, by simp⟩
  · refine ⟨zs.take len, by simp; omega, ⟨some x, cap, by simp; omega, by simp; omega, ?_⟩, fun n hn => hw n (List.mem_of_mem_take hn)⟩
    by_cases h0 : len = 0
    · subst h0; exact .inl (by simp)
    · right
      obtain ⟨b, off, sp⟩ := x
      have h1 := cell_spot (hc 0 (by omega))
      have hsp : sp = none := by
        have := h1.1
        cases sp with
        | none => rfl
        | some s => simp [Addr.add] at this
      subst hsp
      have hb : b < w.heap.size := by have := h1.2; simpa [Addr.add] using this
      refine ⟨b, off, rfl, hb, fun i hi => ?_⟩
      simp at hi
      have := hc i (by omega)
      have hadd : (⟨b, off, none⟩ : Addr).add i = ⟨b, off + i, none⟩ := by simp [Addr.add]
      rw [hadd] at this
      rw [this]
      simp [show i < len by omega]
theorem IsRow.sl32 {w : World} {a : Option Addr} {len cap : Nat} {zs : List Int} (h : IsRow .u32 w a len cap zs) : ∃ X, X.length = len ∧ Sl .u32 w (.slice a len cap) X ∧ U32s X := by
  obtain ⟨X, h1, h2, h3⟩ := h.sl
  exact ⟨X, h1, h2, fun n hn => by have := bounds_u32 (h3 n hn); exact ⟨this.1, by omega⟩⟩
theorem IsRow.sl8 {w : World} {a : Option Addr} {len cap : Nat} {zs : List Int} (h : IsRow .u8 w a len cap zs) : ∃ X, X.length = len ∧ Sl .u8 w (.slice a len cap) X ∧ U8s X := by
  obtain ⟨X, h1, h2, h3⟩ := h.sl
  exact ⟨X, h1, h2, fun n hn => by have := bounds_u8 (h3 n hn); exact ⟨this.1, by omega⟩⟩
end Go.Proofs.Ythkheocggcmooaa
