/-
  Digest: how an argument of lists reads; the law DigestStreams at an argument.
-/
import Derived.Test.YtgipmjpkaemdkaaDoorG41
import Derived.Deep.Matrix
namespace Go.Proofs.YtgipmjpkaemdkaaDoor
open Go.ChangeShapes Go.WideShapes Go.ChangeAt Go.RowKit
/-- A slice of slices of numbers, as an open argument has it. -/
def IsRows (k : IntKind) (w : World) (a : Option Addr) (len cap : Nat) : Prop :=
  (a = none ∧ len = 0 ∧ cap = 0) ∨
  ∃ (x : Addr) (A : Nat → Option Addr) (L C : Nat → Nat) (Z : Nat → List Int), a = some x ∧ len ≤ cap ∧ cap ≤ maxLen ∧ ∀ r, r < cap → w.cell? (x.add r) = some (.slice (A r) (L r) (C r)) ∧ IsRow k w (A r) (L r) (C r) (Z r) ∧ L r ≤ maxLen
theorem IsRows.of {H : Type} {enc : TypeId × Value → H} {P : Program} {w : World} {base : Nat} {held : Bool} {t e q : TypeId} {k : IntKind} {fuel : Nat} {a : Option Addr} {len cap : Nat} {x : DataW H × List MemPlace} (ht : P.underlying t = some (.slice e)) (he : P.underlying e = some (.slice q)) (hq : P.underlying q = some (.int k)) (ce : P.cellsOf e = 1) (cq : P.cellsOf q = 1)
    (h : DataW.trod enc P w base (fun _ => true) held fuel t [.slice a len cap] = some x) : IsRows k w a len cap := by
  rcases Deep.open_int_rows ht he hq ce cq h with ⟨hcs, _⟩ | ⟨x, l, c, A, L, C, Z, hcs, _, hl, hm, _, hr⟩
  · simp at hcs
    exact .inl hcs
  · simp at hcs
    obtain ⟨rfl, rfl, rfl⟩ := hcs
    refine .inr ⟨x, A, L, C, Z, rfl, hl, hm, fun r hc => ?_⟩
    obtain ⟨h1, h2, h3, h4, h5, h6, h7⟩ := hr r hc
    refine ⟨h1, ?_, by omega⟩
    rcases hA : A r with _ | a'
    · have hC := h6 hA
      have hL : L r = 0 := by omega
      have hZ : Z r = [] := List.length_eq_zero_iff.1 (by omega)
      exact .inl ⟨rfl, hL, hC, hZ⟩
    · exact .inr ⟨a', rfl, h2, h3, h4, fun i hi => (h7 a' hA).2 i (by omega), h5⟩
theorem IsRows.lists {w : World} {a : Option Addr} {len cap : Nat} (h : IsRows .u8 w a len cap) : ∃ vs ms, Lists w a len cap vs ms ∧ (∀ i, i < len → (ms.getD i []).length ≤ 9223372036854775807) ∧ len ≤ 9223372036854775807 := by
  rcases h with ⟨rfl, rfl, rfl⟩ | ⟨x, A, L, C, Z, rfl, hl, hm, hr⟩
  · exact ⟨[], [], ⟨⟨none, 0, rfl, Nat.le_refl _, .inl rfl⟩, ⟨rfl, fun i hi => by simp at hi⟩, rfl⟩, fun i hi => by omega, by omega⟩
  · have each : ∀ r, r < cap → ∃ X : List Int, X.length = L r ∧ Sl .u8 w (.slice (A r) (L r) (C r)) X ∧ U8s X := fun r hc => (hr r hc).2.1.sl8
    obtain ⟨X, hX⟩ := Deep.choose_lt each
    have gv : ∀ i, i < len → ((List.range len).map fun r => Value.slice (A r) (L r) (C r)).getD i undef = .slice (A i) (L i) (C i) := fun i hi => by simp [List.getD, hi]
    have gm : ∀ i, i < len → ((List.range len).map X).getD i [] = X i := fun i hi => by simp [List.getD, hi]
    refine ⟨(List.range len).map fun r => Value.slice (A r) (L r) (C r), (List.range len).map X, ⟨⟨some x, cap, by simp, by simpa using hl, ?_⟩, ⟨by simp, fun i hi => ?_⟩, by simp⟩, fun i hi => ?_, ?_⟩
    · by_cases h0 : len = 0
      · subst h0; exact .inl (by simp)
      · right
        obtain ⟨b, off, sp⟩ := x
        have h1 := cell_spot (hr 0 (by omega)).1
        have hsp : sp = none := by
          have := h1.1
          cases sp with
          | none => rfl
          | some s => simp [Addr.add] at this
        subst hsp
        have hb : b < w.heap.size := by have := h1.2; simpa [Addr.add] using this
        refine ⟨b, off, rfl, hb, fun i hi => ?_⟩
        have hi' : i < len := by simpa using hi
        have := (hr i (by omega)).1
        have hadd : (⟨b, off, none⟩ : Addr).add i = ⟨b, off + i, none⟩ := by simp [Addr.add]
        rw [hadd] at this
        rw [this, gv i hi']
    · have hi' : i < len := by simpa using hi
      rw [gv i hi', gm i hi']
      exact (hX i (by omega)).2
    · rw [gm i hi, (hX i (by omega)).1]
      have := (hr i (by omega)).2.2
      unfold maxLen at this; omega
    · unfold maxLen at hm; omega
theorem DigestStreams_law (HC : DigestC) {w : World} (alg : Int) (a : Option Addr) (len cap : Nat) (h : IsRows .u8 w a len cap) (hT : Tabs w) :
    Calls Tryd.prog 4 #[.int .i64 alg, .slice a len cap] w fun e w' => e = .returned (.bool true) ∧ Below w.heap.size w w' := by
  obtain ⟨vs, ms, h1, h2, h3⟩ := h.lists
  exact DigestStreams_any HC alg a len cap vs ms h1 h2 h3 hT
end Go.Proofs.YtgipmjpkaemdkaaDoor
