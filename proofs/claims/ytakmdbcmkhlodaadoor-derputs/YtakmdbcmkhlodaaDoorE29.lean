/-
  Der: the law DerPuts at an argument.
-/
import Derived.Test.YtakmdbcmkhlodaaDoorE28
import Derived.Test.YtakmdbcmkhlodaaDoorLaidD
import Derived.Deep.Matrix
namespace Go.Proofs.YtakmdbcmkhlodaaDoor
open Go.ChangeShapes Go.WideShapes Go.ChangeAt Go.RowKit
theorem ex_sev (t : Nat) (h : t ≤ 268435455) : ∃ k, k ≤ 8 ∧ t / 128 ^ k < 128 ∧ ∀ j, j < k → 128 ≤ t / 128 ^ j := by
  by_cases h0 : t < 128
  · exact ⟨0, by omega, by simpa using h0, fun j hj => by omega⟩
  by_cases h1 : t < 16384
  · exact ⟨1, by omega, by simp; omega, fun j hj => by
      obtain rfl : j = 0 := by omega
      simp
      omega⟩
  by_cases h2 : t < 2097152
  · exact ⟨2, by omega, by simp; omega, fun j hj => by
      have : j = 0 ∨ j = 1 := by omega
      rcases this with rfl | rfl <;> simp <;> omega⟩
  · exact ⟨3, by omega, by simp; omega, fun j hj => by
      have : j = 0 ∨ j = 1 ∨ j = 2 := by omega
      rcases this with rfl | rfl | rfl <;> simp <;> omega⟩
theorem ex_len (t : Nat) (h : t ≤ 16777216) : ∃ l, l ≤ 7 ∧ t / 256 ^ l = 0 ∧ ∀ j, j < l → 0 < t / 256 ^ j := by
  by_cases h0 : t = 0
  · exact ⟨0, by omega, by simpa using h0, fun j hj => by omega⟩
  by_cases h1 : t < 256
  · exact ⟨1, by omega, by simp; omega, fun j hj => by
      obtain rfl : j = 0 := by omega
      simp
      omega⟩
  by_cases h2 : t < 65536
  · exact ⟨2, by omega, by simp; omega, fun j hj => by
      have : j = 0 ∨ j = 1 := by omega
      rcases this with rfl | rfl <;> simp <;> omega⟩
  by_cases h3 : t < 16777216
  · exact ⟨3, by omega, by simp; omega, fun j hj => by
      have : j = 0 ∨ j = 1 ∨ j = 2 := by omega
      rcases this with rfl | rfl | rfl <;> simp <;> omega⟩
  · exact ⟨4, by omega, by simp; omega, fun j hj => by
      have : j = 0 ∨ j = 1 ∨ j = 2 ∨ j = 3 := by omega
      rcases this with rfl | rfl | rfl | rfl <;> simp <;> omega⟩
theorem nil_sl8 (w : World) : Sl .u8 w (.slice none 0 0) [] := ⟨none, 0, rfl, Nat.le_refl _, .inl rfl⟩
theorem DerPuts_any {w : World} (cl tg : Int) (cons : Bool) (a : Option Addr) (n c : Nat) (vs : List Value) (ms : List (List Int)) (hL : Lists w a n c vs ms) (hl : ∀ i, i < n → (ms.getD i []).length ≤ 9223372036854775807) (hn0 : n ≤ 9223372036854775807) (hT : Tab w) :
    Calls Tryd.prog 3 #[.int .i64 cl, .int .i64 tg, .bool cons, .slice a n c] w fun e w' => e = .returned (.bool true) ∧ Below w.heap.size w w' := by
  refine DerPuts_main cl tg cons a n c vs ms hL hl hn0 hT fun hms hn1 => ?_
  by_cases h : headOk cl tg = true
  · have hh : 0 ≤ cl ∧ cl ≤ 3 ∧ 0 ≤ tg ∧ tg ≤ 268435455 := by unfold headOk at h; simp at h; omega
    obtain ⟨t, rfl⟩ := Int.eq_ofNat_of_zero_le hh.2.2.1
    obtain ⟨k, hk8, hk, hk1⟩ := ex_sev t (by omega)
    obtain ⟨l, hl8, hl0, hl1⟩ := ex_len ms.flatten.length (by omega)
    refine ⟨headB cl cons t k ++ lenB ms.flatten.length l ++ ms.flatten, 0, ?_, ?_, ?_⟩
    · have : (headB cl cons t k ++ lenB ms.flatten.length l).length ≤ 20 := by unfold headB lenB sev; split <;> split <;> simp [tp_len, tb_len] <;> omega
      rw [List.length_append]; omega
    · intro w' v us hb hv hm
      obtain ⟨a', c', rfl, hc, hx⟩ := hv
      have hlen : us.length = ms.length := hm.1
      refine (Put_any cl t k l cons a' us.length c' _ us ms ⟨⟨a', c', rfl, hc, hx⟩, hm, hlen.symm⟩ rfl (by omega) (by rw [hlen, hL.len]; omega) h hk hk1 hk8 hl0 hl1 hl8).mono ?_
      rintro e w2 ⟨r, rfl, hr, hb2⟩
      exact ⟨r, rfl, hr.sl, hb2⟩
    · intro w' hb
      refine (RPut_any cl t k l cons a n c _ vs ms (hL.below hb) rfl (by omega) (by omega) h hk hk1 hk8 hl0 hl1 hl8).mono ?_
      rintro e w2 ⟨r, rfl, hr, hb2⟩
      exact ⟨r, rfl, hr.sl, hb2⟩
  · have h' : headOk cl tg = false := by simpa using h
    refine ⟨[], 1, by simp, ?_, ?_⟩
    · intro w' v us hb hv hm
      refine (Put_no cl tg cons v h').mono ?_
      rintro e w2 ⟨rfl, rfl⟩
      exact ⟨_, rfl, nil_sl8 _, Below.refl _ _⟩
    · intro w' hb
      refine (RPut_no cl tg cons _ h').mono ?_
      rintro e w2 ⟨rfl, rfl⟩
      exact ⟨_, rfl, nil_sl8 _, Below.refl _ _⟩
/-- A slice of slices of numbers, as an open argument has it. -/
def IsRows (k : IntKind) (w : World) (a : Option Addr) (len cap : Nat) : Prop :=
  (a = none ∧ len = 0 ∧ cap = 0) ∨
  ∃ (x : Addr) (A : Nat → Option Addr) (L C : Nat → Nat) (Z : Nat → List Int), a = some x ∧ len ≤ cap ∧ cap ≤ maxLen ∧ ∀ r, r < cap → w.cell? (x.add r) = some (.slice (A r) (L r) (C r)) ∧ IsRow k w (A r) (L r) (C r) (Z r) ∧ L r ≤ maxLen
theorem IsRows.of {H : Type} {enc : TypeId × Value → H} {P : Program} {w : World} {base : Nat} {held : Bool} {t e q : TypeId} {k : IntKind} {fuel : Nat} {a : Option Addr} {len cap : Nat} {x : DataW H × List MemPlace} (ht : P.underlying t = some (.slice e)) (he : P.underlying e = some (.slice q)) (hq : P.underlying q = some (.int k)) (ce : P.cellsOf e = 1) (cq : P.cellsOf q = 1)
    (h : DataW.trod enc P w base (fun _ => true) held fuel t [.slice a len cap] = some x) : IsRows k w a len cap := by
  rcases Deep.open_int_rows ht he hq ce cq h with ⟨hcs, _⟩ | ⟨x, l, c, A, L, C, Z, hcs, _, hl, hm, _, hr⟩
  · simp at hcs
    exact .inl hcs
  · simp at hcs
    obtain ⟨rfl, rfl, rfl⟩ := hcs
    refine .inr ⟨x, A, L, C, Z, rfl, hl, hm, fun r hc => ?_⟩
    obtain ⟨h1, h2, h3, h4, h5, h6, h7⟩ := hr r hc
    refine ⟨h1, ?_, by omega⟩
    rcases hA : A r with _ | a'
    · have hC := h6 hA
      have hL : L r = 0 := by omega
      have hZ : Z r = [] := List.length_eq_zero_iff.1 (by omega)
      exact .inl ⟨rfl, hL, hC, hZ⟩
    · exact .inr ⟨a', rfl, h2, h3, h4, fun i hi => (h7 a' hA).2 i (by omega), h5⟩
theorem IsRows.lists {w : World} {a : Option Addr} {len cap : Nat} (h : IsRows .u8 w a len cap) : ∃ vs ms, Lists w a len cap vs ms ∧ (∀ i, i < len → (ms.getD i []).length ≤ 9223372036854775807) ∧ len ≤ 9223372036854775807 := by
  rcases h with ⟨rfl, rfl, rfl⟩ | ⟨x, A, L, C, Z, rfl, hl, hm, hr⟩
  · exact ⟨[], [], ⟨⟨none, 0, rfl, Nat.le_refl _, .inl rfl⟩, ⟨rfl, fun i hi => by simp at hi⟩, rfl⟩, fun i hi => by omega, by omega⟩
  · have each : ∀ r, r < cap → ∃ X : List Int, X.length = L r ∧ Sl .u8 w (.slice (A r) (L r) (C r)) X ∧ U8s X := fun r hc => (hr r hc).2.1.sl8
    obtain ⟨X, hX⟩ := Deep.choose_lt each
    have gv : ∀ i, i < len → ((List.range len).map fun r => Value.slice (A r) (L r) (C r)).getD i undef = .slice (A i) (L i) (C i) := fun i hi => by simp [List.getD, hi]
    have gm : ∀ i, i < len → ((List.range len).map X).getD i [] = X i := fun i hi => by simp [List.getD, hi]
    refine ⟨(List.range len).map fun r => Value.slice (A r) (L r) (C r), (List.range len).map X, ⟨⟨some x, cap, by simp, by simpa using hl, ?_⟩, ⟨by simp, fun i hi => ?_⟩, by simp⟩, fun i hi => ?_, ?_⟩
    · by_cases h0 : len = 0
      · subst h0; exact .inl (by simp)
      · right
        obtain ⟨b, off, sp⟩ := x
        have h1 := cell_spot (hr 0 (by omega)).1
        have hsp : sp = none := by
          have := h1.1
          cases sp with
          | none => rfl
          | some s => simp [Addr.add] at this
        subst hsp
        have hb : b < w.heap.size := by have := h1.2; simpa [Addr.add] using this
        refine ⟨b, off, rfl, hb, fun i hi => ?_⟩
        have hi' : i < len := by simpa using hi
        have := (hr i (by omega)).1
        have hadd : (⟨b, off, none⟩ : Addr).add i = ⟨b, off + i, none⟩ := by simp [Addr.add]
        rw [hadd] at this
        rw [this, gv i hi']
    · have hi' : i < len := by simpa using hi
      rw [gv i hi', gm i hi']
      exact (hX i (by omega)).2
    · rw [gm i hi, (hX i (by omega)).1]
      have := (hr i (by omega)).2.2
      unfold maxLen at this; omega
    · unfold maxLen at hm; omega
theorem DerPuts_law {w : World} (cl tg : Int) (cons : Bool) (a : Option Addr) (len cap : Nat) (h : IsRows .u8 w a len cap) (hT : Tab w) :
    Calls Tryd.prog 3 #[.int .i64 cl, .int .i64 tg, .bool cons, .slice a len cap] w fun e w' => e = .returned (.bool true) ∧ Below w.heap.size w w' := by
  obtain ⟨vs, ms, hL, hl, hn⟩ := h.lists
  exact DerPuts_any cl tg cons a len cap vs ms hL hl hn hT
end Go.Proofs.YtakmdbcmkhlodaaDoor
