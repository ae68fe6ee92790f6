/-
  Der: the law DerBack at an argument.
-/
import Derived.Test.YtndcpjnfdgojkaaDoorE62
import Derived.Test.YtndcpjnfdgojkaaDoorLaidD
import Derived.Deep.Slices
namespace Go.Proofs.YtndcpjnfdgojkaaDoor
open Go.ChangeShapes Go.WideShapes Go.ChangeAt Go.RowKit
instance : Inhabited (El × Value) := ⟨(⟨0, 0, false, [], []⟩, undef)⟩
set_option maxRecDepth 20000 in
/-- A slice of elements, opened. -/
theorem TlvArg.of {H : Type} {enc : TypeId × Value → H} {w : World} {held : Bool} {fuel : Nat} {a : Option Addr} {len cap : Nat} {x : DataW H × List MemPlace}
    (h : DataW.trod enc Tryd.prog w 0 (fun _ => true) held fuel 25 [.slice a len cap] = some x) : ∃ Z, TlvArg w a len cap Z ∧ len ≤ 9223372036854775807 := by
  rcases Deep.open_slice Tryd.undT h with ⟨hcs, _⟩ | ⟨ad, len', cap', m, n, D, Pl, hcs, hb, hl, hm, hmm, _, hx⟩
  · simp at hcs
    obtain ⟨rfl, rfl, rfl⟩ := hcs
    exact ⟨[], ⟨rfl, Nat.le_refl _, .inl rfl, by simp⟩, by omega⟩
  · simp at hcs
    obtain ⟨rfl, rfl, rfl⟩ := hcs
    have hmc : m = cap := by simpa using hmm
    subst hmc
    have ce : Tryd.prog.cellsOf 32 = 5 := by kernel_rfl
    have c1 : Tryd.prog.cellsOf 3 = 1 := by kernel_rfl
    have c2 : Tryd.prog.cellsOf 4 = 1 := by kernel_rfl
    have c3 : Tryd.prog.cellsOf 22 = 1 := by kernel_rfl
    have each : ∀ i, i < m → ∃ z : El × Value, w.cell? (ad.add (i * 5)) = some (.int .i64 z.1.cl) ∧ w.cell? (ad.add (i * 5 + 1)) = some (.int .i64 z.1.tg) ∧ w.cell? (ad.add (i * 5 + 2)) = some (.bool z.1.co) ∧ w.cell? (ad.add (i * 5 + 3)) = some z.2 ∧ Sl .u8 w z.2 z.1.d ∧ U8s z.1.d ∧ z.1.d.length ≤ 9223372036854775807 := by
      intro i hi
      obtain ⟨cs', h1, h2⟩ := hx i hi
      rw [ce] at h1
      obtain ⟨_, hlen, hcell⟩ := World.cells?_some h1
      obtain ⟨xs, k, hk, hxy, _, hxl, hf⟩ := DataW.trod_struct Tryd.underlying32 h2
      have hxl5 : xs.length = 5 := by rw [hxl]; rfl
      clear hxl hxy
      match xs, hxl5, cs', hlen with
      | [y0, y1, y2, y3, y4], _, [v0, v1, v2, v3, v4], _ =>
        have g0 := hf 0 _ rfl
        have g1 := hf 1 _ rfl
        have g2 := hf 2 _ rfl
        have g3 := hf 3 _ rfl
        simp [c1, c2, c3] at g0 g1 g2 g3
        obtain ⟨q0, e0, _, _⟩ := DataW.trod_int Tryd.underlying3 g0
        obtain ⟨q1, e1, _, _⟩ := DataW.trod_int Tryd.underlying3 g1
        obtain ⟨q2, e2, _⟩ := DataW.trod_bool Tryd.underlying4 g2
        simp only [List.cons.injEq, and_true] at e0 e1 e2
        subst e0; subst e1; subst e2
        have d0 := hcell 0 (by omega)
        have d1 := hcell 1 (by omega)
        have d2 := hcell 2 (by omega)
        have d3 := hcell 3 (by omega)
        rw [Deep.add_add] at d0 d1 d2 d3
        obtain ⟨X, hX⟩ : ∃ X : List Int, Sl .u8 w v3 X ∧ U8s X ∧ X.length ≤ 9223372036854775807 := by
          rcases open_ints Tryd.underlying22 Tryd.underlying5 (by kernel_rfl) g3 with ⟨hcs, _⟩ | ⟨x3, l3, c3', zs, hcs, _, hl3, hm3, hz, _, hcell3, hwz⟩
          · simp at hcs
            subst hcs
            exact ⟨[], nil_sl _, nil_u8, by simp⟩
          · simp at hcs
            subst hcs
            have hrow : IsRow .u8 w (some x3) l3 c3' zs := .inr ⟨_, rfl, hl3, hm3, by simpa using hz, hcell3, hwz⟩
            obtain ⟨X, hXl, hXs, hXu⟩ := hrow.sl8
            exact ⟨X, hXs, hXu, by unfold maxLen at hm3; omega⟩
        exact ⟨(⟨q0, q1, q2, X, []⟩, v3), by simpa using d0, by simpa using d1, by simpa using d2, by simpa using d3, hX⟩
    obtain ⟨z, hz⟩ := Deep.choose_lt each
    refine ⟨(List.range len).map z, ⟨by simp, hl, ?_, ?_⟩, by unfold maxLen at hm; omega⟩
    · by_cases h0 : len = 0
      · exact .inl h0
      · right
        obtain ⟨b, off, sp⟩ := ad
        have h1 := cell_spot (hz 0 (by omega)).1
        have hsp : sp = none := by
          have := h1.1
          cases sp with
          | none => rfl
          | some s => simp [Addr.add] at this
        subst hsp
        have hb' : b < w.heap.size := by have := h1.2; simpa [Addr.add] using this
        refine ⟨b, off, rfl, hb', fun i y hy => ?_⟩
        rw [List.getElem?_map] at hy
        have hi : i < len := by
          by_cases hi : i < len
          · exact hi
          · rw [List.getElem?_eq_none (by simp; omega)] at hy; simp at hy
        rw [List.getElem?_range hi] at hy
        simp only [Option.map_some, Option.some.injEq] at hy
        subst hy
        have hadd : ∀ q, (⟨b, off, none⟩ : Addr).add q = ⟨b, off + q, none⟩ := fun q => by simp [Addr.add]
        have h2 := hz i (by omega)
        rw [hadd, hadd, hadd, hadd] at h2
        exact ⟨h2.1, by rw [Nat.add_assoc]; exact h2.2.1, by rw [Nat.add_assoc]; exact h2.2.2.1, by rw [Nat.add_assoc]; exact h2.2.2.2.1⟩
    · intro y hy
      obtain ⟨i, hi, rfl⟩ := List.mem_map.1 hy
      exact (hz i (by have := List.mem_range.1 hi; omega)).2.2.2.2
end Go.Proofs.YtndcpjnfdgojkaaDoor
