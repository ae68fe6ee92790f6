/-
  Ber: a tree as an argument, opened.
-/
import Derived.Deep.Slices
import Derived.Test.YtefebamomdcaaaaGreatDoorK38
namespace Go.Proofs.YtefebamomdcaaaaGreatDoor
open Go.ChangeShapes Go.WideShapes Go.ChangeAt Go.RowKit
set_option maxRecDepth 20000 in
/-- A slice of elements, opened. -/
theorem elS_of {H : Type} {enc : TypeId × Value → H} {w : World} {held : Bool} {fuel : Nat} {a : Option Addr} {len cap : Nat} {x : DataW H × List MemPlace}
    (h : DataW.trod enc Tryz.prog w 0 (fun _ => true) held fuel 25 [.slice a len cap] = some x) : ∃ L, ElS w (.slice a len cap) L ∧ (∀ x ∈ L, U8s x.d ∧ x.d.length ≤ 9223372036854775807) ∧ L.length ≤ 9223372036854775807 := by
  rcases Deep.open_slice Tryz.undE h with ⟨hcs, _⟩ | ⟨ad, len', cap', m, n, D, Pl, hcs, hb, hl, hm, hmm, _, hx⟩
  · simp at hcs
    obtain ⟨rfl, rfl, rfl⟩ := hcs
    exact ⟨[], ⟨none, 0, [], rfl, Nat.le_refl _, rfl, .inl rfl, by simp⟩, by simp, by simp⟩
  · simp at hcs
    obtain ⟨rfl, rfl, rfl⟩ := hcs
    have hmc : m = cap := by simpa using hmm
    subst hmc
    have ce : Tryz.prog.cellsOf 59 = 5 := by kernel_rfl
    have c1 : Tryz.prog.cellsOf 3 = 1 := by kernel_rfl
    have c2 : Tryz.prog.cellsOf 4 = 1 := by kernel_rfl
    have c3 : Tryz.prog.cellsOf 22 = 1 := by kernel_rfl
    have each : ∀ i, i < m → ∃ z : Tv, (∀ k, k < 5 → w.cell? (ad.add (i * 5 + k)) = (cellE z)[k]?) ∧ Sl .u8 w z.2 z.1.d ∧ U8s z.1.d ∧ z.1.d.length ≤ 9223372036854775807 := by
      intro i hi
      obtain ⟨cs', h1, h2⟩ := hx i hi
      rw [ce] at h1
      obtain ⟨_, hlen, hcell⟩ := World.cells?_some h1
      obtain ⟨xs, k, hk, hxy, _, hxl, hf⟩ := DataW.trod_struct Tryz.underlying59 h2
      have hxl5 : xs.length = 5 := by rw [hxl]; rfl
      clear hxl hxy
      match xs, hxl5, cs', hlen with
      | [y0, y1, y2, y3, y4], _, [v0, v1, v2, v3, v4], _ =>
        have g0 := hf 0 _ rfl
        have g1 := hf 1 _ rfl
        have g2 := hf 2 _ rfl
        have g3 := hf 3 _ rfl
        have g4 := hf 4 _ rfl
        simp [c1, c2, c3] at g0 g1 g2 g3 g4
        obtain ⟨q0, e0, _, _⟩ := DataW.trod_int Tryz.underlying3 g0
        obtain ⟨q1, e1, _, _⟩ := DataW.trod_int Tryz.underlying3 g1
        obtain ⟨q2, e2, _, _⟩ := DataW.trod_int Tryz.underlying3 g2
        obtain ⟨q3, e3, _⟩ := DataW.trod_bool Tryz.underlying4 g3
        simp only [List.cons.injEq, and_true] at e0 e1 e2 e3
        subst e0; subst e1; subst e2; subst e3
        have d0 := hcell 0 (by omega)
        have d1 := hcell 1 (by omega)
        have d2 := hcell 2 (by omega)
        have d3 := hcell 3 (by omega)
        have d4 := hcell 4 (by omega)
        rw [Deep.add_add] at d0 d1 d2 d3 d4
        obtain ⟨X, hX⟩ : ∃ X : List Int, Sl .u8 w v4 X ∧ U8s X ∧ X.length ≤ 9223372036854775807 := by
          rcases open_ints Tryz.underlying22 Tryz.underlying5 (by kernel_rfl) g4 with ⟨hcs, _⟩ | ⟨x3, l3, c3', zs, hcs, _, hl3, hm3, hz, _, hcell3, hwz⟩
          · simp at hcs
            subst hcs
            exact ⟨[], ⟨none, 0, rfl, Nat.le_refl _, .inl rfl⟩, (by intro y hy; cases hy), by simp⟩
          · simp at hcs
            subst hcs
            have hrow : IsRow .u8 w (some x3) l3 c3' zs := .inr ⟨_, rfl, hl3, hm3, by simpa using hz, hcell3, hwz⟩
            obtain ⟨X, hXl, hXs, hXu⟩ := hrow.sl8
            exact ⟨X, hXs, hXu, by unfold maxLen at hm3; omega⟩
        refine ⟨(⟨q0, q1, q2, q3, X⟩, v4), fun k hk => ?_, hX⟩
        rcases k with _ | _ | _ | _ | _ | k
        · simpa [cellE] using d0
        · simpa [cellE] using d1
        · simpa [cellE] using d2
        · simpa [cellE] using d3
        · simpa [cellE] using d4
        · omega
    have hi : Inhabited Tv := ⟨(⟨0, 0, 0, false, []⟩, undef)⟩
    obtain ⟨z, hz⟩ := Deep.choose_lt each
    have hlY : ((List.range len).map z).length = len := by simp
    have hYi : ∀ q (h : q < ((List.range len).map z).length), ((List.range len).map z)[q] = z q := fun q h => by simp
    refine ⟨((List.range len).map z).map (·.1), ⟨some ad, m, (List.range len).map z, by simp, by simpa using hl, rfl, ?_, fun y hy => ?_⟩, fun y hy => ?_, by simp; unfold maxLen at hm; omega⟩
    · by_cases h0 : len = 0
      · subst h0; exact .inl rfl
      · right
        obtain ⟨b, off, sp⟩ := ad
        have h1 := cell_spot (show w.cell? ((⟨b, off, sp⟩ : Addr).add (0 * 5 + 0)) = some (.int .i64 (z 0).1.dp) from (hz 0 (by omega)).1 0 (by omega))
        have hsp : sp = none := by
          have := h1.1
          cases sp with
          | none => rfl
          | some s => simp [Addr.add] at this
        subst hsp
        have hb' : b < w.heap.size := by have := h1.2; simpa [Addr.add] using this
        refine ⟨b, off, rfl, hb', fun i hi => ?_⟩
        rw [List.length_map, hlY] at hi
        have hq : i / 5 < ((List.range len).map z).length := by rw [hlY]; omega
        have h2 := elCells_at hq (i % 5) (Nat.mod_lt _ (by decide))
        rw [hYi _ hq] at h2
        have hid : i / 5 * 5 + i % 5 = i := by omega
        have h3 := (hz (i / 5) (by omega)).1 (i % 5) (Nat.mod_lt _ (by decide))
        rw [hid] at h2 h3
        rw [h2, ← h3]
        have hadd : (⟨b, off, none⟩ : Addr).add i = ⟨b, off + i, none⟩ := by simp [Addr.add]
        rw [hadd]
    · obtain ⟨q, hq, rfl⟩ := List.mem_map.1 hy
      exact (hz q (by have := List.mem_range.1 hq; omega)).2.1
    · obtain ⟨u, hu, rfl⟩ := List.mem_map.1 hy
      obtain ⟨q, hq, rfl⟩ := List.mem_map.1 hu
      exact (hz q (by have := List.mem_range.1 hq; omega)).2.2
end Go.Proofs.YtefebamomdcaaaaGreatDoor
