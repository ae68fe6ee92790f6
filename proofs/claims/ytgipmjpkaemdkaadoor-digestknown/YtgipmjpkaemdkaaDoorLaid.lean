/-
  Digest: what the tied list of tables gives; a world for the witness; how an argument reads.
-/
import Derived.Test.YtgipmjpkaemdkaaDoorG6
import Derived.Test.YtgipmjpkaemdkaaDoorRows
import Derived.Lib.LaidTab
import Derived.LaidSub
import Derived.MakeChecks
import Derived.OpenShut
import Derived.ProofKit
namespace Go.Proofs.YtgipmjpkaemdkaaDoor
open Go.ChangeShapes Go.WideShapes Go.ChangeAt Go.RowKit
/-! ### how an argument reads -/
def IsRow (k : IntKind) (w : World) (a : Option Addr) (len cap : Nat) (zs : List Int) : Prop :=
  (a = none ∧ len = 0 ∧ cap = 0 ∧ zs = []) ∨
  ∃ x, a = some x ∧ len ≤ cap ∧ cap ≤ maxLen ∧ zs.length = cap ∧ (∀ i, i < zs.length → w.cell? (x.add i) = some (.int k (zs.getD i 0))) ∧ ∀ n ∈ zs, (Lit.int k n).wf = true
theorem cell_spot {w : World} {x : Addr} {v : Value} (h : w.cell? x = some v) : x.spot = none ∧ x.block < w.heap.size := by
  unfold World.cell? at h
  split at h
  · rename_i c t f hh
    refine ⟨?_, (Array.getElem?_eq_some_iff.1 hh).1⟩
    by_cases hs : x.spot.isSome
    · simp [hs] at h
    · simpa using hs
  · cases h
theorem IsRow.sl {k : IntKind} {w : World} {a : Option Addr} {len cap : Nat} {zs : List Int} (h : IsRow k w a len cap zs) :
    ∃ X, X.length = len ∧ Sl k w (.slice a len cap) X ∧ ∀ n ∈ X, (Lit.int k n).wf = true := by
  rcases h with ⟨rfl, rfl, rfl, rfl⟩ | ⟨x, rfl, hl, hm, hz, hc, hw⟩
  · exact ⟨[], rfl, ⟨none, 0, rfl, Nat.le_refl _, .inl rfl⟩, by simp⟩
  · refine ⟨zs.take len, by simp; omega, ⟨some x, cap, by simp; omega, by simp; omega, ?_⟩, fun n hn => hw n (List.mem_of_mem_take hn)⟩
    by_cases h0 : len = 0
    · subst h0; exact .inl (by simp)
    · right
      obtain ⟨b, off, sp⟩ := x
      have h1 := cell_spot (hc 0 (by omega))
      have hsp : sp = none := by
        have := h1.1
        cases sp with
        | none => rfl
        | some s => simp [Addr.add] at this
      subst hsp
      have hb : b < w.heap.size := by have := h1.2; simpa [Addr.add] using this
      refine ⟨b, off, rfl, hb, fun i hi => ?_⟩
      simp at hi
      have := hc i (by omega)
      have hadd : (⟨b, off, none⟩ : Addr).add i = ⟨b, off + i, none⟩ := by simp [Addr.add]
      rw [hadd] at this
      rw [this]
      simp [show i < len by omega]
theorem IsRow.sl8 {w : World} {a : Option Addr} {len cap : Nat} {zs : List Int} (h : IsRow .u8 w a len cap zs) : ∃ X, X.length = len ∧ Sl .u8 w (.slice a len cap) X ∧ U8s X := by
  obtain ⟨X, h1, h2, h3⟩ := h.sl
  exact ⟨X, h1, h2, fun n hn => by have := bounds_u8 (h3 n hn); exact ⟨this.1, by omega⟩⟩
theorem Tryd.g_first1 : Tryd.prog.globalNamed "chirograph/sha.first1" = some 0 := by kernel_rfl
theorem Tryd.gt_first1 : (Tryd.prog.globals[0]?).map (·.type) = some 49 := by kernel_rfl
theorem Tryd.gc_first1 : Tryd.prog.cellsOf 49 = 8 := by kernel_rfl
theorem Tryd.lf_first1 : Rows.digestSumsRow.laid.filter (fun x => x.1 == "chirograph/sha.first1") = [("chirograph/sha.first1", Lib.tabData .u32 first1L)] := by kernel_rfl
theorem Tryd.g_first256 : Tryd.prog.globalNamed "chirograph/sha.first256" = some 1 := by kernel_rfl
theorem Tryd.gt_first256 : (Tryd.prog.globals[1]?).map (·.type) = some 49 := by kernel_rfl
theorem Tryd.gc_first256 : Tryd.prog.cellsOf 49 = 8 := by kernel_rfl
theorem Tryd.lf_first256 : Rows.digestSumsRow.laid.filter (fun x => x.1 == "chirograph/sha.first256") = [("chirograph/sha.first256", Lib.tabData .u32 first256L)] := by kernel_rfl
theorem Tryd.g_first384 : Tryd.prog.globalNamed "chirograph/sha.first384" = some 2 := by kernel_rfl
theorem Tryd.gt_first384 : (Tryd.prog.globals[2]?).map (·.type) = some 51 := by kernel_rfl
theorem Tryd.gc_first384 : Tryd.prog.cellsOf 51 = 8 := by kernel_rfl
theorem Tryd.lf_first384 : Rows.digestSumsRow.laid.filter (fun x => x.1 == "chirograph/sha.first384") = [("chirograph/sha.first384", Lib.tabData .u64 first384L)] := by kernel_rfl
theorem Tryd.g_first512 : Tryd.prog.globalNamed "chirograph/sha.first512" = some 3 := by kernel_rfl
theorem Tryd.gt_first512 : (Tryd.prog.globals[3]?).map (·.type) = some 51 := by kernel_rfl
theorem Tryd.gc_first512 : Tryd.prog.cellsOf 51 = 8 := by kernel_rfl
theorem Tryd.lf_first512 : Rows.digestSumsRow.laid.filter (fun x => x.1 == "chirograph/sha.first512") = [("chirograph/sha.first512", Lib.tabData .u64 first512L)] := by kernel_rfl
theorem Tryd.g_adds1 : Tryd.prog.globalNamed "chirograph/sha.adds1" = some 4 := by kernel_rfl
theorem Tryd.gt_adds1 : (Tryd.prog.globals[4]?).map (·.type) = some 75 := by kernel_rfl
theorem Tryd.gc_adds1 : Tryd.prog.cellsOf 75 = 4 := by kernel_rfl
theorem Tryd.lf_adds1 : Rows.digestSumsRow.laid.filter (fun x => x.1 == "chirograph/sha.adds1") = [("chirograph/sha.adds1", Lib.tabData .u32 adds1L)] := by kernel_rfl
theorem Tryd.g_adds256 : Tryd.prog.globalNamed "chirograph/sha.adds256" = some 5 := by kernel_rfl
theorem Tryd.gt_adds256 : (Tryd.prog.globals[5]?).map (·.type) = some 66 := by kernel_rfl
theorem Tryd.gc_adds256 : Tryd.prog.cellsOf 66 = 64 := by kernel_rfl
theorem Tryd.lf_adds256 : Rows.digestSumsRow.laid.filter (fun x => x.1 == "chirograph/sha.adds256") = [("chirograph/sha.adds256", Lib.tabData .u32 adds256L)] := by kernel_rfl
theorem Tryd.g_adds512 : Tryd.prog.globalNamed "chirograph/sha.adds512" = some 6 := by kernel_rfl
theorem Tryd.gt_adds512 : (Tryd.prog.globals[6]?).map (·.type) = some 68 := by kernel_rfl
theorem Tryd.gc_adds512 : Tryd.prog.cellsOf 68 = 80 := by kernel_rfl
theorem Tryd.lf_adds512 : Rows.digestSumsRow.laid.filter (fun x => x.1 == "chirograph/sha.adds512") = [("chirograph/sha.adds512", Lib.tabData .u64 adds512L)] := by kernel_rfl
theorem Tryd.c32 : Tryd.prog.cellsOf 48 = 1 := by kernel_rfl
theorem Tryd.c64 : Tryd.prog.cellsOf 50 = 1 := by kernel_rfl
theorem Tryd.u32 : Tryd.prog.underlying 48 = some (.int .u32) := by kernel_rfl
theorem Tryd.u64 : Tryd.prog.underlying 50 = some (.int .u64) := by kernel_rfl
theorem rd_tab {W : World} {name : String} {k : IntKind} {zs : List Int} {g : Nat} (h : Lib.TabIs Tryd.prog W name k zs) (hg : Tryd.prog.globalNamed name = some g) : Rd k W g 0 zs := fun i hi => by
  rw [Nat.zero_add]; exact h.cell hg i hi
theorem laid_one {W : World} {n : String} {d : DataW Unit} (hd : d.handleName?.isNone = true) (h : laidMetH Tryd.prog [(n, d)] W) : laidMet Tryd.prog [(n, d)] W := by
  have e : ([(n, d)] : List (String × DataW Unit)).filter (fun x => x.2.handleName?.isSome) = [] := by
    have h0 : d.handleName?.isSome = false := by cases hx : d.handleName? <;> simp_all
    simp [h0]
  unfold laidMetH at h
  rw [e] at h
  exact h
theorem tabs_of_laid {W : World} (h : laidMetH Tryd.prog Rows.digestSumsRow.laid W) : Tabs W := by
  have h_f1 : Rd .u32 W 0 0 first1L := by
    have h1 := laidMetH.filter (fun x => x.1 == "chirograph/sha.first1") h
    rw [Tryd.lf_first1] at h1
    exact rd_tab (Lib.tabIs_of_head (rest := []) Tryd.g_first1 Tryd.gt_first1 Tryd.underlying49 Tryd.u32 Tryd.c32 Tryd.gc_first1 (laid_one rfl h1)) Tryd.g_first1
  have h_f256 : Rd .u32 W 1 0 first256L := by
    have h1 := laidMetH.filter (fun x => x.1 == "chirograph/sha.first256") h
    rw [Tryd.lf_first256] at h1
    exact rd_tab (Lib.tabIs_of_head (rest := []) Tryd.g_first256 Tryd.gt_first256 Tryd.underlying49 Tryd.u32 Tryd.c32 Tryd.gc_first256 (laid_one rfl h1)) Tryd.g_first256
  have h_f384 : Rd .u64 W 2 0 first384L := by
    have h1 := laidMetH.filter (fun x => x.1 == "chirograph/sha.first384") h
    rw [Tryd.lf_first384] at h1
    exact rd_tab (Lib.tabIs_of_head (rest := []) Tryd.g_first384 Tryd.gt_first384 Tryd.underlying51 Tryd.u64 Tryd.c64 Tryd.gc_first384 (laid_one rfl h1)) Tryd.g_first384
  have h_f512 : Rd .u64 W 3 0 first512L := by
    have h1 := laidMetH.filter (fun x => x.1 == "chirograph/sha.first512") h
    rw [Tryd.lf_first512] at h1
    exact rd_tab (Lib.tabIs_of_head (rest := []) Tryd.g_first512 Tryd.gt_first512 Tryd.underlying51 Tryd.u64 Tryd.c64 Tryd.gc_first512 (laid_one rfl h1)) Tryd.g_first512
  have h_a1 : Rd .u32 W 4 0 adds1L := by
    have h1 := laidMetH.filter (fun x => x.1 == "chirograph/sha.adds1") h
    rw [Tryd.lf_adds1] at h1
    exact rd_tab (Lib.tabIs_of_head (rest := []) Tryd.g_adds1 Tryd.gt_adds1 Tryd.underlying75 Tryd.u32 Tryd.c32 Tryd.gc_adds1 (laid_one rfl h1)) Tryd.g_adds1
  have h_a256 : Rd .u32 W 5 0 adds256L := by
    have h1 := laidMetH.filter (fun x => x.1 == "chirograph/sha.adds256") h
    rw [Tryd.lf_adds256] at h1
    exact rd_tab (Lib.tabIs_of_head (rest := []) Tryd.g_adds256 Tryd.gt_adds256 Tryd.underlying66 Tryd.u32 Tryd.c32 Tryd.gc_adds256 (laid_one rfl h1)) Tryd.g_adds256
  have h_a512 : Rd .u64 W 6 0 adds512L := by
    have h1 := laidMetH.filter (fun x => x.1 == "chirograph/sha.adds512") h
    rw [Tryd.lf_adds512] at h1
    exact rd_tab (Lib.tabIs_of_head (rest := []) Tryd.g_adds512 Tryd.gt_adds512 Tryd.underlying68 Tryd.u64 Tryd.c64 Tryd.gc_adds512 (laid_one rfl h1)) Tryd.g_adds512
  refine ⟨?_, h_f1, h_f256, h_f384, h_f512, h_a1, h_a256, h_a512⟩
  have := (cell_spot (h_a512 0 (by decide))).2
  simp at this
  omega
/-- A world for the witness: the settled one, the tables holding what their initialisers lay. -/
noncomputable def laidWorld (os : Os) : World :=
  { World.holding Tryd.prog os ⟨#[], #[], []⟩ with heap := ((((((((World.holding Tryd.prog os ⟨#[], #[], []⟩).heap.modify 0 fun | .cells _ t frozen => .cells (first1L.map (Value.int .u32)).toArray t frozen | o => o).modify 1 fun | .cells _ t frozen => .cells (first256L.map (Value.int .u32)).toArray t frozen | o => o).modify 2 fun | .cells _ t frozen => .cells (first384L.map (Value.int .u64)).toArray t frozen | o => o).modify 3 fun | .cells _ t frozen => .cells (first512L.map (Value.int .u64)).toArray t frozen | o => o).modify 4 fun | .cells _ t frozen => .cells (adds1L.map (Value.int .u32)).toArray t frozen | o => o).modify 5 fun | .cells _ t frozen => .cells (adds256L.map (Value.int .u32)).toArray t frozen | o => o).modify 6 fun | .cells _ t frozen => .cells (adds512L.map (Value.int .u64)).toArray t frozen | o => o) }
end Go.Proofs.YtgipmjpkaemdkaaDoor
