/-
  Rsa: what the tied list of tables gives; a world for the witness; how an argument reads.
-/
import Derived.Test.YtndoibmpnhkmpaaGreatDoorRows
import Derived.Lib.LaidTab
import Derived.LaidSub
import Derived.MakeChecks
import Derived.OpenShut
import Derived.ProofKit
import Derived.Test.YtndoibmpnhkmpaaGreatDoorK27
namespace Go.Proofs.YtndoibmpnhkmpaaGreatDoor
open Go.ChangeShapes Go.WideShapes Go.ChangeAt Go.RowKit
/-! ### how an argument reads -/
def IsRow (k : IntKind) (w : World) (a : Option Addr) (len cap : Nat) (zs : List Int) : Prop :=
  (a = none ∧ len = 0 ∧ cap = 0 ∧ zs = []) ∨
  ∃ x, a = some x ∧ len ≤ cap ∧ cap ≤ maxLen ∧ zs.length = cap ∧ (∀ i, i < zs.length → w.cell? (x.add i) = some (.int k (zs.getD i 0))) ∧ ∀ n ∈ zs, (Lit.int k n).wf = true
theorem cell_spot {w : World} {x : Addr} {v : Value} (h : w.cell? x = some v) : x.spot = none ∧ x.block < w.heap.size := by
  unfold World.cell? at h
  split at h
  · rename_i c t f hh
    refine ⟨?_, (Array.getElem?_eq_some_iff.1 hh).1⟩
    by_cases hs : x.spot.isSome
    · simp [hs] at h
    · simpa using hs
  · cases h
theorem IsRow.sl {k : IntKind} {w : World} {a : Option Addr} {len cap : Nat} {zs : List Int} (h : IsRow k w a len cap zs) :
    ∃ X, X.length = len ∧ Sl k w (.slice a len cap) X ∧ ∀ n ∈ X, (Lit.int k n).wf = true := by
  rcases h with ⟨rfl, rfl, rfl, rfl⟩ | ⟨x, rfl, hl, hm, hz, hc, hw⟩
  · exact ⟨[], rfl, ⟨none, 0, rfl, Nat.le_refl _, .inl rfl⟩, by simp⟩
  · refine ⟨zs.take len, by simp; omega, ⟨some x, cap, by simp; omega, by simp; omega, ?_⟩, fun n hn => hw n (List.mem_of_mem_take hn)⟩
    by_cases h0 : len = 0
    · subst h0; exact .inl (by simp)
    · right
      obtain ⟨b, off, sp⟩ := x
      have h1 := cell_spot (hc 0 (by omega))
      have hsp : sp = none := by
        have := h1.1
        cases sp with
        | none => rfl
        | some s => simp [Addr.add] at this
      subst hsp
      have hb : b < w.heap.size := by have := h1.2; simpa [Addr.add] using this
      refine ⟨b, off, rfl, hb, fun i hi => ?_⟩
      simp at hi
      have := hc i (by omega)
      have hadd : (⟨b, off, none⟩ : Addr).add i = ⟨b, off + i, none⟩ := by simp [Addr.add]
      rw [hadd] at this
      rw [this]
      simp [show i < len by omega]
theorem IsRow.sl8 {w : World} {a : Option Addr} {len cap : Nat} {zs : List Int} (h : IsRow .u8 w a len cap zs) : ∃ X, X.length = len ∧ Sl .u8 w (.slice a len cap) X ∧ U8s X := by
  obtain ⟨X, h1, h2, h3⟩ := h.sl
  exact ⟨X, h1, h2, fun n hn => by have := bounds_u8 (h3 n hn); exact ⟨this.1, by omega⟩⟩
theorem Tryz.g_first1 : Tryz.prog.globalNamed "chirograph/sha.first1" = some 0 := by kernel_rfl
theorem Tryz.gt_first1 : (Tryz.prog.globals[0]?).map (·.type) = some 115 := by kernel_rfl
theorem Tryz.gc_first1 : Tryz.prog.cellsOf 115 = 8 := by kernel_rfl
theorem Tryz.lf_first1 : Rows.rsaRawsRow.laid.filter (fun x => x.1 == "chirograph/sha.first1") = [("chirograph/sha.first1", Lib.tabData .u32 Sh.first1L)] := by kernel_rfl
theorem Tryz.g_first256 : Tryz.prog.globalNamed "chirograph/sha.first256" = some 1 := by kernel_rfl
theorem Tryz.gt_first256 : (Tryz.prog.globals[1]?).map (·.type) = some 115 := by kernel_rfl
theorem Tryz.gc_first256 : Tryz.prog.cellsOf 115 = 8 := by kernel_rfl
theorem Tryz.lf_first256 : Rows.rsaRawsRow.laid.filter (fun x => x.1 == "chirograph/sha.first256") = [("chirograph/sha.first256", Lib.tabData .u32 Sh.first256L)] := by kernel_rfl
theorem Tryz.g_first384 : Tryz.prog.globalNamed "chirograph/sha.first384" = some 2 := by kernel_rfl
theorem Tryz.gt_first384 : (Tryz.prog.globals[2]?).map (·.type) = some 80 := by kernel_rfl
theorem Tryz.gc_first384 : Tryz.prog.cellsOf 80 = 8 := by kernel_rfl
theorem Tryz.lf_first384 : Rows.rsaRawsRow.laid.filter (fun x => x.1 == "chirograph/sha.first384") = [("chirograph/sha.first384", Lib.tabData .u64 Sh.first384L)] := by kernel_rfl
theorem Tryz.g_first512 : Tryz.prog.globalNamed "chirograph/sha.first512" = some 3 := by kernel_rfl
theorem Tryz.gt_first512 : (Tryz.prog.globals[3]?).map (·.type) = some 80 := by kernel_rfl
theorem Tryz.gc_first512 : Tryz.prog.cellsOf 80 = 8 := by kernel_rfl
theorem Tryz.lf_first512 : Rows.rsaRawsRow.laid.filter (fun x => x.1 == "chirograph/sha.first512") = [("chirograph/sha.first512", Lib.tabData .u64 Sh.first512L)] := by kernel_rfl
theorem Tryz.g_adds1 : Tryz.prog.globalNamed "chirograph/sha.adds1" = some 5 := by kernel_rfl
theorem Tryz.gt_adds1 : (Tryz.prog.globals[5]?).map (·.type) = some 167 := by kernel_rfl
theorem Tryz.gc_adds1 : Tryz.prog.cellsOf 167 = 4 := by kernel_rfl
theorem Tryz.lf_adds1 : Rows.rsaRawsRow.laid.filter (fun x => x.1 == "chirograph/sha.adds1") = [("chirograph/sha.adds1", Lib.tabData .u32 Sh.adds1L)] := by kernel_rfl
theorem Tryz.g_adds256 : Tryz.prog.globalNamed "chirograph/sha.adds256" = some 6 := by kernel_rfl
theorem Tryz.gt_adds256 : (Tryz.prog.globals[6]?).map (·.type) = some 113 := by kernel_rfl
theorem Tryz.gc_adds256 : Tryz.prog.cellsOf 113 = 64 := by kernel_rfl
theorem Tryz.lf_adds256 : Rows.rsaRawsRow.laid.filter (fun x => x.1 == "chirograph/sha.adds256") = [("chirograph/sha.adds256", Lib.tabData .u32 Sh.adds256L)] := by kernel_rfl
theorem Tryz.g_adds512 : Tryz.prog.globalNamed "chirograph/sha.adds512" = some 7 := by kernel_rfl
theorem Tryz.gt_adds512 : (Tryz.prog.globals[7]?).map (·.type) = some 116 := by kernel_rfl
theorem Tryz.gc_adds512 : Tryz.prog.cellsOf 116 = 80 := by kernel_rfl
theorem Tryz.lf_adds512 : Rows.rsaRawsRow.laid.filter (fun x => x.1 == "chirograph/sha.adds512") = [("chirograph/sha.adds512", Lib.tabData .u64 Sh.adds512L)] := by kernel_rfl
theorem Tryz.c32 : Tryz.prog.cellsOf 56 = 1 := by kernel_rfl
theorem Tryz.c64 : Tryz.prog.cellsOf 79 = 1 := by kernel_rfl
theorem Tryz.u32 : Tryz.prog.underlying 56 = some (.int .u32) := by kernel_rfl
theorem Tryz.u64 : Tryz.prog.underlying 79 = some (.int .u64) := by kernel_rfl
theorem rd_tab {W : World} {name : String} {k : IntKind} {zs : List Int} {g : Nat} (h : Lib.TabIs Tryz.prog W name k zs) (hg : Tryz.prog.globalNamed name = some g) : Rd k W g 0 zs := fun i hi => by
  rw [Nat.zero_add]; exact h.cell hg i hi
theorem laid_one {W : World} {n : String} {d : DataW Unit} (hd : d.handleName?.isNone = true) (h : laidMetH Tryz.prog [(n, d)] W) : laidMet Tryz.prog [(n, d)] W := by
  have e : ([(n, d)] : List (String × DataW Unit)).filter (fun x => x.2.handleName?.isSome) = [] := by
    have h0 : d.handleName?.isSome = false := by cases hx : d.handleName? <;> simp_all
    simp [h0]
  unfold laidMetH at h
  rw [e] at h
  exact h
theorem tabs_of_laid {W : World} (h : laidMetH Tryz.prog Rows.rsaRawsRow.laid W) : Sh.Tabs W := by
  have h_f1 : Rd .u32 W 0 0 Sh.first1L := by
    have h1 := laidMetH.filter (fun x => x.1 == "chirograph/sha.first1") h
    rw [Tryz.lf_first1] at h1
    exact rd_tab (Lib.tabIs_of_head (rest := []) Tryz.g_first1 Tryz.gt_first1 Tryz.underlying115 Tryz.u32 Tryz.c32 Tryz.gc_first1 (laid_one rfl h1)) Tryz.g_first1
  have h_f256 : Rd .u32 W 1 0 Sh.first256L := by
    have h1 := laidMetH.filter (fun x => x.1 == "chirograph/sha.first256") h
    rw [Tryz.lf_first256] at h1
    exact rd_tab (Lib.tabIs_of_head (rest := []) Tryz.g_first256 Tryz.gt_first256 Tryz.underlying115 Tryz.u32 Tryz.c32 Tryz.gc_first256 (laid_one rfl h1)) Tryz.g_first256
  have h_f384 : Rd .u64 W 2 0 Sh.first384L := by
    have h1 := laidMetH.filter (fun x => x.1 == "chirograph/sha.first384") h
    rw [Tryz.lf_first384] at h1
    exact rd_tab (Lib.tabIs_of_head (rest := []) Tryz.g_first384 Tryz.gt_first384 Tryz.underlying80 Tryz.u64 Tryz.c64 Tryz.gc_first384 (laid_one rfl h1)) Tryz.g_first384
  have h_f512 : Rd .u64 W 3 0 Sh.first512L := by
    have h1 := laidMetH.filter (fun x => x.1 == "chirograph/sha.first512") h
    rw [Tryz.lf_first512] at h1
    exact rd_tab (Lib.tabIs_of_head (rest := []) Tryz.g_first512 Tryz.gt_first512 Tryz.underlying80 Tryz.u64 Tryz.c64 Tryz.gc_first512 (laid_one rfl h1)) Tryz.g_first512
  have h_a1 : Rd .u32 W 5 0 Sh.adds1L := by
    have h1 := laidMetH.filter (fun x => x.1 == "chirograph/sha.adds1") h
    rw [Tryz.lf_adds1] at h1
    exact rd_tab (Lib.tabIs_of_head (rest := []) Tryz.g_adds1 Tryz.gt_adds1 Tryz.underlying167 Tryz.u32 Tryz.c32 Tryz.gc_adds1 (laid_one rfl h1)) Tryz.g_adds1
  have h_a256 : Rd .u32 W 6 0 Sh.adds256L := by
    have h1 := laidMetH.filter (fun x => x.1 == "chirograph/sha.adds256") h
    rw [Tryz.lf_adds256] at h1
    exact rd_tab (Lib.tabIs_of_head (rest := []) Tryz.g_adds256 Tryz.gt_adds256 Tryz.underlying113 Tryz.u32 Tryz.c32 Tryz.gc_adds256 (laid_one rfl h1)) Tryz.g_adds256
  have h_a512 : Rd .u64 W 7 0 Sh.adds512L := by
    have h1 := laidMetH.filter (fun x => x.1 == "chirograph/sha.adds512") h
    rw [Tryz.lf_adds512] at h1
    exact rd_tab (Lib.tabIs_of_head (rest := []) Tryz.g_adds512 Tryz.gt_adds512 Tryz.underlying116 Tryz.u64 Tryz.c64 Tryz.gc_adds512 (laid_one rfl h1)) Tryz.g_adds512
  refine ⟨?_, h_f1, h_f256, h_f384, h_f512, h_a1, h_a256, h_a512⟩
  have := (cell_spot (h_a512 0 (by decide))).2
  simp at this
  omega
/-- A world for the witness: the settled one, the tables holding what their initialisers lay. -/
noncomputable def laidWorld (os : Os) : World :=
  { World.holding Tryz.prog os ⟨#[], #[], []⟩ with heap := ((((((((World.holding Tryz.prog os ⟨#[], #[], []⟩).heap.modify 0 fun | .cells _ t frozen => .cells (Sh.first1L.map (Value.int .u32)).toArray t frozen | o => o).modify 1 fun | .cells _ t frozen => .cells (Sh.first256L.map (Value.int .u32)).toArray t frozen | o => o).modify 2 fun | .cells _ t frozen => .cells (Sh.first384L.map (Value.int .u64)).toArray t frozen | o => o).modify 3 fun | .cells _ t frozen => .cells (Sh.first512L.map (Value.int .u64)).toArray t frozen | o => o).modify 5 fun | .cells _ t frozen => .cells (Sh.adds1L.map (Value.int .u32)).toArray t frozen | o => o).modify 6 fun | .cells _ t frozen => .cells (Sh.adds256L.map (Value.int .u32)).toArray t frozen | o => o).modify 7 fun | .cells _ t frozen => .cells (Sh.adds512L.map (Value.int .u64)).toArray t frozen | o => o) }
end Go.Proofs.YtndoibmpnhkmpaaGreatDoor
