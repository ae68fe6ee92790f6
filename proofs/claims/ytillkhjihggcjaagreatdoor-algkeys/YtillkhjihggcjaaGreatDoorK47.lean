/-
  Alg: what the tied list gives; a world for the witness.
-/
import Derived.Stop.LaidTwo
import Derived.Test.YtillkhjihggcjaaGreatDoorK46
namespace Go.Proofs.YtillkhjihggcjaaGreatDoor
open Go.ChangeShapes Go.WideShapes Go.ChangeAt Go.RowKit
def noneT : List UInt8 := [110, 111, 32, 97, 108, 103, 111, 114, 105, 116, 104, 109, 32, 116, 104, 97, 116, 32, 105, 115, 32, 107, 110, 111, 119, 110]
def keyT : List UInt8 := [110, 111, 32, 107, 101, 121]
theorem Tryz.g_none : Tryz.prog.globalNamed "chirograph/alg.errNone" = some 0 := by kernel_rfl
theorem Tryz.g_key : Tryz.prog.globalNamed "chirograph/alg.errKey" = some 1 := by kernel_rfl
theorem Tryz.gt_none : (Tryz.prog.globals[0]?).map (·.type) = some 62 := by kernel_rfl
theorem Tryz.gt_key : (Tryz.prog.globals[1]?).map (·.type) = some 62 := by kernel_rfl
theorem Tryz.ce_es : Tryz.prog.cellsOf 263 = 1 := by kernel_rfl
theorem Tryz.ce_str : Tryz.prog.cellsOf 9 = 1 := by kernel_rfl
theorem Tryz.lf_err : Rows.algReadsRow.laid.filter (fun x => x.1 == "chirograph/alg.errNone" || x.1 == "chirograph/alg.errKey") = [("chirograph/alg.errNone", .iface "*errors.errorString" (.ptr (.agg [.lit (.string noneT)]))), ("chirograph/alg.errKey", .iface "*errors.errorString" (.ptr (.agg [.lit (.string keyT)])))] := by kernel_rfl
theorem laid_two {W : World} {n m : String} {d d' : DataW Unit} (hd : d.handleName?.isNone = true) (hd' : d'.handleName?.isNone = true) (h : laidMetH Tryz.prog [(n, d), (m, d')] W) : laidMet Tryz.prog [(n, d), (m, d')] W := by
  have e : ([(n, d), (m, d')] : List (String × DataW Unit)).filter (fun x => x.2.handleName?.isSome) = [] := by
    have h0 : d.handleName?.isSome = false := by cases hx : d.handleName? <;> simp_all
    have h1 : d'.handleName?.isSome = false := by cases hx : d'.handleName? <;> simp_all
    simp [h0, h1]
  unfold laidMetH at h
  rw [e] at h
  exact h
theorem Tryz.star : "*" ++ "errors.errorString" = "*errors.errorString" := by decide
theorem Tryz.nm_es (u : TypeId) (h : Tryz.prog.typeName? 3 u = some "*errors.errorString") : u = 236 :=
  typeName_ptr_named (nm := "errors.errorString") (by rw [Tryz.star]; kernel_rfl) (by kernel_rfl) (by decide) u (by rw [Tryz.star]; exact h)
theorem glb_of_laid {W : World} (h : laidMetH Tryz.prog Rows.algReadsRow.laid W) : ∃ an ak, Glb W an ak := by
  have h1 := laidMetH.filter (fun x => x.1 == "chirograph/alg.errNone" || x.1 == "chirograph/alg.errKey") h
  rw [Tryz.lf_err] at h1
  obtain ⟨a0, a1, s0, s1, c0, c1, t0, t1, hv0, hv1, _, _, _, _, _, _, hne, hb0, hb1⟩ := laid_sentinels2 (laid_two rfl rfl h1) Tryz.g_none Tryz.gt_none Tryz.g_key Tryz.gt_key Tryz.underlying62 Tryz.nm_es Tryz.underlying236 Tryz.underlying263 rfl rfl Tryz.underlying9 Tryz.ce_es Tryz.ce_str
  have k0 : W.cell? ⟨0, 0, none⟩ = some (erV a0) := by unfold erV; simpa using World.var?_cell Tryz.g_none hv0 0
  have k1 : W.cell? ⟨1, 0, none⟩ = some (erV a1) := by unfold erV; simpa using World.var?_cell Tryz.g_key hv1 0
  exact ⟨a0, a1, k0, k1, fun e => hne e.symm, ⟨c0, t0, hb0⟩, ⟨c1, t1, hb1⟩, (cell_spot k0).2, (cell_spot k1).2⟩
theorem row8_of {H : Type} {enc : TypeId × Value → H} {W : World} {held : Bool} {n : Nat} {u : Value} {y : DataW H × List MemPlace} (h : DataW.trod enc Tryz.prog W 0 (fun _ => true) held n 22 [u] = some y) : ∃ (a : Option Addr) (len cap : Nat) (zs : List Int), u = .slice a len cap ∧ IsRow .u8 W a len cap zs := by
  rcases open_ints Tryz.underlying22 Tryz.underlying5 (by kernel_rfl) h with ⟨hcs, _⟩ | ⟨x, l, c, zs, hcs, _, hl, hm, hz, _, hcell, hwz⟩
  · simp at hcs
    subst hcs
    exact ⟨none, 0, 0, [], rfl, .inl ⟨rfl, rfl, rfl, rfl⟩⟩
  · simp at hcs
    subst hcs
    exact ⟨some x, l, c, zs, rfl, .inr ⟨_, rfl, hl, hm, by simpa using hz, hcell, hwz⟩⟩
set_option maxRecDepth 20000 in
/-- An element as an argument, opened. -/
theorem tlv_open {H : Type} {enc : TypeId × Value → H} {W : World} {held : Bool} {fuel : Nat} {cs : List Value} {x : DataW H × List MemPlace} (h : DataW.trod enc Tryz.prog W 0 (fun _ => true) held fuel 24 cs = some x) (hl : cs.length = 5) :
    ∃ cl tg co a n c zs a' n' c', cs = [.int .i64 cl, .int .i64 tg, .bool co, .slice a n c, .slice a' n' c'] ∧ IsRow .u8 W a n c zs := by
  have c1 : Tryz.prog.cellsOf 3 = 1 := by kernel_rfl
  have c2 : Tryz.prog.cellsOf 4 = 1 := by kernel_rfl
  have c3 : Tryz.prog.cellsOf 22 = 1 := by kernel_rfl
  obtain ⟨xs, k, hk, hxy, _, hxl, hf⟩ := DataW.trod_struct Tryz.underlying24 h
  have hxl5 : xs.length = 5 := by rw [hxl]; rfl
  clear hxl hxy
  match xs, hxl5, cs, hl with
  | [y0, y1, y2, y3, y4], _, [v0, v1, v2, v3, v4], _ =>
    have g0 := hf 0 _ rfl
    have g1 := hf 1 _ rfl
    have g2 := hf 2 _ rfl
    have g3 := hf 3 _ rfl
    have g4 := hf 4 _ rfl
    simp [c1, c2, c3] at g0 g1 g2 g3 g4
    obtain ⟨q0, e0, _, _⟩ := DataW.trod_int Tryz.underlying3 g0
    obtain ⟨q1, e1, _, _⟩ := DataW.trod_int Tryz.underlying3 g1
    obtain ⟨q2, e2, _⟩ := DataW.trod_bool Tryz.underlying4 g2
    simp only [List.cons.injEq, and_true] at e0 e1 e2
    subst e0; subst e1; subst e2
    obtain ⟨a, n, c, zs, rfl, r1⟩ := row8_of g3
    obtain ⟨a', n', c', zs', rfl, r2⟩ := row8_of g4
    exact ⟨_, _, _, a, n, c, zs, a', n', c', rfl, r1⟩
structure TabA (w : World) : Prop where
  p10 : P10 w
  glb : ∃ an ak, Glb w an ak
/-- The package's errors' texts, ahead of the witness. -/
abbrev errBlocks : Array Obj := #[.cells #[.string ⟨noneT.toArray⟩] 263, .cells #[.string ⟨keyT.toArray⟩] 263]
/-- A world for the witness: the tables and the errors hold what their initialisers lay. -/
def laidWorldA (W : World) : World :=
  { laidWorld W with heap := ((laidWorld W).heap.modify 0 fun | .cells _ t frozen => .cells #[.iface 236 (.pointer (some ⟨W.heap.size - 2, 0, none⟩))] t frozen | o => o).modify 1 fun | .cells _ t frozen => .cells #[.iface 236 (.pointer (some ⟨W.heap.size - 1, 0, none⟩))] t frozen | o => o }
end Go.Proofs.YtillkhjihggcjaaGreatDoor
