/-
  Alg: the law AlgReads.
-/
import Derived.Test.YtillkhjihggcjaaGreatDoorRows
import Derived.Lib.LaidTab
import Derived.LaidSub
import Derived.MakeChecks
import Derived.OpenShut
import Derived.ProofKit
import Derived.Stop.LaidTwo
import Derived.Test.YtillkhjihggcjaaGreatDoorK18
namespace Go.Proofs.YtillkhjihggcjaaGreatDoor
open Go.RowKit
set_option maxRecDepth 20000
set_option maxHeartbeats 4000000 in
theorem AlgReads_any {w : World} {an ak : Addr} (hG : Glb w an ak) (hT : P10 w) (x : El) (a1 : Option Addr) (n1 c1 : Nat) (a2 : Option Addr) (n2 c2 : Nat) (hD : Sl .u8 w (.slice a1 n1 c1) x.d) (uD : U8s x.d) (lD : x.d.length = n1) :
    Calls Tryz.prog 3 #[.agg #[.int .i64 x.cl, .int .i64 x.tg, .bool x.co, .slice a1 n1 c1, .slice a2 n2 c2]] w fun e w' => e = .returned (.bool true) ∧ Below w.heap.size w w' := by
  have HL : Hid (∀ W, Below w.heap.size w W → Calls Tryz.prog 6 #[] W fun e w' => e = .returned (.bool true) ∧ Below W.heap.size W w') := fun W h => live11_any (hG.below h) (hT.below h)
  by_cases hn : n1 ≤ 5000
  · have HA : Hid (∀ W, Below w.heap.size w W → Calls Tryz.prog 7 #[.agg #[.int .i64 x.cl, .int .i64 x.tg, .bool x.co, .slice a1 n1 c1, .slice a2 n2 c2]] W fun e w' => e = .returned (.tuple #[.int .i64 (digS x), .int .i64 (errD (digS x))]) ∧ Below W.heap.size W w') := fun W h => Digest_any (hG.below h) (hT.below h) x a1 n1 c1 a2 n2 c2 (below_sl h hD) uD (by omega)
    have HB : Hid (∀ W, Below w.heap.size w W → Calls Tryz.prog 8 #[.agg #[.int .i64 x.cl, .int .i64 x.tg, .bool x.co, .slice a1 n1 c1, .slice a2 n2 c2]] W fun e w' => e = .returned (.tuple #[.int .i64 (digS x), .int .i64 (errD (digS x))]) ∧ Below W.heap.size W w') := fun W h => RDigest_any x a1 n1 c1 a2 n2 c2 (below_sl h hD) uD (by omega)
    have HC : Hid (∀ W, Below w.heap.size w W → Calls Tryz.prog 9 #[.agg #[.int .i64 x.cl, .int .i64 x.tg, .bool x.co, .slice a1 n1 c1, .slice a2 n2 c2]] W fun e w' => e = .returned (.tuple #[.agg #[.int .i64 (sgV (sgnS x)).k, .int .i64 (sgV (sgnS x)).d, .int .i64 (sgV (sgnS x)).m, .int .i64 (sgV (sgnS x)).s], .int .i64 (sgE (sgnS x))]) ∧ Below W.heap.size W w') := fun W h => Sign_any (hG.below h) (hT.below h) x a1 n1 c1 a2 n2 c2 (below_sl h hD) uD (by omega)
    have HD : Hid (∀ W, Below w.heap.size w W → Calls Tryz.prog 10 #[.agg #[.int .i64 x.cl, .int .i64 x.tg, .bool x.co, .slice a1 n1 c1, .slice a2 n2 c2]] W fun e w' => e = .returned (.tuple #[.agg #[.int .i64 (sgV (sgnS x)).k, .int .i64 (sgV (sgnS x)).d, .int .i64 (sgV (sgnS x)).m, .int .i64 (sgV (sgnS x)).s], .int .i64 (sgE (sgnS x))]) ∧ Below W.heap.size W w') := fun W h => RSign_any x a1 n1 c1 a2 n2 c2 (below_sl h hD) uD (by omega)
    obtain ⟨dg, hdg⟩ : ∃ d, digS x = d := ⟨_, rfl⟩
    obtain ⟨de, hde⟩ : ∃ d, errD dg = d := ⟨_, rfl⟩
    obtain ⟨⟨A0, A1, A2, A3⟩, hA⟩ : ∃ A, sgV (sgnS x) = A := ⟨_, rfl⟩
    obtain ⟨er, her⟩ : ∃ er, sgE (sgnS x) = er := ⟨_, rfl⟩
    rw [hdg, hde] at HA HB
    rw [hA, her] at HC HD
    obtain ⟨cl, tg, co, D, R⟩ := x
    simp only [] at HA HB HC HD ⊢
    have hn' : decide ((5000 : Int) < (n1 : Int)) = false := by simp; omega
    clear hG hT hD uD lD hdg hde hA her hn
    go_enter Tryz.func3, Tryz.ntmps3
    go_upto_region 1 with (fail)
    refine wp_gen (fun W => Blk 24 W w.heap.size [.int .i64 cl, .int .i64 tg, .bool co, .slice a1 n1 c1, .slice a2 n2 c2] ∧ Below w.heap.size w W) ⟨Blk.new _ w _, al1 _⟩ ?_
    rintro W1 ⟨hB, hBw⟩
    have H1 : Hid (Below w.heap.size w W1 ∧ ∀ W, Below W1.heap.size W1 W → W.cell? ⟨w.heap.size, 0, none⟩ = some (.int .i64 cl) ∧ W.cell? ⟨w.heap.size, 1, none⟩ = some (.int .i64 tg) ∧ W.cell? ⟨w.heap.size, 2, none⟩ = some (.bool co) ∧ W.cell? ⟨w.heap.size, 3, none⟩ = some (.slice a1 n1 c1) ∧ W.cell? ⟨w.heap.size, 4, none⟩ = some (.slice a2 n2 c2)) := ⟨hBw, fun W h => by
      have q := below_blk h hB.lt hB
      exact ⟨q.cell 0, q.cell 1, q.cell 2, q.cell 3, q.cell 4⟩⟩
    clear hB hBw
    obtain ⟨x0, x1, x2, x3, x4⟩ := H1.out.2 W1 (Below.refl _ _)
    go_wp2_with fail
    refine (HA.out _ H1.out.1).mono ?_
    rintro e w2 ⟨rfl, hb2⟩
    have H2 : Hid (Below W1.heap.size W1 w2 ∧ Below w.heap.size w w2) := ⟨hb2, below_via H1.out.1 hb2 (Nat.le_refl _)⟩
    clear hb2 x0 x1 x2 x3 x4
    obtain ⟨x0, x1, x2, x3, x4⟩ := H1.out.2 w2 H2.out.1
    go_wp2_with fail
    refine (HB.out _ H2.out.2).mono ?_
    rintro e w3 ⟨rfl, hb3⟩
    have H3 : Hid (Below W1.heap.size W1 w3 ∧ Below w.heap.size w w3) := ⟨below_via H2.out.1 hb3 (Nat.le_refl _), below_via H2.out.2 hb3 (Nat.le_refl _)⟩
    clear hb3 x0 x1 x2 x3 x4
    obtain ⟨x0, x1, x2, x3, x4⟩ := H1.out.2 w3 H3.out.1
    go_wp2_with fail
    refine (HC.out _ H3.out.2).mono ?_
    rintro e w4 ⟨rfl, hb4⟩
    have H4 : Hid (Below W1.heap.size W1 w4 ∧ Below w.heap.size w w4) := ⟨below_via H3.out.1 hb4 (Nat.le_refl _), below_via H3.out.2 hb4 (Nat.le_refl _)⟩
    clear hb4 x0 x1 x2 x3 x4
    go_upto_region 6 with (fail)
    refine wp_gen (fun W => Blk 32 W w4.heap.size [.int .i64 A0, .int .i64 A1, .int .i64 A2, .int .i64 A3] ∧ Below w4.heap.size w4 W) ⟨Blk.new _ w4 _, al1 _⟩ ?_
    rintro W5 ⟨hB, hBw⟩
    have H5 : Hid (Below W1.heap.size W1 W5 ∧ Below w.heap.size w W5 ∧ ∀ W, Below W5.heap.size W5 W → W.cell? ⟨w4.heap.size, 0, none⟩ = some (.int .i64 A0) ∧ W.cell? ⟨w4.heap.size, 1, none⟩ = some (.int .i64 A1) ∧ W.cell? ⟨w4.heap.size, 2, none⟩ = some (.int .i64 A2) ∧ W.cell? ⟨w4.heap.size, 3, none⟩ = some (.int .i64 A3)) := ⟨below_via H4.out.1 hBw (Nat.le_refl _), below_via H4.out.2 hBw (Nat.le_refl _), fun W h => by
      have q := below_blk h hB.lt hB
      exact ⟨q.cell 0, q.cell 1, q.cell 2, q.cell 3⟩⟩
    clear hB hBw
    obtain ⟨x0, x1, x2, x3, x4⟩ := H1.out.2 W5 H5.out.1
    go_wp2_with fail
    refine (HD.out _ H5.out.2.1).mono ?_
    rintro e w6 ⟨rfl, hb6⟩
    have H6 : Hid (Below W5.heap.size W5 w6 ∧ Below w.heap.size w w6) := ⟨hb6, below_via H5.out.2.1 hb6 (Nat.le_refl _)⟩
    clear hb6 x0 x1 x2 x3 x4
    go_upto_region 7 with (fail)
    refine wp_gen (fun W => Blk 32 W w6.heap.size [.int .i64 A0, .int .i64 A1, .int .i64 A2, .int .i64 A3] ∧ Below w6.heap.size w6 W) ⟨Blk.new _ w6 _, al1 _⟩ ?_
    rintro W7 ⟨hB, hBw⟩
    have y0 : W7.cell? ⟨w6.heap.size, 0, none⟩ = some (.int .i64 A0) := hB.cell 0
    have y1 : W7.cell? ⟨w6.heap.size, 1, none⟩ = some (.int .i64 A1) := hB.cell 1
    have y2 : W7.cell? ⟨w6.heap.size, 2, none⟩ = some (.int .i64 A2) := hB.cell 2
    have y3 : W7.cell? ⟨w6.heap.size, 3, none⟩ = some (.int .i64 A3) := hB.cell 3
    obtain ⟨z0, z1, z2, z3⟩ := H5.out.2.2 W7 (below_via H6.out.1 hBw (Nat.le_refl _))
    have H7 : Hid (Below w.heap.size w W7) := below_via H6.out.2 hBw (Nat.le_refl _)
    clear hB hBw
    go_wp2_with (first | (go_at_call 11; refine (num11_any _).mono ?_; rintro e w' ⟨rfl, rfl⟩) | (go_at_call 6; refine (HL.out _ H7.out).mono ?_; rintro e w8 ⟨rfl, hb8⟩; have H8 : Hid (Below w.heap.size w w8) := below_via H7.out hb8 (Nat.le_refl _); clear hb8))
    go_ret
    exact ⟨by simp, H8.out⟩
  · have hn' : decide ((5000 : Int) < (n1 : Int)) = true := by simp; omega
    obtain ⟨cl, tg, co, D, R⟩ := x
    simp only []
    clear hG hT hD uD lD hn
    go_enter Tryz.func3, Tryz.ntmps3
    go_wp2_with fail
    refine (HL.out _ (al1 _)).mono ?_
    rintro e w1 ⟨rfl, hb1⟩
    have H1 : Hid (Below w.heap.size w w1) := below_via (al1 _) hb1 (Nat.le_refl _)
    clear hb1
    go_wp2
    go_ret
    exact ⟨rfl, H1.out⟩
end Go.Proofs.YtillkhjihggcjaaGreatDoor
/-
  Der: what the tied list of tables gives; a world for the witness; how an argument reads.
-/
namespace Go.Proofs.YtillkhjihggcjaaGreatDoor
open Go.ChangeShapes Go.WideShapes Go.ChangeAt Go.RowKit
/-! ### how an argument reads -/
def IsRow (k : IntKind) (w : World) (a : Option Addr) (len cap : Nat) (zs : List Int) : Prop :=
  (a = none ∧ len = 0 ∧ cap = 0 ∧ zs = []) ∨
  ∃ x, a = some x ∧ len ≤ cap ∧ cap ≤ maxLen ∧ zs.length = cap ∧ (∀ i, i < zs.length → w.cell? (x.add i) = some (.int k (zs.getD i 0))) ∧ ∀ n ∈ zs, (Lit.int k n).wf = true
theorem cell_spot {w : World} {x : Addr} {v : Value} (h : w.cell? x = some v) : x.spot = none ∧ x.block < w.heap.size := by
  unfold World.cell? at h
  split at h
  · rename_i c t f hh
    refine ⟨?_, (Array.getElem?_eq_some_iff.1 hh).1⟩
    by_cases hs : x.spot.isSome
    · simp [hs] at h
    · simpa using hs
  · cases h
theorem IsRow.sl {k : IntKind} {w : World} {a : Option Addr} {len cap : Nat} {zs : List Int} (h : IsRow k w a len cap zs) :
    ∃ X, X.length = len ∧ Sl k w (.slice a len cap) X ∧ ∀ n ∈ X, (Lit.int k n).wf = true := by
  rcases h with ⟨rfl, rfl, rfl, rfl⟩ | ⟨x, rfl, hl, hm, hz, hc, hw⟩
  · exact ⟨[], rfl, ⟨none, 0, rfl, Nat.le_refl _, .inl rfl⟩, by simp⟩
  · refine ⟨zs.take len, by simp; omega, ⟨some x, cap, by simp; omega, by simp; omega, ?_⟩, fun n hn => hw n (List.mem_of_mem_take hn)⟩
    by_cases h0 : len = 0
    · subst h0; exact .inl (by simp)
    · right
      obtain ⟨b, off, sp⟩ := x
      have h1 := cell_spot (hc 0 (by omega))
      have hsp : sp = none := by
        have := h1.1
        cases sp with
        | none => rfl
        | some s => simp [Addr.add] at this
      subst hsp
      have hb : b < w.heap.size := by have := h1.2; simpa [Addr.add] using this
      refine ⟨b, off, rfl, hb, fun i hi => ?_⟩
      simp at hi
      have := hc i (by omega)
      have hadd : (⟨b, off, none⟩ : Addr).add i = ⟨b, off + i, none⟩ := by simp [Addr.add]
      rw [hadd] at this
      rw [this]
      simp [show i < len by omega]
theorem IsRow.len_le {k : IntKind} {w : World} {a : Option Addr} {len cap : Nat} {zs : List Int} (h : IsRow k w a len cap zs) : len ≤ 9223372036854775807 := by
  rcases h with ⟨_, rfl, _⟩ | ⟨x, _, hl, hm, _⟩
  · omega
  · unfold maxLen at hm; omega
theorem IsRow.sl8 {w : World} {a : Option Addr} {len cap : Nat} {zs : List Int} (h : IsRow .u8 w a len cap zs) : ∃ X, X.length = len ∧ Sl .u8 w (.slice a len cap) X ∧ U8s X := by
  obtain ⟨X, h1, h2, h3⟩ := h.sl
  exact ⟨X, h1, h2, fun n hn => by have := bounds_u8 (h3 n hn); exact ⟨this.1, by omega⟩⟩
def pow10L : List Int := [1, 10, 100, 1000, 10000, 100000, 1000000, 10000000, 100000000, 1000000000, 10000000000, 100000000000, 1000000000000, 10000000000000, 100000000000000, 1000000000000000, 10000000000000000, 100000000000000000, 1000000000000000000, 10000000000000000000]
def deb32L : List Int := [0, 1, 28, 2, 29, 14, 24, 3, 30, 22, 20, 15, 25, 17, 4, 8, 31, 27, 13, 23, 21, 19, 16, 7, 26, 12, 18, 6, 11, 5, 10, 9]
def deb64L : List Int := [0, 1, 56, 2, 57, 49, 28, 3, 61, 58, 42, 50, 38, 29, 17, 4, 62, 47, 59, 36, 45, 43, 51, 22, 53, 39, 33, 30, 24, 18, 12, 5, 63, 55, 48, 27, 60, 41, 37, 16, 46, 35, 44, 21, 52, 32, 23, 11, 54, 26, 40, 15, 34, 20, 31, 10, 25, 14, 19, 9, 13, 8, 7, 6]
theorem Tryz.g_pow : Tryz.prog.globalNamed "internal/strconv.uint64pow10" = some 2 := by kernel_rfl
theorem Tryz.gt_pow : (Tryz.prog.globals[2]?).map (·.type) = some 224 := by kernel_rfl
theorem Tryz.gc_pow : Tryz.prog.cellsOf 224 = 20 := by kernel_rfl
theorem Tryz.lf_pow : Rows.algReadsRow.laid.filter (fun x => x.1 == "internal/strconv.uint64pow10") = [("internal/strconv.uint64pow10", Lib.tabData .u64 pow10L)] := by kernel_rfl
theorem Tryz.c64 : Tryz.prog.cellsOf 136 = 1 := by kernel_rfl
theorem Tryz.u64 : Tryz.prog.underlying 136 = some (.int .u64) := by kernel_rfl
theorem rd_tab {W : World} {name : String} {k : IntKind} {zs : List Int} {g : Nat} (h : Lib.TabIs Tryz.prog W name k zs) (hg : Tryz.prog.globalNamed name = some g) : Rd k W g 0 zs := fun i hi => by
  rw [Nat.zero_add]; exact h.cell hg i hi
theorem laid_one {W : World} {n : String} {d : DataW Unit} (hd : d.handleName?.isNone = true) (h : laidMetH Tryz.prog [(n, d)] W) : laidMet Tryz.prog [(n, d)] W := by
  have e : ([(n, d)] : List (String × DataW Unit)).filter (fun x => x.2.handleName?.isSome) = [] := by
    have h0 : d.handleName?.isSome = false := by cases hx : d.handleName? <;> simp_all
    simp [h0]
  unfold laidMetH at h
  rw [e] at h
  exact h
theorem tabs_of_laid {W : World} (h : laidMetH Tryz.prog Rows.algReadsRow.laid W) : Tab W := by
  have h_f1 : Rd .u64 W 2 0 pow10L := by
    have h1 := laidMetH.filter (fun x => x.1 == "internal/strconv.uint64pow10") h
    rw [Tryz.lf_pow] at h1
    exact rd_tab (Lib.tabIs_of_head (rest := []) Tryz.g_pow Tryz.gt_pow Tryz.underlying224 Tryz.u64 Tryz.c64 Tryz.gc_pow (laid_one rfl h1)) Tryz.g_pow
  exact ⟨(cell_spot (h_f1 3 (by decide))).2, h_f1 3 (by decide)⟩
/-- A world for the witness: the settled one, the tables holding what their initialisers lay. -/
def laidWorld (W : World) : World :=
  { W with heap := (((W.heap.modify 2 fun | .cells _ t frozen => .cells (pow10L.map (Value.int .u64)).toArray t frozen | o => o).modify 3 fun | .cells _ t frozen => .cells (deb32L.map (Value.int .u8)).toArray t frozen | o => o).modify 4 fun | .cells _ t frozen => .cells (deb64L.map (Value.int .u8)).toArray t frozen | o => o) }
end Go.Proofs.YtillkhjihggcjaaGreatDoor
/-
  Der: the table of powers, whole, off the tied list.
-/
namespace Go.Proofs.YtillkhjihggcjaaGreatDoor
open Go.ChangeShapes Go.WideShapes Go.ChangeAt Go.RowKit
theorem Tryz.lf_pow2 : Rows.algReadsRow.laid.filter (fun x => x.1 == "internal/strconv.uint64pow10") = [("internal/strconv.uint64pow10", Lib.tabData .u64 Lib.pow10Tab)] := by kernel_rfl
theorem p10_of_laid {W : World} (h : laidMetH Tryz.prog Rows.algReadsRow.laid W) : P10 W := by
  have h1 := laidMetH.filter (fun x => x.1 == "internal/strconv.uint64pow10") h
  rw [Tryz.lf_pow2] at h1
  exact Lib.tabIs_of_head (rest := []) Tryz.g_pow Tryz.gt_pow Tryz.underlying224 Tryz.u64 Tryz.c64 Tryz.gc_pow (laid_one rfl h1)
structure TabO (w : World) : Prop where
  tab : Tab w
  p10 : P10 w
end Go.Proofs.YtillkhjihggcjaaGreatDoor
/-
  Alg: what the tied list gives; a world for the witness.
-/
namespace Go.Proofs.YtillkhjihggcjaaGreatDoor
open Go.ChangeShapes Go.WideShapes Go.ChangeAt Go.RowKit
def noneT : List UInt8 := [110, 111, 32, 97, 108, 103, 111, 114, 105, 116, 104, 109, 32, 116, 104, 97, 116, 32, 105, 115, 32, 107, 110, 111, 119, 110]
def keyT : List UInt8 := [110, 111, 32, 107, 101, 121]
theorem Tryz.g_none : Tryz.prog.globalNamed "chirograph/alg.errNone" = some 0 := by kernel_rfl
theorem Tryz.g_key : Tryz.prog.globalNamed "chirograph/alg.errKey" = some 1 := by kernel_rfl
theorem Tryz.gt_none : (Tryz.prog.globals[0]?).map (·.type) = some 62 := by kernel_rfl
theorem Tryz.gt_key : (Tryz.prog.globals[1]?).map (·.type) = some 62 := by kernel_rfl
theorem Tryz.ce_es : Tryz.prog.cellsOf 263 = 1 := by kernel_rfl
theorem Tryz.ce_str : Tryz.prog.cellsOf 9 = 1 := by kernel_rfl
theorem Tryz.lf_err : Rows.algReadsRow.laid.filter (fun x => x.1 == "chirograph/alg.errNone" || x.1 == "chirograph/alg.errKey") = [("chirograph/alg.errNone", .iface "*errors.errorString" (.ptr (.agg [.lit (.string noneT)]))), ("chirograph/alg.errKey", .iface "*errors.errorString" (.ptr (.agg [.lit (.string keyT)])))] := by kernel_rfl
theorem laid_two {W : World} {n m : String} {d d' : DataW Unit} (hd : d.handleName?.isNone = true) (hd' : d'.handleName?.isNone = true) (h : laidMetH Tryz.prog [(n, d), (m, d')] W) : laidMet Tryz.prog [(n, d), (m, d')] W := by
  have e : ([(n, d), (m, d')] : List (String × DataW Unit)).filter (fun x => x.2.handleName?.isSome) = [] := by
    have h0 : d.handleName?.isSome = false := by cases hx : d.handleName? <;> simp_all
    have h1 : d'.handleName?.isSome = false := by cases hx : d'.handleName? <;> simp_all
    simp [h0, h1]
  unfold laidMetH at h
  rw [e] at h
  exact h
theorem Tryz.star : "*" ++ "errors.errorString" = "*errors.errorString" := by decide
theorem Tryz.nm_es (u : TypeId) (h : Tryz.prog.typeName? 3 u = some "*errors.errorString") : u = 236 :=
  typeName_ptr_named (nm := "errors.errorString") (by rw [Tryz.star]; kernel_rfl) (by kernel_rfl) (by decide) u (by rw [Tryz.star]; exact h)
theorem glb_of_laid {W : World} (h : laidMetH Tryz.prog Rows.algReadsRow.laid W) : ∃ an ak, Glb W an ak := by
  have h1 := laidMetH.filter (fun x => x.1 == "chirograph/alg.errNone" || x.1 == "chirograph/alg.errKey") h
  rw [Tryz.lf_err] at h1
  obtain ⟨a0, a1, s0, s1, c0, c1, t0, t1, hv0, hv1, _, _, _, _, _, _, hne, hb0, hb1⟩ := laid_sentinels2 (laid_two rfl rfl h1) Tryz.g_none Tryz.gt_none Tryz.g_key Tryz.gt_key Tryz.underlying62 Tryz.nm_es Tryz.underlying236 Tryz.underlying263 rfl rfl Tryz.underlying9 Tryz.ce_es Tryz.ce_str
  have k0 : W.cell? ⟨0, 0, none⟩ = some (erV a0) := by unfold erV; simpa using World.var?_cell Tryz.g_none hv0 0
  have k1 : W.cell? ⟨1, 0, none⟩ = some (erV a1) := by unfold erV; simpa using World.var?_cell Tryz.g_key hv1 0
  exact ⟨a0, a1, k0, k1, fun e => hne e.symm, ⟨c0, t0, hb0⟩, ⟨c1, t1, hb1⟩, (cell_spot k0).2, (cell_spot k1).2⟩
theorem row8_of {H : Type} {enc : TypeId × Value → H} {W : World} {held : Bool} {n : Nat} {u : Value} {y : DataW H × List MemPlace} (h : DataW.trod enc Tryz.prog W 0 (fun _ => true) held n 22 [u] = some y) : ∃ (a : Option Addr) (len cap : Nat) (zs : List Int), u = .slice a len cap ∧ IsRow .u8 W a len cap zs := by
  rcases open_ints Tryz.underlying22 Tryz.underlying5 (by kernel_rfl) h with ⟨hcs, _⟩ | ⟨x, l, c, zs, hcs, _, hl, hm, hz, _, hcell, hwz⟩
  · simp at hcs
    subst hcs
    exact ⟨none, 0, 0, [], rfl, .inl ⟨rfl, rfl, rfl, rfl⟩⟩
  · simp at hcs
    subst hcs
    exact ⟨some x, l, c, zs, rfl, .inr ⟨_, rfl, hl, hm, by simpa using hz, hcell, hwz⟩⟩
set_option maxRecDepth 20000 in
/-- An element as an argument, opened. -/
theorem tlv_open {H : Type} {enc : TypeId × Value → H} {W : World} {held : Bool} {fuel : Nat} {cs : List Value} {x : DataW H × List MemPlace} (h : DataW.trod enc Tryz.prog W 0 (fun _ => true) held fuel 24 cs = some x) (hl : cs.length = 5) :
    ∃ cl tg co a n c zs a' n' c', cs = [.int .i64 cl, .int .i64 tg, .bool co, .slice a n c, .slice a' n' c'] ∧ IsRow .u8 W a n c zs := by
  have c1 : Tryz.prog.cellsOf 3 = 1 := by kernel_rfl
  have c2 : Tryz.prog.cellsOf 4 = 1 := by kernel_rfl
  have c3 : Tryz.prog.cellsOf 22 = 1 := by kernel_rfl
  obtain ⟨xs, k, hk, hxy, _, hxl, hf⟩ := DataW.trod_struct Tryz.underlying24 h
  have hxl5 : xs.length = 5 := by rw [hxl]; rfl
  clear hxl hxy
  match xs, hxl5, cs, hl with
  | [y0, y1, y2, y3, y4], _, [v0, v1, v2, v3, v4], _ =>
    have g0 := hf 0 _ rfl
    have g1 := hf 1 _ rfl
    have g2 := hf 2 _ rfl
    have g3 := hf 3 _ rfl
    have g4 := hf 4 _ rfl
    simp [c1, c2, c3] at g0 g1 g2 g3 g4
    obtain ⟨q0, e0, _, _⟩ := DataW.trod_int Tryz.underlying3 g0
    obtain ⟨q1, e1, _, _⟩ := DataW.trod_int Tryz.underlying3 g1
    obtain ⟨q2, e2, _⟩ := DataW.trod_bool Tryz.underlying4 g2
    simp only [List.cons.injEq, and_true] at e0 e1 e2
    subst e0; subst e1; subst e2
    obtain ⟨a, n, c, zs, rfl, r1⟩ := row8_of g3
    obtain ⟨a', n', c', zs', rfl, r2⟩ := row8_of g4
    exact ⟨_, _, _, a, n, c, zs, a', n', c', rfl, r1⟩
structure TabA (w : World) : Prop where
  p10 : P10 w
  glb : ∃ an ak, Glb w an ak
/-- The package's errors' texts, ahead of the witness. -/
abbrev errBlocks : Array Obj := #[.cells #[.string ⟨noneT.toArray⟩] 263, .cells #[.string ⟨keyT.toArray⟩] 263]
/-- A world for the witness: the tables and the errors hold what their initialisers lay. -/
def laidWorldA (W : World) : World :=
  { laidWorld W with heap := ((laidWorld W).heap.modify 0 fun | .cells _ t frozen => .cells #[.iface 236 (.pointer (some ⟨W.heap.size - 2, 0, none⟩))] t frozen | o => o).modify 1 fun | .cells _ t frozen => .cells #[.iface 236 (.pointer (some ⟨W.heap.size - 1, 0, none⟩))] t frozen | o => o }
end Go.Proofs.YtillkhjihggcjaaGreatDoor
