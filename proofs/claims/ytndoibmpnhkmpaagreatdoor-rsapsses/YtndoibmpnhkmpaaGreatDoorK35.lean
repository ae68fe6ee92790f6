/-
  Rsa: the law RsaPsses.
-/
import Derived.Test.YtndoibmpnhkmpaaGreatDoorRows
import Derived.Lib.LaidTab
import Derived.LaidSub
import Derived.MakeChecks
import Derived.OpenShut
import Derived.ProofKit
import Derived.Test.YtndoibmpnhkmpaaGreatDoorK34
namespace Go.Proofs.YtndoibmpnhkmpaaGreatDoor
open Go.RowKit
set_option maxRecDepth 20000
set_option maxHeartbeats 4000000 in
theorem RsaPsses_any {w : World} (a a' : Option Addr) (n c n' c' : Nat) (ns es : List Int) (hn : Sl .u32 w (.slice a n c) ns) (un : U32s ns) (ln : ns.length = n) (he : Sl .u32 w (.slice a' n' c') es) (ue : U32s es) (le : es.length = n')
    (alg mask salt : Int) (hs0 : -9223372036854775808 ≤ salt) (hs1 : salt ≤ 9223372036854775807) (f : Option Addr) (k g : Nat) (X : List Int) (hX : Sl .u8 w (.slice f k g) X) (uX : U8s X) (lX : X.length = k)
    (b : Option Addr) (m d : Nat) (sg : List Int) (hs : Sl .u8 w (.slice b m d) sg) (us : U8s sg) (ls : sg.length = m) (hT : Sh.Tabs w) :
    Calls Tryz.prog 5 #[.agg #[.slice a n c, .slice a' n' c'], .int .i64 alg, .int .i64 mask, .int .i64 salt, .slice f k g, .slice b m d] w fun e w' => e = .returned (.bool true) ∧ Below w.heap.size w w' := by
  have HT : Hid (Sh.Tabs w) := hT
  have HX : Hid (Sl .u8 w (.slice f k g) X ∧ X.length = k ∧ Sl .u8 w (.slice b m d) sg ∧ sg.length = m) := ⟨hX, lX, hs, ls⟩
  have HV : Hid (n ≤ 600 → n' ≤ 600 → k ≤ 8192 → ∀ W (q r : Option Addr) (y z : Nat), Below w.heap.size w W → Sl .u8 W (.slice q k y) X → Sl .u8 W (.slice r m z) sg → Calls Tryz.prog 20 #[.agg #[.slice a n c, .slice a' n' c'], .int .i64 alg, .int .i64 mask, .int .i64 salt, .slice q k y, .slice r m z] W fun e w' => e = .returned (.int .i64 (pssS alg mask salt X ns es sg)) ∧ Below W.heap.size W w') := fun h1 h2 h3 W q r y z hW k1 k2 => VerifyPss_any (hT.below hW) a a' n c n' c' ns es (below_sl hW hn) un ln (below_sl hW he) ue le h1 h2 r m z sg k2 us ls alg mask salt hs0 hs1 q k y X k1 uX lX h3
  have HR : Hid (n ≤ 600 → n' ≤ 600 → k ≤ 8192 → ∀ W, Below w.heap.size w W → Calls Tryz.prog 21 #[.agg #[.slice a n c, .slice a' n' c'], .int .i64 alg, .int .i64 mask, .int .i64 salt, .slice f k g, .slice b m d] W fun e w' => e = .returned (.int .i64 (pssS alg mask salt X ns es sg)) ∧ Below W.heap.size W w') := fun h1 h2 h3 W hW => RVerifyPss_any a a' n c n' c' ns es (below_sl hW hn) un ln (below_sl hW he) ue le h1 h2 b m d sg (below_sl hW hs) us ls alg mask salt hs0 hs1 f k g X (below_sl hW hX) uX lX h3
  obtain ⟨V, hV⟩ : ∃ V, pssS alg mask salt X ns es sg = V := ⟨_, rfl⟩
  rw [hV] at HV HR
  clear hn un ln he ue le hs us ls hX uX lX hT hV hs0 hs1
  go_enter Tryz.func5, Tryz.ntmps5
  go_upto_region 1 with (refine Sh.wpList_boxR rfl 24 (.tmp 0) rfl #[.slice a n c, .slice a' n' c'] rfl ?_)
  refine Sh.wp_gen (fun W => Blk 24 W w.heap.size [.slice a n c, .slice a' n' c'] ∧ Below w.heap.size w W) ⟨Blk.new _ w _, al1 _⟩ ?_
  rintro W2 ⟨hB, hBw⟩
  have hc0 : W2.cell? ⟨w.heap.size, 0, none⟩ = some (.slice a n c) := hB.cell 0
  have hc1 : W2.cell? ⟨w.heap.size, 1, none⟩ = some (.slice a' n' c') := hB.cell 1
  have H2 : Hid (Below w.heap.size w W2 ∧ ∀ W3, Below W2.heap.size W2 W3 → Below w.heap.size w W3 ∧ W3.cell? ⟨w.heap.size, 0, none⟩ = some (.slice a n c) ∧ W3.cell? ⟨w.heap.size, 1, none⟩ = some (.slice a' n' c')) := ⟨hBw, fun W3 h3 => ⟨below_via hBw h3 (Nat.le_refl _), (below_blk h3 hB.lt hB).cell 0, (below_blk h3 hB.lt hB).cell 1⟩⟩
  clear hB hBw
  by_cases h0 : ¬ n ≤ 64
  · have d0 : decide ((64 : Int) < (n : Int)) = true := by simp; omega
    go_wp2_with (go_at_call 9; refine (live8_any (HT.out.below H2.out.1)).mono ?_; rintro e w3 ⟨rfl, hb3⟩; have H3 : Hid (Below w.heap.size w w3) := below_via H2.out.1 hb3 (Nat.le_refl _); clear hb3)
    go_ret
    exact ⟨rfl, H3.out⟩
  have h0 := Decidable.not_not.1 h0
  have d0 : decide ((64 : Int) < (n : Int)) = false := by simp; omega
  by_cases h1 : ¬ n' ≤ 600
  · have d1 : decide ((600 : Int) < (n' : Int)) = true := by simp; omega
    go_wp2_with (go_at_call 9; refine (live8_any (HT.out.below H2.out.1)).mono ?_; rintro e w3 ⟨rfl, hb3⟩; have H3 : Hid (Below w.heap.size w w3) := below_via H2.out.1 hb3 (Nat.le_refl _); clear hb3)
    go_ret
    exact ⟨rfl, H3.out⟩
  have h1 := Decidable.not_not.1 h1
  have d1 : decide ((600 : Int) < (n' : Int)) = false := by simp; omega
  by_cases h2 : ¬ k ≤ 8192
  · have d2 : decide ((8192 : Int) < (k : Int)) = true := by simp; omega
    go_wp2_with (go_at_call 9; refine (live8_any (HT.out.below H2.out.1)).mono ?_; rintro e w3 ⟨rfl, hb3⟩; have H3 : Hid (Below w.heap.size w w3) := below_via H2.out.1 hb3 (Nat.le_refl _); clear hb3)
    go_ret
    exact ⟨rfl, H3.out⟩
  have h2 := Decidable.not_not.1 h2
  have d2 : decide ((8192 : Int) < (k : Int)) = false := by simp; omega
  by_cases h3 : ¬ m ≤ 8192
  · have d3 : decide ((8192 : Int) < (m : Int)) = true := by simp; omega
    go_wp2_with (go_at_call 9; refine (live8_any (HT.out.below H2.out.1)).mono ?_; rintro e w3 ⟨rfl, hb3⟩; have H3 : Hid (Below w.heap.size w w3) := below_via H2.out.1 hb3 (Nat.le_refl _); clear hb3)
    go_ret
    exact ⟨rfl, H3.out⟩
  have h3 := Decidable.not_not.1 h3
  have d3 : decide ((8192 : Int) < (m : Int)) = false := by simp; omega
  have HZ : Hid (n ≤ 64 ∧ n' ≤ 600 ∧ k ≤ 8192 ∧ m ≤ 8192) := ⟨h0, h1, h2, h3⟩
  go_wp2_with fail
  refine (Lent8_n X _ _ k HX.out.2.1 (below_sl H2.out.1 HX.out.1) (by have := HZ.out.2.2; omega)).mono ?_
  rintro e w3 ⟨b3, S3, c3, rfl, hl3, _, _, _, hb3⟩
  have H3 : Hid (LentR8 W2.heap.size w3 (.slice (some ⟨b3, 0, none⟩) k c3) X ∧ Below W2.heap.size W2 w3) := ⟨hl3, hb3⟩
  clear hl3 hb3 hc0 hc1 h0 h1 h2 h3
  go_wp2_with fail
  refine (Lent8_n sg _ _ m HX.out.2.2.2 (below_sl (H2.out.2 _ H3.out.2).1 HX.out.2.2.1) (by have := HZ.out.2.2; omega)).mono ?_
  rintro e w4 ⟨b4, S4, c4, rfl, hl4, _, _, _, hb4⟩
  have H4 : Hid (LentR8 W2.heap.size w4 (.slice (some ⟨b3, 0, none⟩) k c3) X ∧ LentR8 w3.heap.size w4 (.slice (some ⟨b4, 0, none⟩) m c4) sg ∧ Below W2.heap.size W2 w4 ∧ Below w.heap.size w w4) := ⟨H3.out.1.below hb4, hl4, below_via H3.out.2 hb4 (Nat.le_refl _), (H2.out.2 _ (below_via H3.out.2 hb4 (Nat.le_refl _))).1⟩
  clear hl4 hb4 H3
  have HS : Hid (∀ W, Below w4.heap.size w4 W → W.cell? ⟨w.heap.size, 0, none⟩ = some (.slice a n c) ∧ W.cell? ⟨w.heap.size, 1, none⟩ = some (.slice a' n' c')) := fun W hW => (H2.out.2 _ (below_via H4.out.2.2.1 hW (Nat.le_refl _))).2
  go_wp2_with fail
  go_region_held3 (fun W => Below w4.heap.size w4 W ∧ W.cell? ⟨w.heap.size, 0, none⟩ = some (.slice a n c) ∧ W.cell? ⟨w.heap.size, 1, none⟩ = some (.slice a' n' c'))
    (first | assumption | exact (fun h => ⟨h, HS.out _ h⟩) (Below.drew (Below.refl _ _)) | exact (fun h => ⟨h, HS.out _ h⟩) (below_via (And.left (by assumption)) (by assumption) (Nat.le_refl _)))
    (first
    | (go_at_call 15; refine (num8_any _ _).mono ?_; rintro e w' ⟨rfl, rfl⟩)
    | (go_at_call 20; refine (HV.out (by have := HZ.out.1; omega) HZ.out.2.1 HZ.out.2.2.1 _ _ _ _ _ (below_via H4.out.2.2.2 (And.left (by assumption)) (Nat.le_refl _)) (H4.out.1.below (And.left (by assumption))).sl (H4.out.2.1.below (And.left (by assumption))).sl).mono ?_; rintro e w5 ⟨rfl, hb5⟩)
    | (go_at_call 21; refine (HR.out (by have := HZ.out.1; omega) HZ.out.2.1 HZ.out.2.2.1 _ (below_via H4.out.2.2.2 (And.left (by assumption)) (Nat.le_refl _))).mono ?_; rintro e w6 ⟨rfl, hb6⟩)
    | (replace hb7 := hb7; go_at_call 16; refine (Kept8_any _ _ sg (H4.out.2.1.below (And.left (by assumption))) (below_sl (below_via H4.out.2.2.2 (And.left (by assumption)) (Nat.le_refl _)) HX.out.2.2.1) (by have := HX.out.2.2.2; have := HZ.out.2.2.2; omega)).mono ?_; rintro e w8 ⟨rfl, hb8⟩)
    | (go_at_call 16; refine (Kept8_any _ _ X (H4.out.1.below (And.left (by assumption))) (below_sl (below_via H4.out.2.2.2 (And.left (by assumption)) (Nat.le_refl _)) HX.out.1) (by have := HX.out.2.1; have := HZ.out.2.2.1; omega)).mono ?_; rintro e w7 ⟨rfl, hb7⟩)
    | (go_at_call 9; refine (live8_any (HT.out.below (below_via H4.out.2.2.2 (And.left (by assumption)) (Nat.le_refl _)))).mono ?_; rintro e w9 ⟨rfl, hb9⟩))
  have H9 : Hid (Below w.heap.size w w9) := below_via H4.out.2.2.2 (And.left (by assumption)) (Nat.le_refl _)
  go_wp2
  go_ret
  exact ⟨rfl, H9.out⟩
end Go.Proofs.YtndoibmpnhkmpaaGreatDoor
/-
  Rsa: what the tied list of tables gives; a world for the witness; how an argument reads.
-/
namespace Go.Proofs.YtndoibmpnhkmpaaGreatDoor
open Go.ChangeShapes Go.WideShapes Go.ChangeAt Go.RowKit
/-! ### how an argument reads -/
def IsRow (k : IntKind) (w : World) (a : Option Addr) (len cap : Nat) (zs : List Int) : Prop :=
  (a = none ∧ len = 0 ∧ cap = 0 ∧ zs = []) ∨
  ∃ x, a = some x ∧ len ≤ cap ∧ cap ≤ maxLen ∧ zs.length = cap ∧ (∀ i, i < zs.length → w.cell? (x.add i) = some (.int k (zs.getD i 0))) ∧ ∀ n ∈ zs, (Lit.int k n).wf = true
theorem cell_spot {w : World} {x : Addr} {v : Value} (h : w.cell? x = some v) : x.spot = none ∧ x.block < w.heap.size := by
  unfold World.cell? at h
  split at h
  · rename_i c t f hh
    refine ⟨?_, (Array.getElem?_eq_some_iff.1 hh).1⟩
    by_cases hs : x.spot.isSome
    · simp [hs] at h
    · simpa using hs
  · cases h
theorem IsRow.sl {k : IntKind} {w : World} {a : Option Addr} {len cap : Nat} {zs : List Int} (h : IsRow k w a len cap zs) :
    ∃ X, X.length = len ∧ Sl k w (.slice a len cap) X ∧ ∀ n ∈ X, (Lit.int k n).wf = true := by
  rcases h with ⟨rfl, rfl, rfl, rfl⟩ | ⟨x, rfl, hl, hm, hz, hc, hw⟩
  · exact ⟨[], rfl, ⟨none, 0, rfl, Nat.le_refl _, .inl rfl⟩, by simp⟩
  · refine ⟨zs.take len, by simp; omega, ⟨some x, cap, by simp; omega, by simp; omega, ?_⟩, fun n hn => hw n (List.mem_of_mem_take hn)⟩
    by_cases h0 : len = 0
    · subst h0; exact .inl (by simp)
    · right
      obtain ⟨b, off, sp⟩ := x
      have h1 := cell_spot (hc 0 (by omega))
      have hsp : sp = none := by
        have := h1.1
        cases sp with
        | none => rfl
        | some s => simp [Addr.add] at this
      subst hsp
      have hb : b < w.heap.size := by have := h1.2; simpa [Addr.add] using this
      refine ⟨b, off, rfl, hb, fun i hi => ?_⟩
      simp at hi
      have := hc i (by omega)
      have hadd : (⟨b, off, none⟩ : Addr).add i = ⟨b, off + i, none⟩ := by simp [Addr.add]
      rw [hadd] at this
      rw [this]
      simp [show i < len by omega]
theorem IsRow.sl8 {w : World} {a : Option Addr} {len cap : Nat} {zs : List Int} (h : IsRow .u8 w a len cap zs) : ∃ X, X.length = len ∧ Sl .u8 w (.slice a len cap) X ∧ U8s X := by
  obtain ⟨X, h1, h2, h3⟩ := h.sl
  exact ⟨X, h1, h2, fun n hn => by have := bounds_u8 (h3 n hn); exact ⟨this.1, by omega⟩⟩
theorem Tryz.g_first1 : Tryz.prog.globalNamed "chirograph/sha.first1" = some 0 := by kernel_rfl
theorem Tryz.gt_first1 : (Tryz.prog.globals[0]?).map (·.type) = some 115 := by kernel_rfl
theorem Tryz.gc_first1 : Tryz.prog.cellsOf 115 = 8 := by kernel_rfl
theorem Tryz.lf_first1 : Rows.rsaRawsRow.laid.filter (fun x => x.1 == "chirograph/sha.first1") = [("chirograph/sha.first1", Lib.tabData .u32 Sh.first1L)] := by kernel_rfl
theorem Tryz.g_first256 : Tryz.prog.globalNamed "chirograph/sha.first256" = some 1 := by kernel_rfl
theorem Tryz.gt_first256 : (Tryz.prog.globals[1]?).map (·.type) = some 115 := by kernel_rfl
theorem Tryz.gc_first256 : Tryz.prog.cellsOf 115 = 8 := by kernel_rfl
theorem Tryz.lf_first256 : Rows.rsaRawsRow.laid.filter (fun x => x.1 == "chirograph/sha.first256") = [("chirograph/sha.first256", Lib.tabData .u32 Sh.first256L)] := by kernel_rfl
theorem Tryz.g_first384 : Tryz.prog.globalNamed "chirograph/sha.first384" = some 2 := by kernel_rfl
theorem Tryz.gt_first384 : (Tryz.prog.globals[2]?).map (·.type) = some 80 := by kernel_rfl
theorem Tryz.gc_first384 : Tryz.prog.cellsOf 80 = 8 := by kernel_rfl
theorem Tryz.lf_first384 : Rows.rsaRawsRow.laid.filter (fun x => x.1 == "chirograph/sha.first384") = [("chirograph/sha.first384", Lib.tabData .u64 Sh.first384L)] := by kernel_rfl
theorem Tryz.g_first512 : Tryz.prog.globalNamed "chirograph/sha.first512" = some 3 := by kernel_rfl
theorem Tryz.gt_first512 : (Tryz.prog.globals[3]?).map (·.type) = some 80 := by kernel_rfl
theorem Tryz.gc_first512 : Tryz.prog.cellsOf 80 = 8 := by kernel_rfl
theorem Tryz.lf_first512 : Rows.rsaRawsRow.laid.filter (fun x => x.1 == "chirograph/sha.first512") = [("chirograph/sha.first512", Lib.tabData .u64 Sh.first512L)] := by kernel_rfl
theorem Tryz.g_adds1 : Tryz.prog.globalNamed "chirograph/sha.adds1" = some 5 := by kernel_rfl
theorem Tryz.gt_adds1 : (Tryz.prog.globals[5]?).map (·.type) = some 167 := by kernel_rfl
theorem Tryz.gc_adds1 : Tryz.prog.cellsOf 167 = 4 := by kernel_rfl
theorem Tryz.lf_adds1 : Rows.rsaRawsRow.laid.filter (fun x => x.1 == "chirograph/sha.adds1") = [("chirograph/sha.adds1", Lib.tabData .u32 Sh.adds1L)] := by kernel_rfl
theorem Tryz.g_adds256 : Tryz.prog.globalNamed "chirograph/sha.adds256" = some 6 := by kernel_rfl
theorem Tryz.gt_adds256 : (Tryz.prog.globals[6]?).map (·.type) = some 113 := by kernel_rfl
theorem Tryz.gc_adds256 : Tryz.prog.cellsOf 113 = 64 := by kernel_rfl
theorem Tryz.lf_adds256 : Rows.rsaRawsRow.laid.filter (fun x => x.1 == "chirograph/sha.adds256") = [("chirograph/sha.adds256", Lib.tabData .u32 Sh.adds256L)] := by kernel_rfl
theorem Tryz.g_adds512 : Tryz.prog.globalNamed "chirograph/sha.adds512" = some 7 := by kernel_rfl
theorem Tryz.gt_adds512 : (Tryz.prog.globals[7]?).map (·.type) = some 116 := by kernel_rfl
theorem Tryz.gc_adds512 : Tryz.prog.cellsOf 116 = 80 := by kernel_rfl
theorem Tryz.lf_adds512 : Rows.rsaRawsRow.laid.filter (fun x => x.1 == "chirograph/sha.adds512") = [("chirograph/sha.adds512", Lib.tabData .u64 Sh.adds512L)] := by kernel_rfl
theorem Tryz.c32 : Tryz.prog.cellsOf 56 = 1 := by kernel_rfl
theorem Tryz.c64 : Tryz.prog.cellsOf 79 = 1 := by kernel_rfl
theorem Tryz.u32 : Tryz.prog.underlying 56 = some (.int .u32) := by kernel_rfl
theorem Tryz.u64 : Tryz.prog.underlying 79 = some (.int .u64) := by kernel_rfl
theorem rd_tab {W : World} {name : String} {k : IntKind} {zs : List Int} {g : Nat} (h : Lib.TabIs Tryz.prog W name k zs) (hg : Tryz.prog.globalNamed name = some g) : Rd k W g 0 zs := fun i hi => by
  rw [Nat.zero_add]; exact h.cell hg i hi
theorem laid_one {W : World} {n : String} {d : DataW Unit} (hd : d.handleName?.isNone = true) (h : laidMetH Tryz.prog [(n, d)] W) : laidMet Tryz.prog [(n, d)] W := by
  have e : ([(n, d)] : List (String × DataW Unit)).filter (fun x => x.2.handleName?.isSome) = [] := by
    have h0 : d.handleName?.isSome = false := by cases hx : d.handleName? <;> simp_all
    simp [h0]
  unfold laidMetH at h
  rw [e] at h
  exact h
theorem tabs_of_laid {W : World} (h : laidMetH Tryz.prog Rows.rsaRawsRow.laid W) : Sh.Tabs W := by
  have h_f1 : Rd .u32 W 0 0 Sh.first1L := by
    have h1 := laidMetH.filter (fun x => x.1 == "chirograph/sha.first1") h
    rw [Tryz.lf_first1] at h1
    exact rd_tab (Lib.tabIs_of_head (rest := []) Tryz.g_first1 Tryz.gt_first1 Tryz.underlying115 Tryz.u32 Tryz.c32 Tryz.gc_first1 (laid_one rfl h1)) Tryz.g_first1
  have h_f256 : Rd .u32 W 1 0 Sh.first256L := by
    have h1 := laidMetH.filter (fun x => x.1 == "chirograph/sha.first256") h
    rw [Tryz.lf_first256] at h1
    exact rd_tab (Lib.tabIs_of_head (rest := []) Tryz.g_first256 Tryz.gt_first256 Tryz.underlying115 Tryz.u32 Tryz.c32 Tryz.gc_first256 (laid_one rfl h1)) Tryz.g_first256
  have h_f384 : Rd .u64 W 2 0 Sh.first384L := by
    have h1 := laidMetH.filter (fun x => x.1 == "chirograph/sha.first384") h
    rw [Tryz.lf_first384] at h1
    exact rd_tab (Lib.tabIs_of_head (rest := []) Tryz.g_first384 Tryz.gt_first384 Tryz.underlying80 Tryz.u64 Tryz.c64 Tryz.gc_first384 (laid_one rfl h1)) Tryz.g_first384
  have h_f512 : Rd .u64 W 3 0 Sh.first512L := by
    have h1 := laidMetH.filter (fun x => x.1 == "chirograph/sha.first512") h
    rw [Tryz.lf_first512] at h1
    exact rd_tab (Lib.tabIs_of_head (rest := []) Tryz.g_first512 Tryz.gt_first512 Tryz.underlying80 Tryz.u64 Tryz.c64 Tryz.gc_first512 (laid_one rfl h1)) Tryz.g_first512
  have h_a1 : Rd .u32 W 5 0 Sh.adds1L := by
    have h1 := laidMetH.filter (fun x => x.1 == "chirograph/sha.adds1") h
    rw [Tryz.lf_adds1] at h1
    exact rd_tab (Lib.tabIs_of_head (rest := []) Tryz.g_adds1 Tryz.gt_adds1 Tryz.underlying167 Tryz.u32 Tryz.c32 Tryz.gc_adds1 (laid_one rfl h1)) Tryz.g_adds1
  have h_a256 : Rd .u32 W 6 0 Sh.adds256L := by
    have h1 := laidMetH.filter (fun x => x.1 == "chirograph/sha.adds256") h
    rw [Tryz.lf_adds256] at h1
    exact rd_tab (Lib.tabIs_of_head (rest := []) Tryz.g_adds256 Tryz.gt_adds256 Tryz.underlying113 Tryz.u32 Tryz.c32 Tryz.gc_adds256 (laid_one rfl h1)) Tryz.g_adds256
  have h_a512 : Rd .u64 W 7 0 Sh.adds512L := by
    have h1 := laidMetH.filter (fun x => x.1 == "chirograph/sha.adds512") h
    rw [Tryz.lf_adds512] at h1
    exact rd_tab (Lib.tabIs_of_head (rest := []) Tryz.g_adds512 Tryz.gt_adds512 Tryz.underlying116 Tryz.u64 Tryz.c64 Tryz.gc_adds512 (laid_one rfl h1)) Tryz.g_adds512
  refine ⟨?_, h_f1, h_f256, h_f384, h_f512, h_a1, h_a256, h_a512⟩
  have := (cell_spot (h_a512 0 (by decide))).2
  simp at this
  omega
/-- A world for the witness: the settled one, the tables holding what their initialisers lay. -/
noncomputable def laidWorld (os : Os) : World :=
  { World.holding Tryz.prog os ⟨#[], #[], []⟩ with heap := ((((((((World.holding Tryz.prog os ⟨#[], #[], []⟩).heap.modify 0 fun | .cells _ t frozen => .cells (Sh.first1L.map (Value.int .u32)).toArray t frozen | o => o).modify 1 fun | .cells _ t frozen => .cells (Sh.first256L.map (Value.int .u32)).toArray t frozen | o => o).modify 2 fun | .cells _ t frozen => .cells (Sh.first384L.map (Value.int .u64)).toArray t frozen | o => o).modify 3 fun | .cells _ t frozen => .cells (Sh.first512L.map (Value.int .u64)).toArray t frozen | o => o).modify 5 fun | .cells _ t frozen => .cells (Sh.adds1L.map (Value.int .u32)).toArray t frozen | o => o).modify 6 fun | .cells _ t frozen => .cells (Sh.adds256L.map (Value.int .u32)).toArray t frozen | o => o).modify 7 fun | .cells _ t frozen => .cells (Sh.adds512L.map (Value.int .u64)).toArray t frozen | o => o) }
end Go.Proofs.YtndoibmpnhkmpaaGreatDoor
