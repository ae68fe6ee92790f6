/-
  Rsa: the reference's Size; the law RsaChecks.
-/
import Derived.Test.YtkjjfjekpdjboaaDoorRows
import Derived.Lib.LaidTab
import Derived.LaidSub
import Derived.MakeChecks
import Derived.OpenShut
import Derived.ProofKit
import Derived.Test.YtkjjfjekpdjboaaDoorK15
namespace Go.Proofs.YtkjjfjekpdjboaaDoor
open Go.RowKit
set_option maxRecDepth 20000
set_option maxHeartbeats 2000000 in
theorem RSize_any {w : World} (a a' : Option Addr) (n c n' c' : Nat) (ns es : List Int) (hn : Sl .u32 w (.slice a n c) ns) (un : U32s ns) (ln : ns.length = n) (he : Sl .u32 w (.slice a' n' c') es) (ue : U32s es) (le : es.length = n') (hb : n ≤ 600) (hb' : n' ≤ 600) (hbts : bts ns ≤ 1152921504606846976) :
    Calls Tryd.prog 11 #[.agg #[.slice a n c, .slice a' n' c']] w fun e w' => e = .returned (.int .i64 (keySz ns es)) ∧ Below w.heap.size w w' := by
  have HC : Hid (∀ W, Below w.heap.size w W → Calls Tryd.prog 9 #[.agg #[.slice a n c, .slice a' n' c']] W fun e w'' => e = .returned (.int .i64 (if keyOk ns es then 0 else 80)) ∧ Below W.heap.size W w'') := fun W hw => RCheck_any a a' n c n' c' ns es (below_sl hw hn) un ln (below_sl hw he) ue le hb hb'
  obtain ⟨B, hB⟩ : ∃ B, bts ns = B := ⟨_, rfl⟩
  have HBt : Hid (∀ W, Below w.heap.size w W → Calls Tryd.prog 22 #[.slice a n c] W fun e w'' => e = .returned (.int .i64 B) ∧ Below W.heap.size W w'') := fun W hw =>
    (RBits_any _ ns (below_sl hw hn) un (by omega) _ rfl).mono fun _ _ h => ⟨by rw [h.1, ← hB]; rfl, h.2⟩
  obtain ⟨R, hR⟩ : ∃ R, keySz ns es = R := ⟨_, rfl⟩
  have HR : Hid ((if keyOk ns es then (B + 7) / 8 else 0) = R) := by rw [← hR, ← hB]; rfl
  rw [hR]
  rw [hB] at hbts
  clear hn un ln he ue le hR hB
  go_enter Tryd.func11, Tryd.ntmps11
  go_upto_region 1 with (refine Sh.wpList_boxR rfl 24 (.tmp 0) rfl #[.slice a n c, .slice a' n' c'] rfl ?_)
  refine Sh.wp_gen (fun W => Blk 24 W w.heap.size [.slice a n c, .slice a' n' c'] ∧ Below w.heap.size w W) ⟨Blk.new _ w _, al1 _⟩ ?_
  rintro W2 ⟨hB, hBw⟩
  have hr : W2.rangeAt w.heap.size 0 [.slice a n c, .slice a' n' c'] := hB.whole
  have H2 : Hid (Below w.heap.size w W2 ∧ ∀ W3, Below W2.heap.size W2 W3 → W3.cell? ⟨w.heap.size, 0, none⟩ = some (.slice a n c) ∧ Below w.heap.size w W3) := ⟨hBw, fun W3 h3 => ⟨(below_blk h3 hB.lt hB).cell 0, below_via hBw h3 (Nat.le_refl _)⟩⟩
  have HRg : Hid (W2.rangeAt w.heap.size 0 [.slice a n c, .slice a' n' c']) := hr
  clear hB hBw hr
  cases hk : keyOk ns es with
  | false =>
    rw [hk] at HC
    go_wp2_with (first
      | (refine wpList_load_mid rfl 24 (.tmp 1) rfl w.heap.size 0 rfl [.slice a n c, .slice a' n' c'] _ HRg.out Tryd.underlying24 rfl (by kernel_rfl) ?_)
      | (go_at_call 9; refine (HC.out _ H2.out.1).mono ?_; rintro e w3 ⟨rfl, hb3⟩; have H3 : Hid (Below w.heap.size w w3) := (H2.out.2 w3 hb3).2; clear hb3))
    go_ret
    exact ⟨by rw [← HR.out]; simp [hk], H3.out⟩
  | true =>
    rw [hk] at HC
    go_wp2_with (first
      | (refine wpList_load_mid rfl 24 (.tmp 1) rfl w.heap.size 0 rfl [.slice a n c, .slice a' n' c'] _ HRg.out Tryd.underlying24 rfl (by kernel_rfl) ?_)
      | (go_at_call 9; refine (HC.out _ H2.out.1).mono ?_; rintro e w3 ⟨rfl, hb3⟩; have hc3 := (H2.out.2 w3 hb3).1; have H3 : Hid (Below w.heap.size w w3) := (H2.out.2 w3 hb3).2; clear hb3)
      | (go_at_call 22; refine (HBt.out _ H3.out).mono ?_; rintro e w4 ⟨rfl, hb4⟩; have H4 : Hid (Below w.heap.size w w4) := below_via H3.out hb4 (Nat.le_refl _); clear hb4))
    go_ret
    exact ⟨by rw [← HR.out]; simp [hk], H4.out⟩
theorem bts_le {xs : List Int} (u : U32s xs) (h : xs.length ≤ 600) : bts xs ≤ 1152921504606846976 := by
  have h1 := val_lt u
  have h2 : (val xs).toNat < 2 ^ (32 * xs.length) := by
    have h3 := val_nonneg u
    have h4 : (((val xs).toNat : Nat) : Int) < ((2 ^ (32 * xs.length) : Nat) : Int) := by
      rw [Int.toNat_of_nonneg h3, Int.natCast_pow, Int.pow_mul]; exact h1
    exact Int.ofNat_lt.1 h4
  have h5 := bitLen_lt h2
  unfold bts
  omega
set_option maxHeartbeats 4000000 in
theorem RsaChecks_any {w : World} (a a' : Option Addr) (n c n' c' : Nat) (ns es : List Int) (hn : Sl .u32 w (.slice a n c) ns) (un : U32s ns) (ln : ns.length = n) (he : Sl .u32 w (.slice a' n' c') es) (ue : U32s es) (le : es.length = n') (hT : Sh.Tabs w) :
    Calls Tryd.prog 3 #[.agg #[.slice a n c, .slice a' n' c']] w fun e w' => e = .returned (.bool true) ∧ Below w.heap.size w w' := by
  have HT : Hid (Sh.Tabs w) := hT
  have HC1 : Hid (n ≤ 600 → n' ≤ 600 → ∀ W, Below w.heap.size w W → Calls Tryd.prog 8 #[.agg #[.slice a n c, .slice a' n' c']] W fun e w'' => e = .returned (.int .i64 (if keyOk ns es then 0 else 80)) ∧ Below W.heap.size W w'') := fun h h' W hw => Check_any a a' n c n' c' ns es (below_sl hw hn) un ln (below_sl hw he) ue le (by omega) (by omega)
  have HC2 : Hid (n ≤ 600 → n' ≤ 600 → ∀ W, Below w.heap.size w W → Calls Tryd.prog 9 #[.agg #[.slice a n c, .slice a' n' c']] W fun e w'' => e = .returned (.int .i64 (if keyOk ns es then 0 else 80)) ∧ Below W.heap.size W w'') := fun h h' W hw => RCheck_any a a' n c n' c' ns es (below_sl hw hn) un ln (below_sl hw he) ue le h h'
  have HS1 : Hid (n ≤ 600 → n' ≤ 600 → ∀ W, Below w.heap.size w W → Calls Tryd.prog 10 #[.agg #[.slice a n c, .slice a' n' c']] W fun e w'' => e = .returned (.int .i64 (keySz ns es)) ∧ Below W.heap.size W w'') := fun h h' W hw => Size_key a a' n c n' c' ns es (below_sl hw hn) un ln (below_sl hw he) ue le (by omega) (by omega) (bts_le un (by omega))
  have HS2 : Hid (n ≤ 600 → n' ≤ 600 → ∀ W, Below w.heap.size w W → Calls Tryd.prog 11 #[.agg #[.slice a n c, .slice a' n' c']] W fun e w'' => e = .returned (.int .i64 (keySz ns es)) ∧ Below W.heap.size W w'') := fun h h' W hw => RSize_any a a' n c n' c' ns es (below_sl hw hn) un ln (below_sl hw he) ue le h h' (bts_le un (by omega))
  obtain ⟨R, hR⟩ : ∃ R : Int, (if keyOk ns es then 0 else 80) = R := ⟨_, rfl⟩
  obtain ⟨Z, hZ⟩ : ∃ Z, keySz ns es = Z := ⟨_, rfl⟩
  rw [hR] at HC1 HC2
  rw [hZ] at HS1 HS2
  clear hn un ln he ue le hT hR hZ
  go_enter Tryd.func3, Tryd.ntmps3
  go_upto_region 1 with (refine Sh.wpList_boxR rfl 24 (.tmp 0) rfl #[.slice a n c, .slice a' n' c'] rfl ?_)
  refine Sh.wp_gen (fun W => Blk 24 W w.heap.size [.slice a n c, .slice a' n' c'] ∧ Below w.heap.size w W) ⟨Blk.new _ w _, al1 _⟩ ?_
  rintro W2 ⟨hB, hBw⟩
  have hc0 : W2.cell? ⟨w.heap.size, 0, none⟩ = some (.slice a n c) := hB.cell 0
  have hc1 : W2.cell? ⟨w.heap.size, 1, none⟩ = some (.slice a' n' c') := hB.cell 1
  have H2 : Hid (Below w.heap.size w W2 ∧ ∀ W3, Below W2.heap.size W2 W3 → W3.cell? ⟨w.heap.size, 0, none⟩ = some (.slice a n c) ∧ W3.cell? ⟨w.heap.size, 1, none⟩ = some (.slice a' n' c') ∧ Below w.heap.size w W3) := ⟨hBw, fun W3 h3 => ⟨(below_blk h3 hB.lt hB).cell 0, (below_blk h3 hB.lt hB).cell 1, below_via hBw h3 (Nat.le_refl _)⟩⟩
  clear hB hBw
  by_cases h1 : ¬ n ≤ 600
  · have d1 : decide ((600 : Int) < (n : Int)) = true := by simp; omega
    go_wp2_with (go_at_call 6; refine (live8_any (HT.out.below H2.out.1)).mono ?_; rintro e w3 ⟨rfl, hb3⟩; have H3 : Hid (Below w.heap.size w w3) := below_via H2.out.1 hb3 (Nat.le_refl _); clear hb3)
    go_ret
    exact ⟨rfl, H3.out⟩
  have h1 := Decidable.not_not.1 h1
  have d1 : decide ((600 : Int) < (n : Int)) = false := by simp; omega
  by_cases h2 : ¬ n' ≤ 600
  · have d2 : decide ((600 : Int) < (n' : Int)) = true := by simp; omega
    go_wp2_with (go_at_call 6; refine (live8_any (HT.out.below H2.out.1)).mono ?_; rintro e w3 ⟨rfl, hb3⟩; have H3 : Hid (Below w.heap.size w w3) := below_via H2.out.1 hb3 (Nat.le_refl _); clear hb3)
    go_ret
    exact ⟨rfl, H3.out⟩
  have h2 := Decidable.not_not.1 h2
  have d2 : decide ((600 : Int) < (n' : Int)) = false := by simp; omega
  have four : Hid (∀ W3, Below W2.heap.size W2 W3 → W3.cell? ⟨w.heap.size, 0, none⟩ = some (.slice a n c) ∧ W3.cell? ⟨w.heap.size, 1, none⟩ = some (.slice a' n' c')) := fun W3 h3 => ⟨(H2.out.2 W3 h3).1, (H2.out.2 W3 h3).2.1⟩
  go_wp2_with fail
  clear hc0 hc1
  go_region_held3 (fun W => Below W2.heap.size W2 W ∧ W.cell? ⟨w.heap.size, 0, none⟩ = some (.slice a n c) ∧ W.cell? ⟨w.heap.size, 1, none⟩ = some (.slice a' n' c'))
    (first | assumption | exact (fun h => ⟨h, four.out _ h⟩) (Below.drew (Below.refl _ _)) | exact (fun h => ⟨h, four.out _ h⟩) (below_via (And.left (by assumption)) (by assumption) (Nat.le_refl _)))
    (first
    | (go_at_call 7; refine (num8_any _ _).mono ?_; rintro e w' ⟨rfl, rfl⟩)
    | (go_at_call 8; refine (HC1.out h1 h2 _ (below_via H2.out.1 (And.left (by assumption)) (Nat.le_refl _))).mono ?_; rintro e w3 ⟨rfl, hb3⟩)
    | (go_at_call 9; refine (HC2.out h1 h2 _ (below_via H2.out.1 (And.left (by assumption)) (Nat.le_refl _))).mono ?_; rintro e w4 ⟨rfl, hb4⟩)
    | (go_at_call 10; refine (HS1.out h1 h2 _ (below_via H2.out.1 (And.left (by assumption)) (Nat.le_refl _))).mono ?_; rintro e w5 ⟨rfl, hb5⟩)
    | (go_at_call 11; refine (HS2.out h1 h2 _ (below_via H2.out.1 (And.left (by assumption)) (Nat.le_refl _))).mono ?_; rintro e w6 ⟨rfl, hb6⟩)
    | (go_at_call 6; refine (live8_any (HT.out.below (below_via H2.out.1 (And.left (by assumption)) (Nat.le_refl _)))).mono ?_; rintro e w7 ⟨rfl, hb7⟩))
  have H7 : Hid (Below w.heap.size w w7) := below_via H2.out.1 (And.left (by assumption)) (Nat.le_refl _)
  go_wp2
  go_ret
  exact ⟨rfl, H7.out⟩
end Go.Proofs.YtkjjfjekpdjboaaDoor
/-
  Rsa: what the tied list of tables gives; a world for the witness; how an argument reads.
-/
namespace Go.Proofs.YtkjjfjekpdjboaaDoor
open Go.ChangeShapes Go.WideShapes Go.ChangeAt Go.RowKit
/-! ### how an argument reads -/
def IsRow (k : IntKind) (w : World) (a : Option Addr) (len cap : Nat) (zs : List Int) : Prop :=
  (a = none ∧ len = 0 ∧ cap = 0 ∧ zs = []) ∨
  ∃ x, a = some x ∧ len ≤ cap ∧ cap ≤ maxLen ∧ zs.length = cap ∧ (∀ i, i < zs.length → w.cell? (x.add i) = some (.int k (zs.getD i 0))) ∧ ∀ n ∈ zs, (Lit.int k n).wf = true
theorem cell_spot {w : World} {x : Addr} {v : Value} (h : w.cell? x = some v) : x.spot = none ∧ x.block < w.heap.size := by
  unfold World.cell? at h
  split at h
  · rename_i c t f hh
    refine ⟨?_, (Array.getElem?_eq_some_iff.1 hh).1⟩
    by_cases hs : x.spot.isSome
    · simp [hs] at h
    · simpa using hs
  · cases h
theorem IsRow.sl {k : IntKind} {w : World} {a : Option Addr} {len cap : Nat} {zs : List Int} (h : IsRow k w a len cap zs) :
    ∃ X, X.length = len ∧ Sl k w (.slice a len cap) X ∧ ∀ n ∈ X, (Lit.int k n).wf = true := by
  rcases h with ⟨rfl, rfl, rfl, rfl⟩ | ⟨x, rfl, hl, hm, hz, hc, hw⟩
  · exact ⟨[], rfl, ⟨none, 0, rfl, Nat.le_refl _, .inl rfl⟩, by simp⟩
  · refine ⟨zs.take len, by simp; omega, ⟨some x, cap, by simp; omega, by simp; omega, ?_⟩, fun n hn => hw n (List.mem_of_mem_take hn)⟩
    by_cases h0 : len = 0
    · subst h0; exact .inl (by simp)
    · right
      obtain ⟨b, off, sp⟩ := x
      have h1 := cell_spot (hc 0 (by omega))
      have hsp : sp = none := by
        have := h1.1
        cases sp with
        | none => rfl
        | some s => simp [Addr.add] at this
      subst hsp
      have hb : b < w.heap.size := by have := h1.2; simpa [Addr.add] using this
      refine ⟨b, off, rfl, hb, fun i hi => ?_⟩
      simp at hi
      have := hc i (by omega)
      have hadd : (⟨b, off, none⟩ : Addr).add i = ⟨b, off + i, none⟩ := by simp [Addr.add]
      rw [hadd] at this
      rw [this]
      simp [show i < len by omega]
theorem IsRow.sl8 {w : World} {a : Option Addr} {len cap : Nat} {zs : List Int} (h : IsRow .u8 w a len cap zs) : ∃ X, X.length = len ∧ Sl .u8 w (.slice a len cap) X ∧ U8s X := by
  obtain ⟨X, h1, h2, h3⟩ := h.sl
  exact ⟨X, h1, h2, fun n hn => by have := bounds_u8 (h3 n hn); exact ⟨this.1, by omega⟩⟩
theorem Tryd.g_first1 : Tryd.prog.globalNamed "chirograph/sha.first1" = some 0 := by kernel_rfl
theorem Tryd.gt_first1 : (Tryd.prog.globals[0]?).map (·.type) = some 60 := by kernel_rfl
theorem Tryd.gc_first1 : Tryd.prog.cellsOf 60 = 8 := by kernel_rfl
theorem Tryd.lf_first1 : Rows.rsaChecksRow.laid.filter (fun x => x.1 == "chirograph/sha.first1") = [("chirograph/sha.first1", Lib.tabData .u32 Sh.first1L)] := by kernel_rfl
theorem Tryd.g_first256 : Tryd.prog.globalNamed "chirograph/sha.first256" = some 1 := by kernel_rfl
theorem Tryd.gt_first256 : (Tryd.prog.globals[1]?).map (·.type) = some 60 := by kernel_rfl
theorem Tryd.gc_first256 : Tryd.prog.cellsOf 60 = 8 := by kernel_rfl
theorem Tryd.lf_first256 : Rows.rsaChecksRow.laid.filter (fun x => x.1 == "chirograph/sha.first256") = [("chirograph/sha.first256", Lib.tabData .u32 Sh.first256L)] := by kernel_rfl
theorem Tryd.g_first384 : Tryd.prog.globalNamed "chirograph/sha.first384" = some 2 := by kernel_rfl
theorem Tryd.gt_first384 : (Tryd.prog.globals[2]?).map (·.type) = some 61 := by kernel_rfl
theorem Tryd.gc_first384 : Tryd.prog.cellsOf 61 = 8 := by kernel_rfl
theorem Tryd.lf_first384 : Rows.rsaChecksRow.laid.filter (fun x => x.1 == "chirograph/sha.first384") = [("chirograph/sha.first384", Lib.tabData .u64 Sh.first384L)] := by kernel_rfl
theorem Tryd.g_first512 : Tryd.prog.globalNamed "chirograph/sha.first512" = some 3 := by kernel_rfl
theorem Tryd.gt_first512 : (Tryd.prog.globals[3]?).map (·.type) = some 61 := by kernel_rfl
theorem Tryd.gc_first512 : Tryd.prog.cellsOf 61 = 8 := by kernel_rfl
theorem Tryd.lf_first512 : Rows.rsaChecksRow.laid.filter (fun x => x.1 == "chirograph/sha.first512") = [("chirograph/sha.first512", Lib.tabData .u64 Sh.first512L)] := by kernel_rfl
theorem Tryd.g_adds1 : Tryd.prog.globalNamed "chirograph/sha.adds1" = some 5 := by kernel_rfl
theorem Tryd.gt_adds1 : (Tryd.prog.globals[5]?).map (·.type) = some 109 := by kernel_rfl
theorem Tryd.gc_adds1 : Tryd.prog.cellsOf 109 = 4 := by kernel_rfl
theorem Tryd.lf_adds1 : Rows.rsaChecksRow.laid.filter (fun x => x.1 == "chirograph/sha.adds1") = [("chirograph/sha.adds1", Lib.tabData .u32 Sh.adds1L)] := by kernel_rfl
theorem Tryd.g_adds256 : Tryd.prog.globalNamed "chirograph/sha.adds256" = some 6 := by kernel_rfl
theorem Tryd.gt_adds256 : (Tryd.prog.globals[6]?).map (·.type) = some 83 := by kernel_rfl
theorem Tryd.gc_adds256 : Tryd.prog.cellsOf 83 = 64 := by kernel_rfl
theorem Tryd.lf_adds256 : Rows.rsaChecksRow.laid.filter (fun x => x.1 == "chirograph/sha.adds256") = [("chirograph/sha.adds256", Lib.tabData .u32 Sh.adds256L)] := by kernel_rfl
theorem Tryd.g_adds512 : Tryd.prog.globalNamed "chirograph/sha.adds512" = some 7 := by kernel_rfl
theorem Tryd.gt_adds512 : (Tryd.prog.globals[7]?).map (·.type) = some 85 := by kernel_rfl
theorem Tryd.gc_adds512 : Tryd.prog.cellsOf 85 = 80 := by kernel_rfl
theorem Tryd.lf_adds512 : Rows.rsaChecksRow.laid.filter (fun x => x.1 == "chirograph/sha.adds512") = [("chirograph/sha.adds512", Lib.tabData .u64 Sh.adds512L)] := by kernel_rfl
theorem Tryd.c32 : Tryd.prog.cellsOf 41 = 1 := by kernel_rfl
theorem Tryd.c64 : Tryd.prog.cellsOf 57 = 1 := by kernel_rfl
theorem Tryd.u32 : Tryd.prog.underlying 41 = some (.int .u32) := by kernel_rfl
theorem Tryd.u64 : Tryd.prog.underlying 57 = some (.int .u64) := by kernel_rfl
theorem rd_tab {W : World} {name : String} {k : IntKind} {zs : List Int} {g : Nat} (h : Lib.TabIs Tryd.prog W name k zs) (hg : Tryd.prog.globalNamed name = some g) : Rd k W g 0 zs := fun i hi => by
  rw [Nat.zero_add]; exact h.cell hg i hi
theorem laid_one {W : World} {n : String} {d : DataW Unit} (hd : d.handleName?.isNone = true) (h : laidMetH Tryd.prog [(n, d)] W) : laidMet Tryd.prog [(n, d)] W := by
  have e : ([(n, d)] : List (String × DataW Unit)).filter (fun x => x.2.handleName?.isSome) = [] := by
    have h0 : d.handleName?.isSome = false := by cases hx : d.handleName? <;> simp_all
    simp [h0]
  unfold laidMetH at h
  rw [e] at h
  exact h
theorem tabs_of_laid {W : World} (h : laidMetH Tryd.prog Rows.rsaChecksRow.laid W) : Sh.Tabs W := by
  have h_f1 : Rd .u32 W 0 0 Sh.first1L := by
    have h1 := laidMetH.filter (fun x => x.1 == "chirograph/sha.first1") h
    rw [Tryd.lf_first1] at h1
    exact rd_tab (Lib.tabIs_of_head (rest := []) Tryd.g_first1 Tryd.gt_first1 Tryd.underlying60 Tryd.u32 Tryd.c32 Tryd.gc_first1 (laid_one rfl h1)) Tryd.g_first1
  have h_f256 : Rd .u32 W 1 0 Sh.first256L := by
    have h1 := laidMetH.filter (fun x => x.1 == "chirograph/sha.first256") h
    rw [Tryd.lf_first256] at h1
    exact rd_tab (Lib.tabIs_of_head (rest := []) Tryd.g_first256 Tryd.gt_first256 Tryd.underlying60 Tryd.u32 Tryd.c32 Tryd.gc_first256 (laid_one rfl h1)) Tryd.g_first256
  have h_f384 : Rd .u64 W 2 0 Sh.first384L := by
    have h1 := laidMetH.filter (fun x => x.1 == "chirograph/sha.first384") h
    rw [Tryd.lf_first384] at h1
    exact rd_tab (Lib.tabIs_of_head (rest := []) Tryd.g_first384 Tryd.gt_first384 Tryd.underlying61 Tryd.u64 Tryd.c64 Tryd.gc_first384 (laid_one rfl h1)) Tryd.g_first384
  have h_f512 : Rd .u64 W 3 0 Sh.first512L := by
    have h1 := laidMetH.filter (fun x => x.1 == "chirograph/sha.first512") h
    rw [Tryd.lf_first512] at h1
    exact rd_tab (Lib.tabIs_of_head (rest := []) Tryd.g_first512 Tryd.gt_first512 Tryd.underlying61 Tryd.u64 Tryd.c64 Tryd.gc_first512 (laid_one rfl h1)) Tryd.g_first512
  have h_a1 : Rd .u32 W 5 0 Sh.adds1L := by
    have h1 := laidMetH.filter (fun x => x.1 == "chirograph/sha.adds1") h
    rw [Tryd.lf_adds1] at h1
    exact rd_tab (Lib.tabIs_of_head (rest := []) Tryd.g_adds1 Tryd.gt_adds1 Tryd.underlying109 Tryd.u32 Tryd.c32 Tryd.gc_adds1 (laid_one rfl h1)) Tryd.g_adds1
  have h_a256 : Rd .u32 W 6 0 Sh.adds256L := by
    have h1 := laidMetH.filter (fun x => x.1 == "chirograph/sha.adds256") h
    rw [Tryd.lf_adds256] at h1
    exact rd_tab (Lib.tabIs_of_head (rest := []) Tryd.g_adds256 Tryd.gt_adds256 Tryd.underlying83 Tryd.u32 Tryd.c32 Tryd.gc_adds256 (laid_one rfl h1)) Tryd.g_adds256
  have h_a512 : Rd .u64 W 7 0 Sh.adds512L := by
    have h1 := laidMetH.filter (fun x => x.1 == "chirograph/sha.adds512") h
    rw [Tryd.lf_adds512] at h1
    exact rd_tab (Lib.tabIs_of_head (rest := []) Tryd.g_adds512 Tryd.gt_adds512 Tryd.underlying85 Tryd.u64 Tryd.c64 Tryd.gc_adds512 (laid_one rfl h1)) Tryd.g_adds512
  refine ⟨?_, h_f1, h_f256, h_f384, h_f512, h_a1, h_a256, h_a512⟩
  have := (cell_spot (h_a512 0 (by decide))).2
  simp at this
  omega
/-- A world for the witness: the settled one, the tables holding what their initialisers lay. -/
noncomputable def laidWorld (os : Os) : World :=
  { World.holding Tryd.prog os ⟨#[], #[], []⟩ with heap := ((((((((World.holding Tryd.prog os ⟨#[], #[], []⟩).heap.modify 0 fun | .cells _ t frozen => .cells (Sh.first1L.map (Value.int .u32)).toArray t frozen | o => o).modify 1 fun | .cells _ t frozen => .cells (Sh.first256L.map (Value.int .u32)).toArray t frozen | o => o).modify 2 fun | .cells _ t frozen => .cells (Sh.first384L.map (Value.int .u64)).toArray t frozen | o => o).modify 3 fun | .cells _ t frozen => .cells (Sh.first512L.map (Value.int .u64)).toArray t frozen | o => o).modify 5 fun | .cells _ t frozen => .cells (Sh.adds1L.map (Value.int .u32)).toArray t frozen | o => o).modify 6 fun | .cells _ t frozen => .cells (Sh.adds256L.map (Value.int .u32)).toArray t frozen | o => o).modify 7 fun | .cells _ t frozen => .cells (Sh.adds512L.map (Value.int .u64)).toArray t frozen | o => o) }
end Go.Proofs.YtkjjfjekpdjboaaDoor
