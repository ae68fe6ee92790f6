/-
  Rsa: what the tied list of tables gives; a world for the witness; how an argument reads.
-/
import Derived.Test.YtjmiaakfdclfjaaGreatDoorRows
import Derived.Lib.LaidTab
import Derived.LaidSub
import Derived.MakeChecks
import Derived.OpenShut
import Derived.ProofKit
import Derived.Test.YtjmiaakfdclfjaaGreatDoorK36
namespace Go.Proofs.YtjmiaakfdclfjaaGreatDoor
open Go.ChangeShapes Go.WideShapes Go.ChangeAt Go.RowKit
/-! ### how an argument reads -/
def IsRow (k : IntKind) (w : World) (a : Option Addr) (len cap : Nat) (zs : List Int) : Prop :=
  (a = none ∧ len = 0 ∧ cap = 0 ∧ zs = []) ∨
  ∃ x, a = some x ∧ len ≤ cap ∧ cap ≤ maxLen ∧ zs.length = cap ∧ (∀ i, i < zs.length → w.cell? (x.add i) = some (.int k (zs.getD i 0))) ∧ ∀ n ∈ zs, (Lit.int k n).wf = true
theorem cell_spot {w : World} {x : Addr} {v : Value} (h : w.cell? x = some v) : x.spot = none ∧ x.block < w.heap.size := by
  unfold World.cell? at h
  split at h
  · rename_i c t f hh
    refine ⟨?_, (Array.getElem?_eq_some_iff.1 hh).1⟩
    by_cases hs : x.spot.isSome
    · simp [hs] at h
    · simpa using hs
  · cases h
theorem IsRow.sl {k : IntKind} {w : World} {a : Option Addr} {len cap : Nat} {zs : List Int} (h : IsRow k w a len cap zs) :
    ∃ X, X.length = len ∧ Sl k w (.slice a len cap) X ∧ ∀ n ∈ X, (Lit.int k n).wf = true := by
  rcases h with ⟨rfl, rfl, rfl, rfl⟩ | ⟨x, rfl, hl, hm, hz, hc, hw⟩
  · exact ⟨[], rfl, ⟨none, 0, rfl, Nat.le_refl _, .inl rfl⟩, by simp⟩
  · refine ⟨zs.take len, by simp; omega, ⟨some x, cap, by simp; omega, by simp; omega, ?_⟩, fun n hn => hw n (List.mem_of_mem_take hn)⟩
    by_cases h0 : len = 0
    · subst h0; exact .inl (by simp)
    · right
      obtain ⟨b, off, sp⟩ := x
      have h1 := cell_spot (hc 0 (by omega))
      have hsp : sp = none := by
        have := h1.1
        cases sp with
        | none => rfl
        | some s => simp [Addr.add] at this
      subst hsp
      have hb : b < w.heap.size := by have := h1.2; simpa [Addr.add] using this
      refine ⟨b, off, rfl, hb, fun i hi => ?_⟩
      simp at hi
      have := hc i (by omega)
      have hadd : (⟨b, off, none⟩ : Addr).add i = ⟨b, off + i, none⟩ := by simp [Addr.add]
      rw [hadd] at this
      rw [this]
      simp [show i < len by omega]
theorem IsRow.sl8 {w : World} {a : Option Addr} {len cap : Nat} {zs : List Int} (h : IsRow .u8 w a len cap zs) : ∃ X, X.length = len ∧ Sl .u8 w (.slice a len cap) X ∧ U8s X := by
  obtain ⟨X, h1, h2, h3⟩ := h.sl
  exact ⟨X, h1, h2, fun n hn => by have := bounds_u8 (h3 n hn); exact ⟨this.1, by omega⟩⟩
theorem Tryz.g_first1 : Tryz.prog.globalNamed "chirograph/sha.first1" = some 0 := by kernel_rfl
theorem Tryz.gt_first1 : (Tryz.prog.globals[0]?).map (·.type) = some 69 := by kernel_rfl
theorem Tryz.gc_first1 : Tryz.prog.cellsOf 69 = 8 := by kernel_rfl
theorem Tryz.lf_first1 : Rows.rsaSaltedRow.laid.filter (fun x => x.1 == "chirograph/sha.first1") = [("chirograph/sha.first1", Lib.tabData .u32 Sh.first1L)] := by kernel_rfl
theorem Tryz.g_first256 : Tryz.prog.globalNamed "chirograph/sha.first256" = some 1 := by kernel_rfl
theorem Tryz.gt_first256 : (Tryz.prog.globals[1]?).map (·.type) = some 69 := by kernel_rfl
theorem Tryz.gc_first256 : Tryz.prog.cellsOf 69 = 8 := by kernel_rfl
theorem Tryz.lf_first256 : Rows.rsaSaltedRow.laid.filter (fun x => x.1 == "chirograph/sha.first256") = [("chirograph/sha.first256", Lib.tabData .u32 Sh.first256L)] := by kernel_rfl
theorem Tryz.g_first384 : Tryz.prog.globalNamed "chirograph/sha.first384" = some 2 := by kernel_rfl
theorem Tryz.gt_first384 : (Tryz.prog.globals[2]?).map (·.type) = some 44 := by kernel_rfl
theorem Tryz.gc_first384 : Tryz.prog.cellsOf 44 = 8 := by kernel_rfl
theorem Tryz.lf_first384 : Rows.rsaSaltedRow.laid.filter (fun x => x.1 == "chirograph/sha.first384") = [("chirograph/sha.first384", Lib.tabData .u64 Sh.first384L)] := by kernel_rfl
theorem Tryz.g_first512 : Tryz.prog.globalNamed "chirograph/sha.first512" = some 3 := by kernel_rfl
theorem Tryz.gt_first512 : (Tryz.prog.globals[3]?).map (·.type) = some 44 := by kernel_rfl
theorem Tryz.gc_first512 : Tryz.prog.cellsOf 44 = 8 := by kernel_rfl
theorem Tryz.lf_first512 : Rows.rsaSaltedRow.laid.filter (fun x => x.1 == "chirograph/sha.first512") = [("chirograph/sha.first512", Lib.tabData .u64 Sh.first512L)] := by kernel_rfl
theorem Tryz.g_adds1 : Tryz.prog.globalNamed "chirograph/sha.adds1" = some 5 := by kernel_rfl
theorem Tryz.gt_adds1 : (Tryz.prog.globals[5]?).map (·.type) = some 145 := by kernel_rfl
theorem Tryz.gc_adds1 : Tryz.prog.cellsOf 145 = 4 := by kernel_rfl
theorem Tryz.lf_adds1 : Rows.rsaSaltedRow.laid.filter (fun x => x.1 == "chirograph/sha.adds1") = [("chirograph/sha.adds1", Lib.tabData .u32 Sh.adds1L)] := by kernel_rfl
theorem Tryz.g_adds256 : Tryz.prog.globalNamed "chirograph/sha.adds256" = some 6 := by kernel_rfl
theorem Tryz.gt_adds256 : (Tryz.prog.globals[6]?).map (·.type) = some 67 := by kernel_rfl
theorem Tryz.gc_adds256 : Tryz.prog.cellsOf 67 = 64 := by kernel_rfl
theorem Tryz.lf_adds256 : Rows.rsaSaltedRow.laid.filter (fun x => x.1 == "chirograph/sha.adds256") = [("chirograph/sha.adds256", Lib.tabData .u32 Sh.adds256L)] := by kernel_rfl
theorem Tryz.g_adds512 : Tryz.prog.globalNamed "chirograph/sha.adds512" = some 7 := by kernel_rfl
theorem Tryz.gt_adds512 : (Tryz.prog.globals[7]?).map (·.type) = some 70 := by kernel_rfl
theorem Tryz.gc_adds512 : Tryz.prog.cellsOf 70 = 80 := by kernel_rfl
theorem Tryz.lf_adds512 : Rows.rsaSaltedRow.laid.filter (fun x => x.1 == "chirograph/sha.adds512") = [("chirograph/sha.adds512", Lib.tabData .u64 Sh.adds512L)] := by kernel_rfl
theorem Tryz.c32 : Tryz.prog.cellsOf 38 = 1 := by kernel_rfl
theorem Tryz.c64 : Tryz.prog.cellsOf 43 = 1 := by kernel_rfl
theorem Tryz.u32 : Tryz.prog.underlying 38 = some (.int .u32) := by kernel_rfl
theorem Tryz.u64 : Tryz.prog.underlying 43 = some (.int .u64) := by kernel_rfl
theorem rd_tab {W : World} {name : String} {k : IntKind} {zs : List Int} {g : Nat} (h : Lib.TabIs Tryz.prog W name k zs) (hg : Tryz.prog.globalNamed name = some g) : Rd k W g 0 zs := fun i hi => by
  rw [Nat.zero_add]; exact h.cell hg i hi
theorem laid_one {W : World} {n : String} {d : DataW Unit} (hd : d.handleName?.isNone = true) (h : laidMetH Tryz.prog [(n, d)] W) : laidMet Tryz.prog [(n, d)] W := by
  have e : ([(n, d)] : List (String × DataW Unit)).filter (fun x => x.2.handleName?.isSome) = [] := by
    have h0 : d.handleName?.isSome = false := by cases hx : d.handleName? <;> simp_all
    simp [h0]
  unfold laidMetH at h
  rw [e] at h
  exact h
theorem tabs_of_laid {W : World} (h : laidMetH Tryz.prog Rows.rsaSaltedRow.laid W) : Sh.Tabs W := by
  have h_f1 : Rd .u32 W 0 0 Sh.first1L := by
    have h1 := laidMetH.filter (fun x => x.1 == "chirograph/sha.first1") h
    rw [Tryz.lf_first1] at h1
    exact rd_tab (Lib.tabIs_of_head (rest := []) Tryz.g_first1 Tryz.gt_first1 Tryz.underlying69 Tryz.u32 Tryz.c32 Tryz.gc_first1 (laid_one rfl h1)) Tryz.g_first1
  have h_f256 : Rd .u32 W 1 0 Sh.first256L := by
    have h1 := laidMetH.filter (fun x => x.1 == "chirograph/sha.first256") h
    rw [Tryz.lf_first256] at h1
    exact rd_tab (Lib.tabIs_of_head (rest := []) Tryz.g_first256 Tryz.gt_first256 Tryz.underlying69 Tryz.u32 Tryz.c32 Tryz.gc_first256 (laid_one rfl h1)) Tryz.g_first256
  have h_f384 : Rd .u64 W 2 0 Sh.first384L := by
    have h1 := laidMetH.filter (fun x => x.1 == "chirograph/sha.first384") h
    rw [Tryz.lf_first384] at h1
    exact rd_tab (Lib.tabIs_of_head (rest := []) Tryz.g_first384 Tryz.gt_first384 Tryz.underlying44 Tryz.u64 Tryz.c64 Tryz.gc_first384 (laid_one rfl h1)) Tryz.g_first384
  have h_f512 : Rd .u64 W 3 0 Sh.first512L := by
    have h1 := laidMetH.filter (fun x => x.1 == "chirograph/sha.first512") h
    rw [Tryz.lf_first512] at h1
    exact rd_tab (Lib.tabIs_of_head (rest := []) Tryz.g_first512 Tryz.gt_first512 Tryz.underlying44 Tryz.u64 Tryz.c64 Tryz.gc_first512 (laid_one rfl h1)) Tryz.g_first512
  have h_a1 : Rd .u32 W 5 0 Sh.adds1L := by
    have h1 := laidMetH.filter (fun x => x.1 == "chirograph/sha.adds1") h
    rw [Tryz.lf_adds1] at h1
    exact rd_tab (Lib.tabIs_of_head (rest := []) Tryz.g_adds1 Tryz.gt_adds1 Tryz.underlying145 Tryz.u32 Tryz.c32 Tryz.gc_adds1 (laid_one rfl h1)) Tryz.g_adds1
  have h_a256 : Rd .u32 W 6 0 Sh.adds256L := by
    have h1 := laidMetH.filter (fun x => x.1 == "chirograph/sha.adds256") h
    rw [Tryz.lf_adds256] at h1
    exact rd_tab (Lib.tabIs_of_head (rest := []) Tryz.g_adds256 Tryz.gt_adds256 Tryz.underlying67 Tryz.u32 Tryz.c32 Tryz.gc_adds256 (laid_one rfl h1)) Tryz.g_adds256
  have h_a512 : Rd .u64 W 7 0 Sh.adds512L := by
    have h1 := laidMetH.filter (fun x => x.1 == "chirograph/sha.adds512") h
    rw [Tryz.lf_adds512] at h1
    exact rd_tab (Lib.tabIs_of_head (rest := []) Tryz.g_adds512 Tryz.gt_adds512 Tryz.underlying70 Tryz.u64 Tryz.c64 Tryz.gc_adds512 (laid_one rfl h1)) Tryz.g_adds512
  refine ⟨?_, h_f1, h_f256, h_f384, h_f512, h_a1, h_a256, h_a512⟩
  have := (cell_spot (h_a512 0 (by decide))).2
  simp at this
  omega
/-- A world for the witness: the settled one, the tables holding what their initialisers lay. -/
def laidWorld (W : World) : World :=
  { W with heap := (((((((W.heap.modify 0 fun | .cells _ t frozen => .cells (Sh.first1L.map (Value.int .u32)).toArray t frozen | o => o).modify 1 fun | .cells _ t frozen => .cells (Sh.first256L.map (Value.int .u32)).toArray t frozen | o => o).modify 2 fun | .cells _ t frozen => .cells (Sh.first384L.map (Value.int .u64)).toArray t frozen | o => o).modify 3 fun | .cells _ t frozen => .cells (Sh.first512L.map (Value.int .u64)).toArray t frozen | o => o).modify 5 fun | .cells _ t frozen => .cells (Sh.adds1L.map (Value.int .u32)).toArray t frozen | o => o).modify 6 fun | .cells _ t frozen => .cells (Sh.adds256L.map (Value.int .u32)).toArray t frozen | o => o).modify 7 fun | .cells _ t frozen => .cells (Sh.adds512L.map (Value.int .u64)).toArray t frozen | o => o) }
end Go.Proofs.YtjmiaakfdclfjaaGreatDoor
/-
  Rsa: the reference's SignPss where it tells nothing. (wip/mky67.py)
-/
namespace Go.Proofs.YtjmiaakfdclfjaaGreatDoor
open Go.RowKit
set_option maxRecDepth 20000
theorem siz_none {alg : Int} (h : Sh.siz alg = 0) : ¬ alg = 1 ∧ ¬ alg = 2 ∧ ¬ alg = 3 ∧ ¬ alg = 4 := by
  refine ⟨?_, ?_, ?_, ?_⟩ <;> (rintro rfl; revert h; decide)
theorem RDigest_no {w : World} (alg : Int) (h : Sh.siz alg = 0) (v : Value) : Calls Tryz.prog 6 #[.int .i64 alg, v] w fun e w' => e = .returned (.slice none 0 0) ∧ w = w' := by
  obtain ⟨h1, h2, h3, h4⟩ := siz_none h
  go_enter Tryz.func6, Tryz.ntmps6
  go_wp2
  go_ret
  exact ⟨rfl, rfl⟩
set_option maxHeartbeats 8000000 in
theorem SignPss_no {w : World} {nn e d : Nat} (sz : Nat) (hsz : sz = 64 ∨ sz = 96 ∨ sz = 128) (j : Nat) (hj : j < 3) (alg mask : Int) (ta : Option Addr) (tn tc : Nat) (f : Option Addr) (k g : Nat) (K : KeyG (kN j) (kE j) (kD j) nn e d sz) (h8 : bts (kN j) = 8 * sz) (htn : tn ≤ 200) (hk : k = Sh.siz alg) (hno : Sh.siz mask = 0 ∨ Sh.siz alg = 0 ∨ sz < Sh.siz alg + tn + 2) :
    Calls Tryz.prog 7 #[.int .i64 (j : Nat), .int .i64 alg, .int .i64 mask, .slice ta tn tc, .slice f k g] w fun e w' => e = .returned (.slice none 0 0) ∧ Below w.heap.size w w' := by
  have s1 := K.s1
  have lens := K.len
  have HK : Hid (∀ W, Calls Tryz.prog 5 #[.int .i64 (j : Nat)] W fun e w' => KnAns j W e w') := fun W => Known_any j hj
  have HB : Hid (∀ (W : World) (a : Option Addr) (c : Nat), Sl .u32 W (.slice a (kN j).length c) (kN j) → Calls Tryz.prog 18 #[.slice a (kN j).length c] W fun e w' => e = .returned (.int .i64 (8 * sz : Nat)) ∧ Below W.heap.size W w') := fun W a c h => (RBits_any _ (kN j) h K.un (by omega) _ rfl).mono fun e w' h' => by
    have e : bitLen (val (kN j)).toNat = 8 * sz := h8
    rw [e] at h'
    exact h'
  have HZa : Hid (∀ W : World, Calls Tryz.prog 19 #[.int .i64 alg] W fun e w' => e = .returned (.int .i64 (Sh.siz alg : Nat)) ∧ W = w') := fun W => RSize8 alg
  have HZm : Hid (∀ W : World, Calls Tryz.prog 19 #[.int .i64 mask] W fun e w' => e = .returned (.int .i64 (Sh.siz mask : Nat)) ∧ W = w') := fun W => RSize8 mask
  have zl := Sh.siz_le alg
  obtain ⟨h, hh⟩ : ∃ h, Sh.siz alg = h := ⟨_, rfl⟩
  obtain ⟨hm, hhm⟩ : ∃ h, Sh.siz mask = h := ⟨_, rfl⟩
  rw [hh] at HZa hk hno zl
  rw [hhm] at HZm hno
  subst hk
  have x1 : ((k : Int) != (k : Int)) = false := by simp
  obtain ⟨l1, e1⟩ : ∃ l, (kN j).length = l := ⟨_, rfl⟩
  obtain ⟨l2, e2⟩ : ∃ l, (kE j).length = l := ⟨_, rfl⟩
  obtain ⟨l3, e3⟩ : ∃ l, (kD j).length = l := ⟨_, rfl⟩
  unfold KnAns at HK
  rw [e1, e2, e3] at HK
  rw [e1] at HB
  clear hh hhm lens e1 e2 e3 K h8 s1
  have w1 : IntKind.i64.wrap ((k : Int) + (tn : Int)) = (k : Int) + tn := by rw [IntKind.wrap_i64]; omega
  have w2 : IntKind.i64.wrap ((k : Int) + tn + 2) = (k : Int) + tn + 2 := by rw [IntKind.wrap_i64]; omega
  obtain hc : hm = 0 ∨ (hm ≠ 0 ∧ k = 0) ∨ (hm ≠ 0 ∧ k ≠ 0 ∧ sz < k + tn + 2) := by omega
  rcases hc with hm0 | ⟨hm0, hk0⟩ | ⟨hm0, hk0, hlt⟩
  · have y1 : ((hm : Int) == 0) = true := by simp; omega
    have y2 : (hm == 0) = true := by simp; omega
    have y3 : decide (hm = 0) = true := by simp; omega
    clear hm0
    rcases hsz with rfl | rfl | rfl
    · clear hno
      go_enter Tryz.func7, Tryz.ntmps7
      go_wp2_with fail
      refine (HK.out _).mono ?_
      rintro e W1 ⟨ka, kc, ea, ec, da, dc, rfl, q1, q2, q3, hb⟩
      have M1 : Hid (Sl .u32 W1 (.slice ka l1 kc) (kN j) ∧ Below w.heap.size w W1) := ⟨q1, hb⟩
      clear q1 q2 q3 hb HK
      go_upto_region 2 with (fail)
      refine wp_gen (fun W => Below W1.heap.size W1 W ∧ Blk 26 W W1.heap.size [.slice ka l1 kc, .slice ea l2 ec]) ⟨al1 _, Blk.new _ _ _⟩ ?_
      rintro W2 ⟨hb, hB⟩
      obtain ⟨fb, hf⟩ : ∃ x, W1.heap.size = x := ⟨_, rfl⟩
      have M2 : Hid (Sl .u32 W2 (.slice ka l1 kc) (kN j) ∧ Below w.heap.size w W2 ∧ Blk 26 W2 fb [.slice ka l1 kc, .slice ea l2 ec]) := ⟨below_sl hb M1.out.1, below_via M1.out.2 hb (Nat.le_refl _), hf ▸ hB⟩
      rw [hf]
      clear hb hB hf M1
      have p0 : W2.cell? ⟨fb, 0, none⟩ = some (.slice ka l1 kc) := M2.out.2.2.cell 0
      go_wp2_with fail
      refine (HB.out _ _ _ M2.out.1).mono ?_
      rintro e W3 ⟨rfl, hb⟩
      have M3 : Hid (Below w.heap.size w W3) := below_via M2.out.2.1 hb (Nat.le_refl _)
      clear hb p0 M2 HB
      go_upto_region 5 with (go_at_call 19; refine (HZa.out _).mono ?_; rintro e w8 ⟨rfl, rfl⟩)
      go_wp2_with (go_at_call 19; refine (HZm.out _).mono ?_; rintro e w9 ⟨rfl, rfl⟩)
      go_ret
      exact ⟨rfl, M3.out⟩
    · clear hno
      go_enter Tryz.func7, Tryz.ntmps7
      go_wp2_with fail
      refine (HK.out _).mono ?_
      rintro e W1 ⟨ka, kc, ea, ec, da, dc, rfl, q1, q2, q3, hb⟩
      have M1 : Hid (Sl .u32 W1 (.slice ka l1 kc) (kN j) ∧ Below w.heap.size w W1) := ⟨q1, hb⟩
      clear q1 q2 q3 hb HK
      go_upto_region 2 with (fail)
      refine wp_gen (fun W => Below W1.heap.size W1 W ∧ Blk 26 W W1.heap.size [.slice ka l1 kc, .slice ea l2 ec]) ⟨al1 _, Blk.new _ _ _⟩ ?_
      rintro W2 ⟨hb, hB⟩
      obtain ⟨fb, hf⟩ : ∃ x, W1.heap.size = x := ⟨_, rfl⟩
      have M2 : Hid (Sl .u32 W2 (.slice ka l1 kc) (kN j) ∧ Below w.heap.size w W2 ∧ Blk 26 W2 fb [.slice ka l1 kc, .slice ea l2 ec]) := ⟨below_sl hb M1.out.1, below_via M1.out.2 hb (Nat.le_refl _), hf ▸ hB⟩
      rw [hf]
      clear hb hB hf M1
      have p0 : W2.cell? ⟨fb, 0, none⟩ = some (.slice ka l1 kc) := M2.out.2.2.cell 0
      go_wp2_with fail
      refine (HB.out _ _ _ M2.out.1).mono ?_
      rintro e W3 ⟨rfl, hb⟩
      have M3 : Hid (Below w.heap.size w W3) := below_via M2.out.2.1 hb (Nat.le_refl _)
      clear hb p0 M2 HB
      go_upto_region 5 with (go_at_call 19; refine (HZa.out _).mono ?_; rintro e w8 ⟨rfl, rfl⟩)
      go_wp2_with (go_at_call 19; refine (HZm.out _).mono ?_; rintro e w9 ⟨rfl, rfl⟩)
      go_ret
      exact ⟨rfl, M3.out⟩
    · clear hno
      go_enter Tryz.func7, Tryz.ntmps7
      go_wp2_with fail
      refine (HK.out _).mono ?_
      rintro e W1 ⟨ka, kc, ea, ec, da, dc, rfl, q1, q2, q3, hb⟩
      have M1 : Hid (Sl .u32 W1 (.slice ka l1 kc) (kN j) ∧ Below w.heap.size w W1) := ⟨q1, hb⟩
      clear q1 q2 q3 hb HK
      go_upto_region 2 with (fail)
      refine wp_gen (fun W => Below W1.heap.size W1 W ∧ Blk 26 W W1.heap.size [.slice ka l1 kc, .slice ea l2 ec]) ⟨al1 _, Blk.new _ _ _⟩ ?_
      rintro W2 ⟨hb, hB⟩
      obtain ⟨fb, hf⟩ : ∃ x, W1.heap.size = x := ⟨_, rfl⟩
      have M2 : Hid (Sl .u32 W2 (.slice ka l1 kc) (kN j) ∧ Below w.heap.size w W2 ∧ Blk 26 W2 fb [.slice ka l1 kc, .slice ea l2 ec]) := ⟨below_sl hb M1.out.1, below_via M1.out.2 hb (Nat.le_refl _), hf ▸ hB⟩
      rw [hf]
      clear hb hB hf M1
      have p0 : W2.cell? ⟨fb, 0, none⟩ = some (.slice ka l1 kc) := M2.out.2.2.cell 0
      go_wp2_with fail
      refine (HB.out _ _ _ M2.out.1).mono ?_
      rintro e W3 ⟨rfl, hb⟩
      have M3 : Hid (Below w.heap.size w W3) := below_via M2.out.2.1 hb (Nat.le_refl _)
      clear hb p0 M2 HB
      go_upto_region 5 with (go_at_call 19; refine (HZa.out _).mono ?_; rintro e w8 ⟨rfl, rfl⟩)
      go_wp2_with (go_at_call 19; refine (HZm.out _).mono ?_; rintro e w9 ⟨rfl, rfl⟩)
      go_ret
      exact ⟨rfl, M3.out⟩
  · have y1 : ((hm : Int) == 0) = false := by simp; omega
    have y2 : (hm == 0) = false := by simp; omega
    have y3 : decide (hm = 0) = false := by simp; omega
    have z1 : ((k : Int) == 0) = true := by simp; omega
    have z2 : (k == 0) = true := by simp; omega
    have z3 : decide (k = 0) = true := by simp; omega
    clear hno hm0 hk0
    rcases hsz with rfl | rfl | rfl
    · skip
      go_enter Tryz.func7, Tryz.ntmps7
      go_wp2_with fail
      refine (HK.out _).mono ?_
      rintro e W1 ⟨ka, kc, ea, ec, da, dc, rfl, q1, q2, q3, hb⟩
      have M1 : Hid (Sl .u32 W1 (.slice ka l1 kc) (kN j) ∧ Below w.heap.size w W1) := ⟨q1, hb⟩
      clear q1 q2 q3 hb HK
      go_upto_region 2 with (fail)
      refine wp_gen (fun W => Below W1.heap.size W1 W ∧ Blk 26 W W1.heap.size [.slice ka l1 kc, .slice ea l2 ec]) ⟨al1 _, Blk.new _ _ _⟩ ?_
      rintro W2 ⟨hb, hB⟩
      obtain ⟨fb, hf⟩ : ∃ x, W1.heap.size = x := ⟨_, rfl⟩
      have M2 : Hid (Sl .u32 W2 (.slice ka l1 kc) (kN j) ∧ Below w.heap.size w W2 ∧ Blk 26 W2 fb [.slice ka l1 kc, .slice ea l2 ec]) := ⟨below_sl hb M1.out.1, below_via M1.out.2 hb (Nat.le_refl _), hf ▸ hB⟩
      rw [hf]
      clear hb hB hf M1
      have p0 : W2.cell? ⟨fb, 0, none⟩ = some (.slice ka l1 kc) := M2.out.2.2.cell 0
      go_wp2_with fail
      refine (HB.out _ _ _ M2.out.1).mono ?_
      rintro e W3 ⟨rfl, hb⟩
      have M3 : Hid (Below w.heap.size w W3) := below_via M2.out.2.1 hb (Nat.le_refl _)
      clear hb p0 M2 HB
      go_upto_region 5 with (go_at_call 19; refine (HZa.out _).mono ?_; rintro e w8 ⟨rfl, rfl⟩)
      go_wp2_with (go_at_call 19; refine (HZm.out _).mono ?_; rintro e w9 ⟨rfl, rfl⟩)
      go_ret
      exact ⟨rfl, M3.out⟩
    · skip
      go_enter Tryz.func7, Tryz.ntmps7
      go_wp2_with fail
      refine (HK.out _).mono ?_
      rintro e W1 ⟨ka, kc, ea, ec, da, dc, rfl, q1, q2, q3, hb⟩
      have M1 : Hid (Sl .u32 W1 (.slice ka l1 kc) (kN j) ∧ Below w.heap.size w W1) := ⟨q1, hb⟩
      clear q1 q2 q3 hb HK
      go_upto_region 2 with (fail)
      refine wp_gen (fun W => Below W1.heap.size W1 W ∧ Blk 26 W W1.heap.size [.slice ka l1 kc, .slice ea l2 ec]) ⟨al1 _, Blk.new _ _ _⟩ ?_
      rintro W2 ⟨hb, hB⟩
      obtain ⟨fb, hf⟩ : ∃ x, W1.heap.size = x := ⟨_, rfl⟩
      have M2 : Hid (Sl .u32 W2 (.slice ka l1 kc) (kN j) ∧ Below w.heap.size w W2 ∧ Blk 26 W2 fb [.slice ka l1 kc, .slice ea l2 ec]) := ⟨below_sl hb M1.out.1, below_via M1.out.2 hb (Nat.le_refl _), hf ▸ hB⟩
      rw [hf]
      clear hb hB hf M1
      have p0 : W2.cell? ⟨fb, 0, none⟩ = some (.slice ka l1 kc) := M2.out.2.2.cell 0
      go_wp2_with fail
      refine (HB.out _ _ _ M2.out.1).mono ?_
      rintro e W3 ⟨rfl, hb⟩
      have M3 : Hid (Below w.heap.size w W3) := below_via M2.out.2.1 hb (Nat.le_refl _)
      clear hb p0 M2 HB
      go_upto_region 5 with (go_at_call 19; refine (HZa.out _).mono ?_; rintro e w8 ⟨rfl, rfl⟩)
      go_wp2_with (go_at_call 19; refine (HZm.out _).mono ?_; rintro e w9 ⟨rfl, rfl⟩)
      go_ret
      exact ⟨rfl, M3.out⟩
    · skip
      go_enter Tryz.func7, Tryz.ntmps7
      go_wp2_with fail
      refine (HK.out _).mono ?_
      rintro e W1 ⟨ka, kc, ea, ec, da, dc, rfl, q1, q2, q3, hb⟩
      have M1 : Hid (Sl .u32 W1 (.slice ka l1 kc) (kN j) ∧ Below w.heap.size w W1) := ⟨q1, hb⟩
      clear q1 q2 q3 hb HK
      go_upto_region 2 with (fail)
      refine wp_gen (fun W => Below W1.heap.size W1 W ∧ Blk 26 W W1.heap.size [.slice ka l1 kc, .slice ea l2 ec]) ⟨al1 _, Blk.new _ _ _⟩ ?_
      rintro W2 ⟨hb, hB⟩
      obtain ⟨fb, hf⟩ : ∃ x, W1.heap.size = x := ⟨_, rfl⟩
      have M2 : Hid (Sl .u32 W2 (.slice ka l1 kc) (kN j) ∧ Below w.heap.size w W2 ∧ Blk 26 W2 fb [.slice ka l1 kc, .slice ea l2 ec]) := ⟨below_sl hb M1.out.1, below_via M1.out.2 hb (Nat.le_refl _), hf ▸ hB⟩
      rw [hf]
      clear hb hB hf M1
      have p0 : W2.cell? ⟨fb, 0, none⟩ = some (.slice ka l1 kc) := M2.out.2.2.cell 0
      go_wp2_with fail
      refine (HB.out _ _ _ M2.out.1).mono ?_
      rintro e W3 ⟨rfl, hb⟩
      have M3 : Hid (Below w.heap.size w W3) := below_via M2.out.2.1 hb (Nat.le_refl _)
      clear hb p0 M2 HB
      go_upto_region 5 with (go_at_call 19; refine (HZa.out _).mono ?_; rintro e w8 ⟨rfl, rfl⟩)
      go_wp2_with (go_at_call 19; refine (HZm.out _).mono ?_; rintro e w9 ⟨rfl, rfl⟩)
      go_ret
      exact ⟨rfl, M3.out⟩
  · have y1 : ((hm : Int) == 0) = false := by simp; omega
    have y2 : (hm == 0) = false := by simp; omega
    have y3 : decide (hm = 0) = false := by simp; omega
    have z1 : ((k : Int) == 0) = false := by simp; omega
    have z2 : (k == 0) = false := by simp; omega
    have z3 : decide (k = 0) = false := by simp; omega
    clear hno hm0 hk0
    rcases hsz with rfl | rfl | rfl
    · have hl2 : decide ((64 : Int) < (k : Int) + tn + 2) = true := by simp; omega
      clear hlt
      go_enter Tryz.func7, Tryz.ntmps7
      go_wp2_with fail
      refine (HK.out _).mono ?_
      rintro e W1 ⟨ka, kc, ea, ec, da, dc, rfl, q1, q2, q3, hb⟩
      have M1 : Hid (Sl .u32 W1 (.slice ka l1 kc) (kN j) ∧ Below w.heap.size w W1) := ⟨q1, hb⟩
      clear q1 q2 q3 hb HK
      go_upto_region 2 with (fail)
      refine wp_gen (fun W => Below W1.heap.size W1 W ∧ Blk 26 W W1.heap.size [.slice ka l1 kc, .slice ea l2 ec]) ⟨al1 _, Blk.new _ _ _⟩ ?_
      rintro W2 ⟨hb, hB⟩
      obtain ⟨fb, hf⟩ : ∃ x, W1.heap.size = x := ⟨_, rfl⟩
      have M2 : Hid (Sl .u32 W2 (.slice ka l1 kc) (kN j) ∧ Below w.heap.size w W2 ∧ Blk 26 W2 fb [.slice ka l1 kc, .slice ea l2 ec]) := ⟨below_sl hb M1.out.1, below_via M1.out.2 hb (Nat.le_refl _), hf ▸ hB⟩
      rw [hf]
      clear hb hB hf M1
      have p0 : W2.cell? ⟨fb, 0, none⟩ = some (.slice ka l1 kc) := M2.out.2.2.cell 0
      go_wp2_with fail
      refine (HB.out _ _ _ M2.out.1).mono ?_
      rintro e W3 ⟨rfl, hb⟩
      have M3 : Hid (Below w.heap.size w W3) := below_via M2.out.2.1 hb (Nat.le_refl _)
      clear hb p0 M2 HB
      go_upto_region 5 with (go_at_call 19; refine (HZa.out _).mono ?_; rintro e w8 ⟨rfl, rfl⟩)
      go_wp2_with (go_at_call 19; refine (HZm.out _).mono ?_; rintro e w9 ⟨rfl, rfl⟩)
      go_ret
      exact ⟨rfl, M3.out⟩
    · have hl2 : decide ((96 : Int) < (k : Int) + tn + 2) = true := by simp; omega
      clear hlt
      go_enter Tryz.func7, Tryz.ntmps7
      go_wp2_with fail
      refine (HK.out _).mono ?_
      rintro e W1 ⟨ka, kc, ea, ec, da, dc, rfl, q1, q2, q3, hb⟩
      have M1 : Hid (Sl .u32 W1 (.slice ka l1 kc) (kN j) ∧ Below w.heap.size w W1) := ⟨q1, hb⟩
      clear q1 q2 q3 hb HK
      go_upto_region 2 with (fail)
      refine wp_gen (fun W => Below W1.heap.size W1 W ∧ Blk 26 W W1.heap.size [.slice ka l1 kc, .slice ea l2 ec]) ⟨al1 _, Blk.new _ _ _⟩ ?_
      rintro W2 ⟨hb, hB⟩
      obtain ⟨fb, hf⟩ : ∃ x, W1.heap.size = x := ⟨_, rfl⟩
      have M2 : Hid (Sl .u32 W2 (.slice ka l1 kc) (kN j) ∧ Below w.heap.size w W2 ∧ Blk 26 W2 fb [.slice ka l1 kc, .slice ea l2 ec]) := ⟨below_sl hb M1.out.1, below_via M1.out.2 hb (Nat.le_refl _), hf ▸ hB⟩
      rw [hf]
      clear hb hB hf M1
      have p0 : W2.cell? ⟨fb, 0, none⟩ = some (.slice ka l1 kc) := M2.out.2.2.cell 0
      go_wp2_with fail
      refine (HB.out _ _ _ M2.out.1).mono ?_
      rintro e W3 ⟨rfl, hb⟩
      have M3 : Hid (Below w.heap.size w W3) := below_via M2.out.2.1 hb (Nat.le_refl _)
      clear hb p0 M2 HB
      go_upto_region 5 with (go_at_call 19; refine (HZa.out _).mono ?_; rintro e w8 ⟨rfl, rfl⟩)
      go_wp2_with (go_at_call 19; refine (HZm.out _).mono ?_; rintro e w9 ⟨rfl, rfl⟩)
      go_ret
      exact ⟨rfl, M3.out⟩
    · have hl2 : decide ((128 : Int) < (k : Int) + tn + 2) = true := by simp; omega
      clear hlt
      go_enter Tryz.func7, Tryz.ntmps7
      go_wp2_with fail
      refine (HK.out _).mono ?_
      rintro e W1 ⟨ka, kc, ea, ec, da, dc, rfl, q1, q2, q3, hb⟩
      have M1 : Hid (Sl .u32 W1 (.slice ka l1 kc) (kN j) ∧ Below w.heap.size w W1) := ⟨q1, hb⟩
      clear q1 q2 q3 hb HK
      go_upto_region 2 with (fail)
      refine wp_gen (fun W => Below W1.heap.size W1 W ∧ Blk 26 W W1.heap.size [.slice ka l1 kc, .slice ea l2 ec]) ⟨al1 _, Blk.new _ _ _⟩ ?_
      rintro W2 ⟨hb, hB⟩
      obtain ⟨fb, hf⟩ : ∃ x, W1.heap.size = x := ⟨_, rfl⟩
      have M2 : Hid (Sl .u32 W2 (.slice ka l1 kc) (kN j) ∧ Below w.heap.size w W2 ∧ Blk 26 W2 fb [.slice ka l1 kc, .slice ea l2 ec]) := ⟨below_sl hb M1.out.1, below_via M1.out.2 hb (Nat.le_refl _), hf ▸ hB⟩
      rw [hf]
      clear hb hB hf M1
      have p0 : W2.cell? ⟨fb, 0, none⟩ = some (.slice ka l1 kc) := M2.out.2.2.cell 0
      go_wp2_with fail
      refine (HB.out _ _ _ M2.out.1).mono ?_
      rintro e W3 ⟨rfl, hb⟩
      have M3 : Hid (Below w.heap.size w W3) := below_via M2.out.2.1 hb (Nat.le_refl _)
      clear hb p0 M2 HB
      go_upto_region 5 with (go_at_call 19; refine (HZa.out _).mono ?_; rintro e w8 ⟨rfl, rfl⟩)
      go_wp2_with (go_at_call 19; refine (HZm.out _).mono ?_; rintro e w9 ⟨rfl, rfl⟩)
      go_ret
      exact ⟨rfl, M3.out⟩
end Go.Proofs.YtjmiaakfdclfjaaGreatDoor
/-
  Rsa: the law RsaSalted. (wip/mky68.py)
-/
namespace Go.Proofs.YtjmiaakfdclfjaaGreatDoor
open Go.RowKit
set_option maxRecDepth 20000
theorem RsaSalted_l0 {w : World} (i alg mask : Int) (ta : Option Addr) (tn tc : Nat) (a : Option Addr) (len cap : Nat) (other : Int) (g0 : decide (8192 < (len : Int)) = true) (hT : Sh.Tabs w) :
    Calls Tryz.prog 3 #[.int .u8 i, .int .i64 alg, .int .i64 mask, .slice ta tn tc, .slice a len cap, .int .i64 other] w fun e w' => e = .returned (.bool true) ∧ Below w.heap.size w w' := by
  have HL : Hid (∀ W, Below w.heap.size w W → Calls Tryz.prog 4 #[] W fun e w' => e = .returned (.bool true) ∧ Below W.heap.size W w') := fun W h => live8_any (hT.below h)
  go_enter Tryz.func3, Tryz.ntmps3
  go_wp2_with fail
  refine (HL.out _ (Below.refl _ _)).mono ?_
  rintro e w7 ⟨rfl, hb7⟩
  have H7 : Hid (Below w.heap.size w w7) := below_via (Below.refl _ _) hb7 (Nat.le_refl _)
  clear hb7
  go_wp2
  go_ret
  exact ⟨rfl, H7.out⟩
theorem RsaSalted_l1 {w : World} (i alg mask : Int) (ta : Option Addr) (tn tc : Nat) (a : Option Addr) (len cap : Nat) (other : Int) (g0 : decide (8192 < (len : Int)) = false) (g1 : decide (200 < (tn : Int)) = true) (hT : Sh.Tabs w) :
    Calls Tryz.prog 3 #[.int .u8 i, .int .i64 alg, .int .i64 mask, .slice ta tn tc, .slice a len cap, .int .i64 other] w fun e w' => e = .returned (.bool true) ∧ Below w.heap.size w w' := by
  have HL : Hid (∀ W, Below w.heap.size w W → Calls Tryz.prog 4 #[] W fun e w' => e = .returned (.bool true) ∧ Below W.heap.size W w') := fun W h => live8_any (hT.below h)
  go_enter Tryz.func3, Tryz.ntmps3
  go_wp2_with fail
  refine (HL.out _ (Below.refl _ _)).mono ?_
  rintro e w7 ⟨rfl, hb7⟩
  have H7 : Hid (Below w.heap.size w w7) := below_via (Below.refl _ _) hb7 (Nat.le_refl _)
  clear hb7
  go_wp2
  go_ret
  exact ⟨rfl, H7.out⟩
theorem RsaSalted_l2 {w : World} (i alg mask : Int) (ta : Option Addr) (tn tc : Nat) (a : Option Addr) (len cap : Nat) (other : Int) (g0 : decide (8192 < (len : Int)) = false) (g1 : decide (200 < (tn : Int)) = false) (g2 : decide (other < 0) = true) (hT : Sh.Tabs w) :
    Calls Tryz.prog 3 #[.int .u8 i, .int .i64 alg, .int .i64 mask, .slice ta tn tc, .slice a len cap, .int .i64 other] w fun e w' => e = .returned (.bool true) ∧ Below w.heap.size w w' := by
  have HL : Hid (∀ W, Below w.heap.size w W → Calls Tryz.prog 4 #[] W fun e w' => e = .returned (.bool true) ∧ Below W.heap.size W w') := fun W h => live8_any (hT.below h)
  go_enter Tryz.func3, Tryz.ntmps3
  go_wp2_with fail
  refine (HL.out _ (Below.refl _ _)).mono ?_
  rintro e w7 ⟨rfl, hb7⟩
  have H7 : Hid (Below w.heap.size w w7) := below_via (Below.refl _ _) hb7 (Nat.le_refl _)
  clear hb7
  go_wp2
  go_ret
  exact ⟨rfl, H7.out⟩
theorem key_sz (j : Nat) (hj : j < 3) {nn e d sz : Nat} (K : KeyG (kN j) (kE j) (kD j) nn e d sz) (h8 : bts (kN j) = 8 * sz) : sz = 64 ∨ sz = 96 ∨ sz = 128 := by
  have h0 : j = 0 ∨ j = 1 ∨ j = 2 := by omega
  rcases h0 with rfl | rfl | rfl
  · have e : bts (kN 0) = 512 := by decide +kernel
    omega
  · have e : bts (kN 1) = 768 := by decide +kernel
    omega
  · have e : bts (kN 2) = 1024 := by decide +kernel
    omega
set_option maxHeartbeats 8000000 in
theorem RsaSalted_main {w : World} (i alg mask : Int) (ta : Option Addr) (tn tc : Nat) (a : Option Addr) (len cap : Nat) (other : Int) (i0 : 0 ≤ i) (i1 : i < 256) (g0 : decide (8192 < (len : Int)) = false) (g1 : decide (200 < (tn : Int)) = false) (g2 : decide (other < 0) = false) (hT : Sh.Tabs w) (T X : List Int) (hTn : Sl .u8 w (.slice ta tn tc) T) (uT : U8s T) (lT : T.length = tn) (hX : Sl .u8 w (.slice a len cap) X) (uX : U8s X) (lX : X.length = len) (q0 : len ≤ 8192) (q1 : tn ≤ 200) (o1 : other ≤ 9223372036854775807) (j : Nat) (hj : j < 3) (hij : i % 3 = (j : Int)) :
    Calls Tryz.prog 3 #[.int .u8 i, .int .i64 alg, .int .i64 mask, .slice ta tn tc, .slice a len cap, .int .i64 other] w fun e w' => e = .returned (.bool true) ∧ Below w.heap.size w w' := by
  have HL : Hid (∀ W, Below w.heap.size w W → Calls Tryz.prog 4 #[] W fun e w' => e = .returned (.bool true) ∧ Below W.heap.size W w') := fun W h => live8_any (hT.below h)
  obtain ⟨nn, ex, dd, sz, K, h8, hlo⟩ := key8 j hj
  have hsz := key_sz j hj K h8
  have s1 := K.s1
  have lens := K.len
  have o0 : 0 ≤ other := by simpa using g2
  have HK : Hid (∀ W, Calls Tryz.prog 5 #[.int .i64 (j : Nat)] W fun e w' => KnAns j W e w') := fun W => Known_any j hj
  obtain ⟨DX, hDX, dU⟩ : ∃ DX : List Int, (∀ W, Below w.heap.size w W → Calls Tryz.prog 6 #[.int .i64 alg, .slice a len cap] W fun e w' => ∃ a c, e = .returned (.slice a (Sh.siz alg) c) ∧ Sl .u8 w' (.slice a (Sh.siz alg) c) DX ∧ Below W.heap.size W w') ∧ U8s DX ∧ DX.length = Sh.siz alg := by
    by_cases h0 : Sh.siz alg = 0
    · refine ⟨[], fun W hb => (RDigest_no alg h0 _).mono ?_, fun _ h => (by cases h), (by rw [h0]; rfl)⟩
      rintro e w' ⟨rfl, rfl⟩
      rw [h0]
      exact ⟨none, 0, rfl, ⟨_, _, rfl, Nat.le_refl _, .inl rfl⟩, Below.refl _ _⟩
    · have hA : Sh.Alg alg := (siz_pos (alg := alg)).1 (by omega)
      refine ⟨Sh.dig alg X, fun W hb => (Sh.Digest_ok alg hA W _ X (below_sl hb hX) uX (by omega)).mono ?_, dig_u8' alg X, Sh.dig_len ..⟩
      rintro e w' ⟨r, h4, h5, h6⟩
      obtain ⟨a, c, hr, _⟩ := h5.len
      rw [Sh.dig_len] at hr
      subst hr
      exact ⟨a, c, h4, h5, h6⟩
  have HDX : Hid (∀ W, Below w.heap.size w W → Calls Tryz.prog 6 #[.int .i64 alg, .slice a len cap] W fun e w' => ∃ a c, e = .returned (.slice a (Sh.siz alg) c) ∧ Sl .u8 w' (.slice a (Sh.siz alg) c) DX ∧ Below W.heap.size W w') := hDX
  have HTn : Hid (∀ W, Below w.heap.size w W → Sl .u8 W (.slice ta tn tc) T) := fun W h => below_sl h hTn
  have HS : Hid (∀ (W : World) (f : Option Addr) (g : Nat), Below w.heap.size w W → Sl .u8 W (.slice f (Sh.siz alg) g) DX → Calls Tryz.prog 7 #[.int .i64 (j : Nat), .int .i64 alg, .int .i64 mask, .slice ta tn tc, .slice f (Sh.siz alg) g] W fun e' w' => ∃ a n c, e' = .returned (.slice a n c) ∧ Below W.heap.size W w' ∧ (n = 0 ∨ 0 < Sh.siz alg ∧ 0 < Sh.siz mask ∧ Sh.siz alg + T.length + 2 ≤ sz ∧ n = sz ∧ Sl .u8 w' (.slice a n c) (sgS nn dd sz (pssE alg mask DX T sz)))) := fun W f g hb h1 => by
    by_cases hno : Sh.siz mask = 0 ∨ Sh.siz alg = 0 ∨ sz < Sh.siz alg + tn + 2
    · refine (SignPss_no sz hsz j hj alg mask ta tn tc f _ g K h8 q1 rfl hno).mono ?_
      rintro e w' ⟨rfl, hb'⟩
      exact ⟨none, 0, 0, rfl, hb', .inl rfl⟩
    · have hA : 0 < Sh.siz alg := by omega
      have hM : 0 < Sh.siz mask := by omega
      have hn : Sh.siz alg + T.length + 2 ≤ sz := by omega
      refine (SignPss_main sz hsz j hj alg mask ta tn tc T (below_sl hb hTn) uT lT f _ g DX h1 dU.1 dU.2 K h8 hA hM rfl hn).mono ?_
      rintro e w' ⟨a, n, c, rfl, hs, hb'⟩
      have gl : (sgS nn dd sz (pssE alg mask DX T sz)).length = n := by
        obtain ⟨_, _, h1, _⟩ := hs.len
        simp only [Value.slice.injEq] at h1
        exact h1.2.1.symm
      rw [sgS_len] at gl
      exact ⟨a, n, c, rfl, hb', .inr ⟨hA, hM, hn, gl.symm, hs⟩⟩
  have HV : Hid (0 < Sh.siz alg → 0 < Sh.siz mask → Sh.siz alg + T.length + 2 ≤ sz → ∀ (W : World) (ka ea : Option Addr) (kc ec : Nat) (f : Option Addr) (g : Nat) (b : Option Addr) (d : Nat) (s : Int), 0 ≤ s → s ≤ 9223372036854775807 → Below w.heap.size w W → Sl .u32 W (.slice ka (kN j).length kc) (kN j) → Sl .u32 W (.slice ea (kE j).length ec) (kE j) → Sl .u8 W (.slice f (Sh.siz alg) g) DX → Sl .u8 W (.slice b sz d) (sgS nn dd sz (pssE alg mask DX T sz)) → Calls Tryz.prog 9 #[.agg #[.slice ka (kN j).length kc, .slice ea (kE j).length ec], .int .i64 alg, .int .i64 mask, .int .i64 s, .slice f (Sh.siz alg) g, .slice b sz d] W fun e w' => e = .returned (.int .i64 (if s = (tn : Int) then 0 else 112)) ∧ Below W.heap.size W w') := fun hA hM hn W ka ea kc ec f g b d s s0 s2 hb h1 h2 h3 h4 => by
    have zl := Sh.siz_le alg
    refine (VerifyPss_any (hT.below hb) ka ea _ kc _ ec (kN j) (kE j) h1 K.un rfl h2 K.ue rfl (by omega) (by omega) b sz d _ h4 (beb_u8 _ _) (sgS_len ..) alg mask s (by omega) s2 f _ g DX h3 dU.1 dU.2 (by omega)).mono ?_
    intro e w' h'
    rw [pss_sig K h8 hlo (by unfold isD; rw [dU.2]; simp; omega) hM uT hn s s0, lT] at h'
    exact h'
  have HZ : Hid (2 ≤ sz) := s1.1
  obtain ⟨l1, e1⟩ : ∃ l, (kN j).length = l := ⟨_, rfl⟩
  obtain ⟨l2, e2⟩ : ∃ l, (kE j).length = l := ⟨_, rfl⟩
  obtain ⟨l3, e3⟩ : ∃ l, (kD j).length = l := ⟨_, rfl⟩
  unfold KnAns at HK
  rw [e1, e2, e3] at HK
  rw [e1, e2] at HV
  have HO : Hid (0 ≤ other ∧ other ≤ 9223372036854775807 ∧ tn ≤ 200) := ⟨o0, o1, q1⟩
  clear hTn uT lT hX uX lX q0 q1 K h8 hlo hsz s1 lens dU hDX e1 e2 e3 hT o0 o1
  generalize Sh.siz alg = sl at *
  go_enter Tryz.func3, Tryz.ntmps3
  go_wp2_with fail
  refine (HK.out _).mono ?_
  rintro e W1 ⟨ka, kc, ea, ec, da, dc, rfl, q1, q2, q3, hb⟩
  have M1 : Hid (Sl .u32 W1 (.slice ka l1 kc) (kN j) ∧ Sl .u32 W1 (.slice ea l2 ec) (kE j) ∧ Below w.heap.size w W1) := ⟨q1, q2, hb⟩
  clear q1 q2 q3 hb HK
  go_upto_region 4 with (fail)
  refine wp_gen (fun W => Below W1.heap.size W1 W ∧ Blk 26 W W1.heap.size [.slice ka l1 kc, .slice ea l2 ec]) ⟨al1 _, Blk.new _ _ _⟩ ?_
  rintro W2 ⟨hb, hB⟩
  obtain ⟨fb, hf⟩ : ∃ x, W1.heap.size = x := ⟨_, rfl⟩
  have M2 : Hid (Sl .u32 W2 (.slice ka l1 kc) (kN j) ∧ Sl .u32 W2 (.slice ea l2 ec) (kE j) ∧ Below w.heap.size w W2 ∧ Blk 26 W2 fb [.slice ka l1 kc, .slice ea l2 ec]) := ⟨below_sl hb M1.out.1, below_sl hb M1.out.2.1, below_via M1.out.2.2 hb (Nat.le_refl _), hf ▸ hB⟩
  rw [hf]
  clear hb hB hf M1
  go_wp2_with fail
  refine (HDX.out _ M2.out.2.2.1).mono ?_
  rintro e W3 ⟨xa, xc, rfl, hx, hb⟩
  have M3 : Hid (Sl .u32 W3 (.slice ka l1 kc) (kN j) ∧ Sl .u32 W3 (.slice ea l2 ec) (kE j) ∧ Below w.heap.size w W3 ∧ Blk 26 W3 fb [.slice ka l1 kc, .slice ea l2 ec] ∧ Sl .u8 W3 (.slice xa sl xc) DX) := ⟨below_sl hb M2.out.1, below_sl hb M2.out.2.1, below_via M2.out.2.2.1 hb (Nat.le_refl _), below_blk hb M2.out.2.2.2.lt M2.out.2.2.2, hx⟩
  clear hb hx M2
  go_wp2_with fail
  refine (HS.out _ _ _ M3.out.2.2.1 M3.out.2.2.2.2).mono ?_
  rintro e W5 ⟨ga, gn, gc, rfl, hb, hg⟩
  have M5 : Hid (Sl .u32 W5 (.slice ka l1 kc) (kN j) ∧ Sl .u32 W5 (.slice ea l2 ec) (kE j) ∧ Below w.heap.size w W5 ∧ Blk 26 W5 fb [.slice ka l1 kc, .slice ea l2 ec] ∧ Sl .u8 W5 (.slice xa sl xc) DX) := ⟨below_sl hb M3.out.1, below_sl hb M3.out.2.1, below_via M3.out.2.2.1 hb (Nat.le_refl _), below_blk hb M3.out.2.2.2.1.lt M3.out.2.2.2.1, below_sl hb M3.out.2.2.2.2⟩
  clear hb M3
  rcases hg with rfl | ⟨hA, hM, hn, rfl, hs⟩
  · skip
    go_wp2_with fail
    refine (HL.out _ M5.out.2.2.1).mono ?_
    rintro e w7 ⟨rfl, hb7⟩
    have H7 : Hid (Below w.heap.size w w7) := below_via M5.out.2.2.1 hb7 (Nat.le_refl _)
    clear hb7
    go_wp2
    go_ret
    exact ⟨rfl, H7.out⟩
  · have HV0 := HV.out hA hM hn
    have HV1 : Hid (∀ W, Below W5.heap.size W5 W → Calls Tryz.prog 9 #[.agg #[.slice ka l1 kc, .slice ea l2 ec], .int .i64 alg, .int .i64 mask, .int .i64 (tn : Int), .slice xa sl xc, .slice ga gn gc] W fun e w' => e = .returned (.int .i64 0) ∧ Below W.heap.size W w') := fun W h => by
      have h' := HV0 W ka ea kc ec xa xc ga gc (tn : Int) (by omega) (by have := HO.out; omega) (below_via M5.out.2.2.1 h (Nat.le_refl _)) (below_sl h M5.out.1) (below_sl h M5.out.2.1) (below_sl h M5.out.2.2.2.2) (below_sl h hs)
      rw [if_pos rfl] at h'
      exact h'
    have HV2 : Hid (∀ W, Below W5.heap.size W5 W → Calls Tryz.prog 9 #[.agg #[.slice ka l1 kc, .slice ea l2 ec], .int .i64 alg, .int .i64 mask, .int .i64 other, .slice xa sl xc, .slice ga gn gc] W fun e w' => e = .returned (.int .i64 (if other = (tn : Int) then 0 else 112)) ∧ Below W.heap.size W w') := fun W h => HV0 W ka ea kc ec xa xc ga gc other HO.out.1 HO.out.2.1 (below_via M5.out.2.2.1 h (Nat.le_refl _)) (below_sl h M5.out.1) (below_sl h M5.out.2.1) (below_sl h M5.out.2.2.2.2) (below_sl h hs)
    have n0 : ((gn : Int) == 0) = false := by have := HZ.out; simp; omega
    have n1 : (gn == 0) = false := by have := HZ.out; simp; omega
    have n2 : decide (gn = 0) = false := by have := HZ.out; simp; omega
    clear HV HV0 HS hA hM hn hs
    have p0 : W5.cell? ⟨fb, 0, none⟩ = some (.slice ka l1 kc) := M5.out.2.2.2.1.cell 0
    have p1 : W5.cell? ⟨fb, 1, none⟩ = some (.slice ea l2 ec) := M5.out.2.2.2.1.cell 1
    go_wp2_with fail
    refine (HV1.out _ (Below.refl _ _)).mono ?_
    rintro e W6 ⟨rfl, hb6⟩
    have H6 : Hid (Below W5.heap.size W5 W6) := hb6
    clear hb6 p0 p1
    have p0 : W6.cell? ⟨fb, 0, none⟩ = some (.slice ka l1 kc) := (below_blk H6.out M5.out.2.2.2.1.lt M5.out.2.2.2.1).cell 0
    have p1 : W6.cell? ⟨fb, 1, none⟩ = some (.slice ea l2 ec) := (below_blk H6.out M5.out.2.2.2.1.lt M5.out.2.2.2.1).cell 1
    go_wp2_with (go_at_call 8; refine (num8_any _ _).mono ?_; rintro e w6 ⟨rfl, rfl⟩)
    refine (HV2.out _ H6.out).mono ?_
    rintro e W7 ⟨rfl, hb7⟩
    have H7 : Hid (Below w.heap.size w W7) := below_via M5.out.2.2.1 (below_via H6.out hb7 (Nat.le_refl _)) (Nat.le_refl _)
    clear hb7 p0 p1
    by_cases hd : other = (tn : Int)
    · rw [if_pos hd]
      have hd' : (other == (tn : Int)) = true := by simpa using hd
      clear hd
      go_wp2_with (go_at_call 8; refine (num8_any _ _).mono ?_; rintro e w6 ⟨rfl, rfl⟩)
      refine (HL.out _ H7.out).mono ?_
      rintro e w7 ⟨rfl, hb7⟩
      have H7 : Hid (Below w.heap.size w w7) := below_via H7.out hb7 (Nat.le_refl _)
      clear hb7
      go_wp2
      go_ret
      exact ⟨rfl, H7.out⟩
    · rw [if_neg hd]
      have hd' : (other == (tn : Int)) = false := by simpa using hd
      clear hd
      go_wp2_with (go_at_call 8; refine (num8_any _ _).mono ?_; rintro e w6 ⟨rfl, rfl⟩)
      refine (HL.out _ H7.out).mono ?_
      rintro e w7 ⟨rfl, hb7⟩
      have H7 : Hid (Below w.heap.size w w7) := below_via H7.out hb7 (Nat.le_refl _)
      clear hb7
      go_wp2
      go_ret
      exact ⟨rfl, H7.out⟩
theorem RsaSalted_any {w : World} (i alg mask : Int) (ta : Option Addr) (tn tc : Nat) (a : Option Addr) (len cap : Nat) (other : Int) (i0 : 0 ≤ i) (i1 : i < 256) (o1 : other ≤ 9223372036854775807) (hT : Sh.Tabs w) (T X : List Int) (hTn : Sl .u8 w (.slice ta tn tc) T) (uT : U8s T) (lT : T.length = tn) (hX : Sl .u8 w (.slice a len cap) X) (uX : U8s X) (lX : X.length = len) :
    Calls Tryz.prog 3 #[.int .u8 i, .int .i64 alg, .int .i64 mask, .slice ta tn tc, .slice a len cap, .int .i64 other] w fun e w' => e = .returned (.bool true) ∧ Below w.heap.size w w' := by
  by_cases h0 : len ≤ 8192
  · have g0 : decide ((8192 : Int) < (len : Int)) = false := by simp; omega
    by_cases h1 : tn ≤ 200
    · have g1 : decide ((200 : Int) < (tn : Int)) = false := by simp; omega
      by_cases h2 : 0 ≤ other
      · exact RsaSalted_main i alg mask ta tn tc a len cap other i0 i1 g0 g1 (by simp; omega) hT T X hTn uT lT hX uX lX h0 h1 o1 (i % 3).toNat (by omega) (by omega)
      · exact RsaSalted_l2 i alg mask ta tn tc a len cap other g0 g1 (by simp; omega) hT
    · exact RsaSalted_l1 i alg mask ta tn tc a len cap other g0 (by simp; omega) hT
  · exact RsaSalted_l0 i alg mask ta tn tc a len cap other (by simp; omega) hT
end Go.Proofs.YtjmiaakfdclfjaaGreatDoor
