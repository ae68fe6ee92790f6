/-
  Rsa: the law RsaRaws.
-/
import Derived.Test.YtndoibmpnhkmpaaGreatDoorRows
import Derived.Lib.LaidTab
import Derived.LaidSub
import Derived.MakeChecks
import Derived.OpenShut
import Derived.ProofKit
import Derived.Test.YtndoibmpnhkmpaaGreatDoorK28
namespace Go.Proofs.YtndoibmpnhkmpaaGreatDoor
open Go.RowKit
set_option maxRecDepth 20000
theorem byt_len (y : List Int) (n : Nat) : (Nt.bytS y n).1.length ≤ 2048 := by
  unfold Nt.bytS
  split
  · simp
  · split
    · simp
    · split
      · simp
      · rw [Nt.beb_len]; omega
theorem raw_len {ns es sg : List Int} (_un : U32s ns) : (rawS ns es sg).1.length ≤ 2048 := by
  unfold rawS
  split
  · simp
  · split
    · simp
    · split
      · simp
      · exact byt_len _ _
theorem Lent_n {w : World} (X : List Int) (v : Value) (n : Nat) (hn : X.length = n) (hX : Sl .u32 w v X) (hl : n ≤ 1000) :
    Calls Tryz.prog 11 #[v] w fun e w' => ∃ b S, e = .returned (.slice (some ⟨b, 0, none⟩) n S) ∧ Nt.LentR w.heap.size w' (.slice (some ⟨b, 0, none⟩) n S) X ∧ Below w.heap.size w w' := by
  refine (Nt.Lent_any X v w hX (by omega)).mono ?_
  rintro e w' ⟨r, rfl, hL, hB⟩
  obtain ⟨b, S, rfl, h⟩ := id hL
  rw [hn] at hL ⊢
  exact ⟨b, _, rfl, hL, hB⟩
set_option maxHeartbeats 4000000 in
theorem RsaRaws_any {w : World} (a a' : Option Addr) (n c n' c' : Nat) (ns es : List Int) (hn : Sl .u32 w (.slice a n c) ns) (un : U32s ns) (ln : ns.length = n) (he : Sl .u32 w (.slice a' n' c') es) (ue : U32s es) (le : es.length = n')
    (b : Option Addr) (m d : Nat) (sg : List Int) (hs : Sl .u8 w (.slice b m d) sg) (us : U8s sg) (ls : sg.length = m) (hT : Sh.Tabs w) :
    Calls Tryz.prog 3 #[.agg #[.slice a n c, .slice a' n' c'], .slice b m d] w fun e w' => e = .returned (.bool true) ∧ Below w.heap.size w w' := by
  have HT : Hid (Sh.Tabs w) := hT
  have HX : Hid (Sl .u32 w (.slice a n c) ns ∧ U32s ns ∧ ns.length = n ∧ Sl .u32 w (.slice a' n' c') es ∧ U32s es ∧ es.length = n' ∧ Sl .u8 w (.slice b m d) sg ∧ U8s sg ∧ sg.length = m) := ⟨hn, un, ln, he, ue, le, hs, us, ls⟩
  clear hn un ln he ue le hs us ls hT
  go_enter Tryz.func3, Tryz.ntmps3
  go_upto_region 1 with (refine Sh.wpList_boxR rfl 24 (.tmp 0) rfl #[.slice a n c, .slice a' n' c'] rfl ?_)
  refine Sh.wp_gen (fun W => Blk 24 W w.heap.size [.slice a n c, .slice a' n' c'] ∧ Below w.heap.size w W) ⟨Blk.new _ w _, al1 _⟩ ?_
  rintro W2 ⟨hB, hBw⟩
  have hc0 : W2.cell? ⟨w.heap.size, 0, none⟩ = some (.slice a n c) := hB.cell 0
  have hc1 : W2.cell? ⟨w.heap.size, 1, none⟩ = some (.slice a' n' c') := hB.cell 1
  have H2 : Hid (Below w.heap.size w W2 ∧ ∀ W3, Below W2.heap.size W2 W3 → W3.cell? ⟨w.heap.size, 0, none⟩ = some (.slice a n c) ∧ W3.cell? ⟨w.heap.size, 1, none⟩ = some (.slice a' n' c') ∧ Below w.heap.size w W3 ∧ W3.rangeAt w.heap.size 0 [.slice a n c, .slice a' n' c']) := ⟨hBw, fun W3 h3 => ⟨(below_blk h3 hB.lt hB).cell 0, (below_blk h3 hB.lt hB).cell 1, below_via hBw h3 (Nat.le_refl _), (below_blk h3 hB.lt hB).whole⟩⟩
  clear hB hBw
  by_cases h1 : ¬ n ≤ 64
  · have d1 : decide ((64 : Int) < (n : Int)) = true := by simp; omega
    go_wp2_with (go_at_call 9; refine (live8_any (HT.out.below H2.out.1)).mono ?_; rintro e w3 ⟨rfl, hb3⟩; have H3 : Hid (Below w.heap.size w w3) := below_via H2.out.1 hb3 (Nat.le_refl _); clear hb3)
    go_ret
    exact ⟨rfl, H3.out⟩
  have h1 := Decidable.not_not.1 h1
  have d1 : decide ((64 : Int) < (n : Int)) = false := by simp; omega
  by_cases h2 : ¬ n' ≤ 600
  · have d2 : decide ((600 : Int) < (n' : Int)) = true := by simp; omega
    go_wp2_with (go_at_call 9; refine (live8_any (HT.out.below H2.out.1)).mono ?_; rintro e w3 ⟨rfl, hb3⟩; have H3 : Hid (Below w.heap.size w w3) := below_via H2.out.1 hb3 (Nat.le_refl _); clear hb3)
    go_ret
    exact ⟨rfl, H3.out⟩
  have h2 := Decidable.not_not.1 h2
  have d2 : decide ((600 : Int) < (n' : Int)) = false := by simp; omega
  by_cases h3 : ¬ m ≤ 8192
  · have d3 : decide ((8192 : Int) < (m : Int)) = true := by simp; omega
    go_wp2_with (go_at_call 9; refine (live8_any (HT.out.below H2.out.1)).mono ?_; rintro e w3 ⟨rfl, hb3⟩; have H3 : Hid (Below w.heap.size w w3) := below_via H2.out.1 hb3 (Nat.le_refl _); clear hb3)
    go_ret
    exact ⟨rfl, H3.out⟩
  have h3 := Decidable.not_not.1 h3
  have d3 : decide ((8192 : Int) < (m : Int)) = false := by simp; omega
  have four : Hid (∀ W3, Below W2.heap.size W2 W3 → W3.cell? ⟨w.heap.size, 0, none⟩ = some (.slice a n c) ∧ W3.cell? ⟨w.heap.size, 1, none⟩ = some (.slice a' n' c')) := fun W3 h3 => ⟨(H2.out.2 W3 h3).1, (H2.out.2 W3 h3).2.1⟩
  have HZ : Hid (n ≤ 64 ∧ n' ≤ 600 ∧ m ≤ 8192) := ⟨h1, h2, h3⟩
  go_wp2_with fail
  clear hc0 hc1 h1 h2 h3
  go_region_held3 (fun W => Below W2.heap.size W2 W ∧ W.cell? ⟨w.heap.size, 0, none⟩ = some (.slice a n c) ∧ W.cell? ⟨w.heap.size, 1, none⟩ = some (.slice a' n' c'))
    (first | assumption | exact (fun h => ⟨h, four.out _ h⟩) (Below.drew (Below.refl _ _)) | exact (fun h => ⟨h, four.out _ h⟩) (below_via (And.left (by assumption)) (by assumption) (Nat.le_refl _)))
    (first
    | (go_at_call 10; refine (Lent8_n sg _ _ m HX.out.2.2.2.2.2.2.2.2 (below_sl (below_via H2.out.1 (And.left (by assumption)) (Nat.le_refl _)) HX.out.2.2.2.2.2.2.1) (by have := HZ.out.2.2; omega)).mono ?_; rintro e w3 ⟨b3, S3, c3, rfl, hl3, _, _, _, hb3⟩)
    | (replace hl4 := hl4; go_at_call 11; refine (Lent_n es _ n' HX.out.2.2.2.2.2.1 (below_sl (below_via H2.out.1 (And.left (by assumption)) (Nat.le_refl _)) HX.out.2.2.2.1) (by have := HZ.out.2.1; omega)).mono ?_; rintro e w5 ⟨b5, c5, rfl, hl5, hb5⟩)
    | (go_at_call 11; refine (Lent_n ns _ n HX.out.2.2.1 (below_sl (below_via H2.out.1 (And.left (by assumption)) (Nat.le_refl _)) HX.out.1) (by have := HZ.out.1; omega)).mono ?_; rintro e w4 ⟨b4, c4, rfl, hl4, hb4⟩))
  have H5 : Hid (LentR8 W2.drew.heap.size w5 (.slice (some ⟨b3, 0, none⟩) m c3) sg ∧ Nt.LentR w3.heap.size w5 (.slice (some ⟨b4, 0, none⟩) n c4) ns ∧ Nt.LentR w4.heap.size w5 (.slice (some ⟨b5, 0, none⟩) n' c5) es ∧ Below W2.heap.size W2 w5) := ⟨(hl3.below hb4).below hb5, hl4.below hb5, hl5, And.left (by assumption)⟩
  have HRl : Hid ((rawS ns es sg).1.length ≤ 2048) := raw_len HX.out.2.1
  obtain ⟨Rl, hRl⟩ : ∃ Rl, (rawS ns es sg).1 = Rl := ⟨_, rfl⟩
  obtain ⟨E, hE⟩ : ∃ E, (rawS ns es sg).2 = E := ⟨_, rfl⟩
  have HRw := fun (x x' : Option Addr) (y y' z : Nat) (q : Option Addr) (W : World) (k1 : Sl .u32 W (.slice x n y) ns) (k2 : Sl .u32 W (.slice x' n' y') es) (k3 : Sl .u8 W (.slice q m z) sg) => Raw_any x x' n y n' y' ns es k1 HX.out.2.1 HX.out.2.2.1 k2 HX.out.2.2.2.2.1 HX.out.2.2.2.2.2.1 (by have := HZ.out.1; omega) HZ.out.2.1 q m z sg k3 HX.out.2.2.2.2.2.2.2.1 HX.out.2.2.2.2.2.2.2.2
  have HRr := fun (x x' : Option Addr) (y y' z : Nat) (q : Option Addr) (W : World) (k1 : Sl .u32 W (.slice x n y) ns) (k2 : Sl .u32 W (.slice x' n' y') es) (k3 : Sl .u8 W (.slice q m z) sg) => RRaw_any x x' n y n' y' ns es k1 HX.out.2.1 HX.out.2.2.1 k2 HX.out.2.2.2.2.1 HX.out.2.2.2.2.2.1 (by have := HZ.out.1; omega) HZ.out.2.1 q m z sg k3 HX.out.2.2.2.2.2.2.2.1 HX.out.2.2.2.2.2.2.2.2
  rw [hRl] at HRw HRr HRl
  rw [hE] at HRw HRr
  have HW : Hid (∀ (x x' : Option Addr) (y y' z : Nat) (q : Option Addr) (W : World), Sl .u32 W (.slice x n y) ns → Sl .u32 W (.slice x' n' y') es → Sl .u8 W (.slice q m z) sg → _) := HRw
  have HR : Hid (∀ (x x' : Option Addr) (y y' z : Nat) (q : Option Addr) (W : World), Sl .u32 W (.slice x n y) ns → Sl .u32 W (.slice x' n' y') es → Sl .u8 W (.slice q m z) sg → _) := HRr
  clear hRl hE HRw HRr hl3 hl4 hl5 hb3 hb4 hb5
  go_wp2_with fail
  refine (HW.out (some ⟨b4, 0, none⟩) (some ⟨b5, 0, none⟩) c4 c5 c3 (some ⟨b3, 0, none⟩) _ H5.out.2.1.sl H5.out.2.2.1.sl H5.out.1.sl).mono ?_
  rintro e w6 ⟨r6, rfl, hr6, hb6⟩
  obtain ⟨a6, c6, hf6⟩ := hr6.form
  subst hf6
  have hb26 := below_via H5.out.2.2.2 hb6 (Nat.le_refl _)
  have H6 : Hid (LentR8 W2.drew.heap.size w6 (.slice (some ⟨b3, 0, none⟩) m c3) sg ∧ Nt.LentR w3.heap.size w6 (.slice (some ⟨b4, 0, none⟩) n c4) ns ∧ Nt.LentR w4.heap.size w6 (.slice (some ⟨b5, 0, none⟩) n' c5) es ∧ Sl .u8 w6 (.slice a6 Rl.length c6) Rl ∧ Below W2.heap.size W2 w6 ∧ Below w.heap.size w w6 ∧ w6.rangeAt w.heap.size 0 [.slice a n c, .slice a' n' c']) := ⟨H5.out.1.below hb6, H5.out.2.1.below hb6, H5.out.2.2.1.below hb6, hr6, hb26, (H2.out.2 _ hb26).2.2.1, (H2.out.2 _ hb26).2.2.2⟩
  clear hr6 hb6 hb26 H5
  go_wp2_with (refine wpList_load_mid rfl 24 (.tmp 2) rfl w.heap.size 0 rfl [.slice a n c, .slice a' n' c'] _ H6.out.2.2.2.2.2.2 Tryz.underlying24 rfl (by kernel_rfl) ?_)
  refine (HR.out a a' c c' d b _ (below_sl H6.out.2.2.2.2.2.1 HX.out.1) (below_sl H6.out.2.2.2.2.2.1 HX.out.2.2.2.1) (below_sl H6.out.2.2.2.2.2.1 HX.out.2.2.2.2.2.2.1)).mono ?_
  rintro e w7 ⟨r7, rfl, hr7, hb7⟩
  obtain ⟨a7, c7, hf7⟩ := hr7.form
  subst hf7
  have H7 : Hid (LentR8 W2.drew.heap.size w7 (.slice (some ⟨b3, 0, none⟩) m c3) sg ∧ Nt.LentR w3.heap.size w7 (.slice (some ⟨b4, 0, none⟩) n c4) ns ∧ Nt.LentR w4.heap.size w7 (.slice (some ⟨b5, 0, none⟩) n' c5) es ∧ Sl .u8 w7 (.slice a6 Rl.length c6) Rl ∧ Sl .u8 w7 (.slice a7 Rl.length c7) Rl ∧ Below W2.heap.size W2 w7) := ⟨H6.out.1.below hb7, H6.out.2.1.below hb7, H6.out.2.2.1.below hb7, below_sl hb7 H6.out.2.2.2.1, hr7, below_via H6.out.2.2.2.2.1 hb7 (Nat.le_refl _)⟩
  clear hr7 hb7 H6 HW HR
  go_wp2_with (first
    | (go_at_call 15; refine (num8_any _ _).mono ?_; rintro e w' ⟨rfl, rfl⟩)
    | (go_at_call 14; refine (SameBytes_any _ _ Rl H7.out.2.2.2.1 H7.out.2.2.2.2.1 (by have := HRl.out; omega)).mono ?_; rintro e w8 ⟨rfl, hb8⟩; have H8 : Hid (LentR8 W2.drew.heap.size w8 (.slice (some ⟨b3, 0, none⟩) m c3) sg ∧ Nt.LentR w3.heap.size w8 (.slice (some ⟨b4, 0, none⟩) n c4) ns ∧ Nt.LentR w4.heap.size w8 (.slice (some ⟨b5, 0, none⟩) n' c5) es ∧ Below W2.heap.size W2 w8) := ⟨H7.out.1.below hb8, H7.out.2.1.below hb8, H7.out.2.2.1.below hb8, below_via H7.out.2.2.2.2.2 hb8 (Nat.le_refl _)⟩; clear hb8)
    | (go_at_call 16; refine (Kept8_any _ _ sg H8.out.1 (below_sl (H2.out.2 _ H8.out.2.2.2).2.2.1 HX.out.2.2.2.2.2.2.1) (by have := HX.out.2.2.2.2.2.2.2.2; have := HZ.out.2.2; omega)).mono ?_; rintro e w9 ⟨rfl, hb9⟩; have H9 : Hid (Nt.LentR w3.heap.size w9 (.slice (some ⟨b4, 0, none⟩) n c4) ns ∧ Nt.LentR w4.heap.size w9 (.slice (some ⟨b5, 0, none⟩) n' c5) es ∧ Below W2.heap.size W2 w9) := ⟨H8.out.2.1.below hb9, H8.out.2.2.1.below hb9, below_via H8.out.2.2.2 hb9 (Nat.le_refl _)⟩; clear hb9; have hk9 := (H2.out.2 _ H9.out.2.2).1)
    | (replace H10 := H10; go_at_call 17; refine (Nt.Kept_any _ _ es H10.out.1 (below_sl (H2.out.2 _ H10.out.2).2.2.1 HX.out.2.2.2.1) (by have := HX.out.2.2.2.2.2.1; have := HZ.out.2.1; omega)).mono ?_; rintro e w11 ⟨rfl, hb11⟩; have H11 : Hid (Below w.heap.size w w11) := (H2.out.2 _ (below_via H10.out.2 hb11 (Nat.le_refl _))).2.2.1; clear hb11 hk10)
    | (replace H9 := H9; go_at_call 17; refine (Nt.Kept_any _ _ ns H9.out.1 (below_sl (H2.out.2 _ H9.out.2.2).2.2.1 HX.out.1) (by have := HX.out.2.2.1; have := HZ.out.1; omega)).mono ?_; rintro e w10 ⟨rfl, hb10⟩; have H10 : Hid (Nt.LentR w4.heap.size w10 (.slice (some ⟨b5, 0, none⟩) n' c5) es ∧ Below W2.heap.size W2 w10) := ⟨H9.out.2.1.below hb10, below_via H9.out.2.2 hb10 (Nat.le_refl _)⟩; clear hb10 hk9; have hk10 := (H2.out.2 _ H10.out.2).2.1)
    | (go_at_call 9; refine (live8_any (HT.out.below H11.out)).mono ?_; rintro e w12 ⟨rfl, hb12⟩; have H12 : Hid (Below w.heap.size w w12) := below_via H11.out hb12 (Nat.le_refl _); clear hb12))
  go_ret
  exact ⟨rfl, H12.out⟩
end Go.Proofs.YtndoibmpnhkmpaaGreatDoor
/-
  Rsa: what the tied list of tables gives; a world for the witness; how an argument reads.
-/
namespace Go.Proofs.YtndoibmpnhkmpaaGreatDoor
open Go.ChangeShapes Go.WideShapes Go.ChangeAt Go.RowKit
/-! ### how an argument reads -/
def IsRow (k : IntKind) (w : World) (a : Option Addr) (len cap : Nat) (zs : List Int) : Prop :=
  (a = none ∧ len = 0 ∧ cap = 0 ∧ zs = []) ∨
  ∃ x, a = some x ∧ len ≤ cap ∧ cap ≤ maxLen ∧ zs.length = cap ∧ (∀ i, i < zs.length → w.cell? (x.add i) = some (.int k (zs.getD i 0))) ∧ ∀ n ∈ zs, (Lit.int k n).wf = true
theorem cell_spot {w : World} {x : Addr} {v : Value} (h : w.cell? x = some v) : x.spot = none ∧ x.block < w.heap.size := by
  unfold World.cell? at h
  split at h
  · rename_i c t f hh
    refine ⟨?_, (Array.getElem?_eq_some_iff.1 hh).1⟩
    by_cases hs : x.spot.isSome
    · simp [hs] at h
    · simpa using hs
  · cases h
theorem IsRow.sl {k : IntKind} {w : World} {a : Option Addr} {len cap : Nat} {zs : List Int} (h : IsRow k w a len cap zs) :
    ∃ X, X.length = len ∧ Sl k w (.slice a len cap) X ∧ ∀ n ∈ X, (Lit.int k n).wf = true := by
  rcases h with ⟨rfl, rfl, rfl, rfl⟩ | ⟨x, rfl, hl, hm, hz, hc, hw⟩
  · exact ⟨[], rfl, ⟨none, 0, rfl, Nat.le_refl _, .inl rfl⟩, by simp⟩
  · refine ⟨zs.take len, by simp; omega, ⟨some x, cap, by simp; omega, by simp; omega, ?_⟩, fun n hn => hw n (List.mem_of_mem_take hn)⟩
    by_cases h0 : len = 0
    · subst h0; exact .inl (by simp)
    · right
      obtain ⟨b, off, sp⟩ := x
      have h1 := cell_spot (hc 0 (by omega))
      have hsp : sp = none := by
        have := h1.1
        cases sp with
        | none => rfl
        | some s => simp [Addr.add] at this
      subst hsp
      have hb : b < w.heap.size := by have := h1.2; simpa [Addr.add] using this
      refine ⟨b, off, rfl, hb, fun i hi => ?_⟩
      simp at hi
      have := hc i (by omega)
      have hadd : (⟨b, off, none⟩ : Addr).add i = ⟨b, off + i, none⟩ := by simp [Addr.add]
      rw [hadd] at this
      rw [this]
      simp [show i < len by omega]
theorem IsRow.sl8 {w : World} {a : Option Addr} {len cap : Nat} {zs : List Int} (h : IsRow .u8 w a len cap zs) : ∃ X, X.length = len ∧ Sl .u8 w (.slice a len cap) X ∧ U8s X := by
  obtain ⟨X, h1, h2, h3⟩ := h.sl
  exact ⟨X, h1, h2, fun n hn => by have := bounds_u8 (h3 n hn); exact ⟨this.1, by omega⟩⟩
theorem Tryz.g_first1 : Tryz.prog.globalNamed "chirograph/sha.first1" = some 0 := by kernel_rfl
theorem Tryz.gt_first1 : (Tryz.prog.globals[0]?).map (·.type) = some 115 := by kernel_rfl
theorem Tryz.gc_first1 : Tryz.prog.cellsOf 115 = 8 := by kernel_rfl
theorem Tryz.lf_first1 : Rows.rsaRawsRow.laid.filter (fun x => x.1 == "chirograph/sha.first1") = [("chirograph/sha.first1", Lib.tabData .u32 Sh.first1L)] := by kernel_rfl
theorem Tryz.g_first256 : Tryz.prog.globalNamed "chirograph/sha.first256" = some 1 := by kernel_rfl
theorem Tryz.gt_first256 : (Tryz.prog.globals[1]?).map (·.type) = some 115 := by kernel_rfl
theorem Tryz.gc_first256 : Tryz.prog.cellsOf 115 = 8 := by kernel_rfl
theorem Tryz.lf_first256 : Rows.rsaRawsRow.laid.filter (fun x => x.1 == "chirograph/sha.first256") = [("chirograph/sha.first256", Lib.tabData .u32 Sh.first256L)] := by kernel_rfl
theorem Tryz.g_first384 : Tryz.prog.globalNamed "chirograph/sha.first384" = some 2 := by kernel_rfl
theorem Tryz.gt_first384 : (Tryz.prog.globals[2]?).map (·.type) = some 80 := by kernel_rfl
theorem Tryz.gc_first384 : Tryz.prog.cellsOf 80 = 8 := by kernel_rfl
theorem Tryz.lf_first384 : Rows.rsaRawsRow.laid.filter (fun x => x.1 == "chirograph/sha.first384") = [("chirograph/sha.first384", Lib.tabData .u64 Sh.first384L)] := by kernel_rfl
theorem Tryz.g_first512 : Tryz.prog.globalNamed "chirograph/sha.first512" = some 3 := by kernel_rfl
theorem Tryz.gt_first512 : (Tryz.prog.globals[3]?).map (·.type) = some 80 := by kernel_rfl
theorem Tryz.gc_first512 : Tryz.prog.cellsOf 80 = 8 := by kernel_rfl
theorem Tryz.lf_first512 : Rows.rsaRawsRow.laid.filter (fun x => x.1 == "chirograph/sha.first512") = [("chirograph/sha.first512", Lib.tabData .u64 Sh.first512L)] := by kernel_rfl
theorem Tryz.g_adds1 : Tryz.prog.globalNamed "chirograph/sha.adds1" = some 5 := by kernel_rfl
theorem Tryz.gt_adds1 : (Tryz.prog.globals[5]?).map (·.type) = some 167 := by kernel_rfl
theorem Tryz.gc_adds1 : Tryz.prog.cellsOf 167 = 4 := by kernel_rfl
theorem Tryz.lf_adds1 : Rows.rsaRawsRow.laid.filter (fun x => x.1 == "chirograph/sha.adds1") = [("chirograph/sha.adds1", Lib.tabData .u32 Sh.adds1L)] := by kernel_rfl
theorem Tryz.g_adds256 : Tryz.prog.globalNamed "chirograph/sha.adds256" = some 6 := by kernel_rfl
theorem Tryz.gt_adds256 : (Tryz.prog.globals[6]?).map (·.type) = some 113 := by kernel_rfl
theorem Tryz.gc_adds256 : Tryz.prog.cellsOf 113 = 64 := by kernel_rfl
theorem Tryz.lf_adds256 : Rows.rsaRawsRow.laid.filter (fun x => x.1 == "chirograph/sha.adds256") = [("chirograph/sha.adds256", Lib.tabData .u32 Sh.adds256L)] := by kernel_rfl
theorem Tryz.g_adds512 : Tryz.prog.globalNamed "chirograph/sha.adds512" = some 7 := by kernel_rfl
theorem Tryz.gt_adds512 : (Tryz.prog.globals[7]?).map (·.type) = some 116 := by kernel_rfl
theorem Tryz.gc_adds512 : Tryz.prog.cellsOf 116 = 80 := by kernel_rfl
theorem Tryz.lf_adds512 : Rows.rsaRawsRow.laid.filter (fun x => x.1 == "chirograph/sha.adds512") = [("chirograph/sha.adds512", Lib.tabData .u64 Sh.adds512L)] := by kernel_rfl
theorem Tryz.c32 : Tryz.prog.cellsOf 56 = 1 := by kernel_rfl
theorem Tryz.c64 : Tryz.prog.cellsOf 79 = 1 := by kernel_rfl
theorem Tryz.u32 : Tryz.prog.underlying 56 = some (.int .u32) := by kernel_rfl
theorem Tryz.u64 : Tryz.prog.underlying 79 = some (.int .u64) := by kernel_rfl
theorem rd_tab {W : World} {name : String} {k : IntKind} {zs : List Int} {g : Nat} (h : Lib.TabIs Tryz.prog W name k zs) (hg : Tryz.prog.globalNamed name = some g) : Rd k W g 0 zs := fun i hi => by
  rw [Nat.zero_add]; exact h.cell hg i hi
theorem laid_one {W : World} {n : String} {d : DataW Unit} (hd : d.handleName?.isNone = true) (h : laidMetH Tryz.prog [(n, d)] W) : laidMet Tryz.prog [(n, d)] W := by
  have e : ([(n, d)] : List (String × DataW Unit)).filter (fun x => x.2.handleName?.isSome) = [] := by
    have h0 : d.handleName?.isSome = false := by cases hx : d.handleName? <;> simp_all
    simp [h0]
  unfold laidMetH at h
  rw [e] at h
  exact h
theorem tabs_of_laid {W : World} (h : laidMetH Tryz.prog Rows.rsaRawsRow.laid W) : Sh.Tabs W := by
  have h_f1 : Rd .u32 W 0 0 Sh.first1L := by
    have h1 := laidMetH.filter (fun x => x.1 == "chirograph/sha.first1") h
    rw [Tryz.lf_first1] at h1
    exact rd_tab (Lib.tabIs_of_head (rest := []) Tryz.g_first1 Tryz.gt_first1 Tryz.underlying115 Tryz.u32 Tryz.c32 Tryz.gc_first1 (laid_one rfl h1)) Tryz.g_first1
  have h_f256 : Rd .u32 W 1 0 Sh.first256L := by
    have h1 := laidMetH.filter (fun x => x.1 == "chirograph/sha.first256") h
    rw [Tryz.lf_first256] at h1
    exact rd_tab (Lib.tabIs_of_head (rest := []) Tryz.g_first256 Tryz.gt_first256 Tryz.underlying115 Tryz.u32 Tryz.c32 Tryz.gc_first256 (laid_one rfl h1)) Tryz.g_first256
  have h_f384 : Rd .u64 W 2 0 Sh.first384L := by
    have h1 := laidMetH.filter (fun x => x.1 == "chirograph/sha.first384") h
    rw [Tryz.lf_first384] at h1
    exact rd_tab (Lib.tabIs_of_head (rest := []) Tryz.g_first384 Tryz.gt_first384 Tryz.underlying80 Tryz.u64 Tryz.c64 Tryz.gc_first384 (laid_one rfl h1)) Tryz.g_first384
  have h_f512 : Rd .u64 W 3 0 Sh.first512L := by
    have h1 := laidMetH.filter (fun x => x.1 == "chirograph/sha.first512") h
    rw [Tryz.lf_first512] at h1
    exact rd_tab (Lib.tabIs_of_head (rest := []) Tryz.g_first512 Tryz.gt_first512 Tryz.underlying80 Tryz.u64 Tryz.c64 Tryz.gc_first512 (laid_one rfl h1)) Tryz.g_first512
  have h_a1 : Rd .u32 W 5 0 Sh.adds1L := by
    have h1 := laidMetH.filter (fun x => x.1 == "chirograph/sha.adds1") h
    rw [Tryz.lf_adds1] at h1
    exact rd_tab (Lib.tabIs_of_head (rest := []) Tryz.g_adds1 Tryz.gt_adds1 Tryz.underlying167 Tryz.u32 Tryz.c32 Tryz.gc_adds1 (laid_one rfl h1)) Tryz.g_adds1
  have h_a256 : Rd .u32 W 6 0 Sh.adds256L := by
    have h1 := laidMetH.filter (fun x => x.1 == "chirograph/sha.adds256") h
    rw [Tryz.lf_adds256] at h1
    exact rd_tab (Lib.tabIs_of_head (rest := []) Tryz.g_adds256 Tryz.gt_adds256 Tryz.underlying113 Tryz.u32 Tryz.c32 Tryz.gc_adds256 (laid_one rfl h1)) Tryz.g_adds256
  have h_a512 : Rd .u64 W 7 0 Sh.adds512L := by
    have h1 := laidMetH.filter (fun x => x.1 == "chirograph/sha.adds512") h
    rw [Tryz.lf_adds512] at h1
    exact rd_tab (Lib.tabIs_of_head (rest := []) Tryz.g_adds512 Tryz.gt_adds512 Tryz.underlying116 Tryz.u64 Tryz.c64 Tryz.gc_adds512 (laid_one rfl h1)) Tryz.g_adds512
  refine ⟨?_, h_f1, h_f256, h_f384, h_f512, h_a1, h_a256, h_a512⟩
  have := (cell_spot (h_a512 0 (by decide))).2
  simp at this
  omega
/-- A world for the witness: the settled one, the tables holding what their initialisers lay. -/
noncomputable def laidWorld (os : Os) : World :=
  { World.holding Tryz.prog os ⟨#[], #[], []⟩ with heap := ((((((((World.holding Tryz.prog os ⟨#[], #[], []⟩).heap.modify 0 fun | .cells _ t frozen => .cells (Sh.first1L.map (Value.int .u32)).toArray t frozen | o => o).modify 1 fun | .cells _ t frozen => .cells (Sh.first256L.map (Value.int .u32)).toArray t frozen | o => o).modify 2 fun | .cells _ t frozen => .cells (Sh.first384L.map (Value.int .u64)).toArray t frozen | o => o).modify 3 fun | .cells _ t frozen => .cells (Sh.first512L.map (Value.int .u64)).toArray t frozen | o => o).modify 5 fun | .cells _ t frozen => .cells (Sh.adds1L.map (Value.int .u32)).toArray t frozen | o => o).modify 6 fun | .cells _ t frozen => .cells (Sh.adds256L.map (Value.int .u32)).toArray t frozen | o => o).modify 7 fun | .cells _ t frozen => .cells (Sh.adds512L.map (Value.int .u64)).toArray t frozen | o => o) }
end Go.Proofs.YtndoibmpnhkmpaaGreatDoor
