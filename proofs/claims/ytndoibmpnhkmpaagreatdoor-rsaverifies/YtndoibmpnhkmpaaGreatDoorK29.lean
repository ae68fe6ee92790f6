/-
  Rsa: the law RsaRaws.
-/
import Derived.Laws.BytesArg
import Derived.Lib.Strings
import Derived.Test.YtndoibmpnhkmpaaGreatDoorK28
namespace Go.Proofs.YtndoibmpnhkmpaaGreatDoor
open Go.RowKit
set_option maxRecDepth 20000
theorem byt_len (y : List Int) (n : Nat) : (Nt.bytS y n).1.length ≤ 2048 := by
  unfold Nt.bytS
  split
  · simp
  · split
    · simp
    · split
      · simp
      · rw [Nt.beb_len]; omega
theorem raw_len {ns es sg : List Int} (_un : U32s ns) : (rawS ns es sg).1.length ≤ 2048 := by
  unfold rawS
  split
  · simp
  · split
    · simp
    · split
      · simp
      · exact byt_len _ _
theorem Lent_n {w : World} (X : List Int) (v : Value) (n : Nat) (hn : X.length = n) (hX : Sl .u32 w v X) (hl : n ≤ 1000) :
    Calls Tryz.prog 11 #[v] w fun e w' => ∃ b S, e = .returned (.slice (some ⟨b, 0, none⟩) n S) ∧ Nt.LentR w.heap.size w' (.slice (some ⟨b, 0, none⟩) n S) X ∧ Below w.heap.size w w' := by
  refine (Nt.Lent_any X v w hX (by omega)).mono ?_
  rintro e w' ⟨r, rfl, hL, hB⟩
  obtain ⟨b, S, rfl, h⟩ := id hL
  rw [hn] at hL ⊢
  exact ⟨b, _, rfl, hL, hB⟩
set_option maxHeartbeats 4000000 in
theorem RsaRaws_any {w : World} (a a' : Option Addr) (n c n' c' : Nat) (ns es : List Int) (hn : Sl .u32 w (.slice a n c) ns) (un : U32s ns) (ln : ns.length = n) (he : Sl .u32 w (.slice a' n' c') es) (ue : U32s es) (le : es.length = n')
    (b : Option Addr) (m d : Nat) (sg : List Int) (hs : Sl .u8 w (.slice b m d) sg) (us : U8s sg) (ls : sg.length = m) (hT : Sh.Tabs w) :
    Calls Tryz.prog 3 #[.agg #[.slice a n c, .slice a' n' c'], .slice b m d] w fun e w' => e = .returned (.bool true) ∧ Below w.heap.size w w' := by
  have HT : Hid (Sh.Tabs w) := hT
  have HX : Hid (Sl .u32 w (.slice a n c) ns ∧ U32s ns ∧ ns.length = n ∧ Sl .u32 w (.slice a' n' c') es ∧ U32s es ∧ es.length = n' ∧ Sl .u8 w (.slice b m d) sg ∧ U8s sg ∧ sg.length = m) := ⟨hn, un, ln, he, ue, le, hs, us, ls⟩
  clear hn un ln he ue le hs us ls hT
  go_enter Tryz.func3, Tryz.ntmps3
  go_upto_region 1 with (refine Sh.wpList_boxR rfl 24 (.tmp 0) rfl #[.slice a n c, .slice a' n' c'] rfl ?_)
  refine Sh.wp_gen (fun W => Blk 24 W w.heap.size [.slice a n c, .slice a' n' c'] ∧ Below w.heap.size w W) ⟨Blk.new _ w _, al1 _⟩ ?_
  rintro W2 ⟨hB, hBw⟩
  have hc0 : W2.cell? ⟨w.heap.size, 0, none⟩ = some (.slice a n c) := hB.cell 0
  have hc1 : W2.cell? ⟨w.heap.size, 1, none⟩ = some (.slice a' n' c') := hB.cell 1
  have H2 : Hid (Below w.heap.size w W2 ∧ ∀ W3, Below W2.heap.size W2 W3 → W3.cell? ⟨w.heap.size, 0, none⟩ = some (.slice a n c) ∧ W3.cell? ⟨w.heap.size, 1, none⟩ = some (.slice a' n' c') ∧ Below w.heap.size w W3 ∧ W3.rangeAt w.heap.size 0 [.slice a n c, .slice a' n' c']) := ⟨hBw, fun W3 h3 => ⟨(below_blk h3 hB.lt hB).cell 0, (below_blk h3 hB.lt hB).cell 1, below_via hBw h3 (Nat.le_refl _), (below_blk h3 hB.lt hB).whole⟩⟩
  clear hB hBw
  by_cases h1 : ¬ n ≤ 64
  · have d1 : decide ((64 : Int) < (n : Int)) = true := by simp; omega
    go_wp2_with (go_at_call 9; refine (live8_any (HT.out.below H2.out.1)).mono ?_; rintro e w3 ⟨rfl, hb3⟩; have H3 : Hid (Below w.heap.size w w3) := below_via H2.out.1 hb3 (Nat.le_refl _); clear hb3)
    go_ret
    exact ⟨rfl, H3.out⟩
  have h1 := Decidable.not_not.1 h1
  have d1 : decide ((64 : Int) < (n : Int)) = false := by simp; omega
  by_cases h2 : ¬ n' ≤ 600
  · have d2 : decide ((600 : Int) < (n' : Int)) = true := by simp; omega
    go_wp2_with (go_at_call 9; refine (live8_any (HT.out.below H2.out.1)).mono ?_; rintro e w3 ⟨rfl, hb3⟩; have H3 : Hid (Below w.heap.size w w3) := below_via H2.out.1 hb3 (Nat.le_refl _); clear hb3)
    go_ret
    exact ⟨rfl, H3.out⟩
  have h2 := Decidable.not_not.1 h2
  have d2 : decide ((600 : Int) < (n' : Int)) = false := by simp; omega
  by_cases h3 : ¬ m ≤ 8192
  · have d3 : decide ((8192 : Int) < (m : Int)) = true := by simp; omega
    go_wp2_with (go_at_call 9; refine (live8_any (HT.out.below H2.out.1)).mono ?_; rintro e w3 ⟨rfl, hb3⟩; have H3 : Hid (Below w.heap.size w w3) := below_via H2.out.1 hb3 (Nat.le_refl _); clear hb3)
    go_ret
    exact ⟨rfl, H3.out⟩
  have h3 := Decidable.not_not.1 h3
  have d3 : decide ((8192 : Int) < (m : Int)) = false := by simp; omega
  have four : Hid (∀ W3, Below W2.heap.size W2 W3 → W3.cell? ⟨w.heap.size, 0, none⟩ = some (.slice a n c) ∧ W3.cell? ⟨w.heap.size, 1, none⟩ = some (.slice a' n' c')) := fun W3 h3 => ⟨(H2.out.2 W3 h3).1, (H2.out.2 W3 h3).2.1⟩
  have HZ : Hid (n ≤ 64 ∧ n' ≤ 600 ∧ m ≤ 8192) := ⟨h1, h2, h3⟩
  go_wp2_with fail
  clear hc0 hc1 h1 h2 h3
  go_region_held3 (fun W => Below W2.heap.size W2 W ∧ W.cell? ⟨w.heap.size, 0, none⟩ = some (.slice a n c) ∧ W.cell? ⟨w.heap.size, 1, none⟩ = some (.slice a' n' c'))
    (first | assumption | exact (fun h => ⟨h, four.out _ h⟩) (Below.drew (Below.refl _ _)) | exact (fun h => ⟨h, four.out _ h⟩) (below_via (And.left (by assumption)) (by assumption) (Nat.le_refl _)))
    (first
    | (go_at_call 10; refine (Lent8_n sg _ _ m HX.out.2.2.2.2.2.2.2.2 (below_sl (below_via H2.out.1 (And.left (by assumption)) (Nat.le_refl _)) HX.out.2.2.2.2.2.2.1) (by have := HZ.out.2.2; omega)).mono ?_; rintro e w3 ⟨b3, S3, c3, rfl, hl3, _, _, _, hb3⟩)
    | (replace hl4 := hl4; go_at_call 11; refine (Lent_n es _ n' HX.out.2.2.2.2.2.1 (below_sl (below_via H2.out.1 (And.left (by assumption)) (Nat.le_refl _)) HX.out.2.2.2.1) (by have := HZ.out.2.1; omega)).mono ?_; rintro e w5 ⟨b5, c5, rfl, hl5, hb5⟩)
    | (go_at_call 11; refine (Lent_n ns _ n HX.out.2.2.1 (below_sl (below_via H2.out.1 (And.left (by assumption)) (Nat.le_refl _)) HX.out.1) (by have := HZ.out.1; omega)).mono ?_; rintro e w4 ⟨b4, c4, rfl, hl4, hb4⟩))
  have H5 : Hid (LentR8 W2.drew.heap.size w5 (.slice (some ⟨b3, 0, none⟩) m c3) sg ∧ Nt.LentR w3.heap.size w5 (.slice (some ⟨b4, 0, none⟩) n c4) ns ∧ Nt.LentR w4.heap.size w5 (.slice (some ⟨b5, 0, none⟩) n' c5) es ∧ Below W2.heap.size W2 w5) := ⟨(hl3.below hb4).below hb5, hl4.below hb5, hl5, And.left (by assumption)⟩
  have HRl : Hid ((rawS ns es sg).1.length ≤ 2048) := raw_len HX.out.2.1
  obtain ⟨Rl, hRl⟩ : ∃ Rl, (rawS ns es sg).1 = Rl := ⟨_, rfl⟩
  obtain ⟨E, hE⟩ : ∃ E, (rawS ns es sg).2 = E := ⟨_, rfl⟩
  have HRw := fun (x x' : Option Addr) (y y' z : Nat) (q : Option Addr) (W : World) (k1 : Sl .u32 W (.slice x n y) ns) (k2 : Sl .u32 W (.slice x' n' y') es) (k3 : Sl .u8 W (.slice q m z) sg) => Raw_any x x' n y n' y' ns es k1 HX.out.2.1 HX.out.2.2.1 k2 HX.out.2.2.2.2.1 HX.out.2.2.2.2.2.1 (by have := HZ.out.1; omega) HZ.out.2.1 q m z sg k3 HX.out.2.2.2.2.2.2.2.1 HX.out.2.2.2.2.2.2.2.2
  have HRr := fun (x x' : Option Addr) (y y' z : Nat) (q : Option Addr) (W : World) (k1 : Sl .u32 W (.slice x n y) ns) (k2 : Sl .u32 W (.slice x' n' y') es) (k3 : Sl .u8 W (.slice q m z) sg) => RRaw_any x x' n y n' y' ns es k1 HX.out.2.1 HX.out.2.2.1 k2 HX.out.2.2.2.2.1 HX.out.2.2.2.2.2.1 (by have := HZ.out.1; omega) HZ.out.2.1 q m z sg k3 HX.out.2.2.2.2.2.2.2.1 HX.out.2.2.2.2.2.2.2.2
  rw [hRl] at HRw HRr HRl
  rw [hE] at HRw HRr
  have HW : Hid (∀ (x x' : Option Addr) (y y' z : Nat) (q : Option Addr) (W : World), Sl .u32 W (.slice x n y) ns → Sl .u32 W (.slice x' n' y') es → Sl .u8 W (.slice q m z) sg → _) := HRw
  have HR : Hid (∀ (x x' : Option Addr) (y y' z : Nat) (q : Option Addr) (W : World), Sl .u32 W (.slice x n y) ns → Sl .u32 W (.slice x' n' y') es → Sl .u8 W (.slice q m z) sg → _) := HRr
  clear hRl hE HRw HRr hl3 hl4 hl5 hb3 hb4 hb5
  go_wp2_with fail
  refine (HW.out (some ⟨b4, 0, none⟩) (some ⟨b5, 0, none⟩) c4 c5 c3 (some ⟨b3, 0, none⟩) _ H5.out.2.1.sl H5.out.2.2.1.sl H5.out.1.sl).mono ?_
  rintro e w6 ⟨r6, rfl, hr6, hb6⟩
  obtain ⟨a6, c6, hf6⟩ := hr6.form
  subst hf6
  have hb26 := below_via H5.out.2.2.2 hb6 (Nat.le_refl _)
  have H6 : Hid (LentR8 W2.drew.heap.size w6 (.slice (some ⟨b3, 0, none⟩) m c3) sg ∧ Nt.LentR w3.heap.size w6 (.slice (some ⟨b4, 0, none⟩) n c4) ns ∧ Nt.LentR w4.heap.size w6 (.slice (some ⟨b5, 0, none⟩) n' c5) es ∧ Sl .u8 w6 (.slice a6 Rl.length c6) Rl ∧ Below W2.heap.size W2 w6 ∧ Below w.heap.size w w6 ∧ w6.rangeAt w.heap.size 0 [.slice a n c, .slice a' n' c']) := ⟨H5.out.1.below hb6, H5.out.2.1.below hb6, H5.out.2.2.1.below hb6, hr6, hb26, (H2.out.2 _ hb26).2.2.1, (H2.out.2 _ hb26).2.2.2⟩
  clear hr6 hb6 hb26 H5
  go_wp2_with (refine wpList_load_mid rfl 24 (.tmp 2) rfl w.heap.size 0 rfl [.slice a n c, .slice a' n' c'] _ H6.out.2.2.2.2.2.2 Tryz.underlying24 rfl (by kernel_rfl) ?_)
  refine (HR.out a a' c c' d b _ (below_sl H6.out.2.2.2.2.2.1 HX.out.1) (below_sl H6.out.2.2.2.2.2.1 HX.out.2.2.2.1) (below_sl H6.out.2.2.2.2.2.1 HX.out.2.2.2.2.2.2.1)).mono ?_
  rintro e w7 ⟨r7, rfl, hr7, hb7⟩
  obtain ⟨a7, c7, hf7⟩ := hr7.form
  subst hf7
  have H7 : Hid (LentR8 W2.drew.heap.size w7 (.slice (some ⟨b3, 0, none⟩) m c3) sg ∧ Nt.LentR w3.heap.size w7 (.slice (some ⟨b4, 0, none⟩) n c4) ns ∧ Nt.LentR w4.heap.size w7 (.slice (some ⟨b5, 0, none⟩) n' c5) es ∧ Sl .u8 w7 (.slice a6 Rl.length c6) Rl ∧ Sl .u8 w7 (.slice a7 Rl.length c7) Rl ∧ Below W2.heap.size W2 w7) := ⟨H6.out.1.below hb7, H6.out.2.1.below hb7, H6.out.2.2.1.below hb7, below_sl hb7 H6.out.2.2.2.1, hr7, below_via H6.out.2.2.2.2.1 hb7 (Nat.le_refl _)⟩
  clear hr7 hb7 H6 HW HR
  go_wp2_with (first
    | (go_at_call 15; refine (num8_any _ _).mono ?_; rintro e w' ⟨rfl, rfl⟩)
    | (go_at_call 14; refine (SameBytes_any _ _ Rl H7.out.2.2.2.1 H7.out.2.2.2.2.1 (by have := HRl.out; omega)).mono ?_; rintro e w8 ⟨rfl, hb8⟩; have H8 : Hid (LentR8 W2.drew.heap.size w8 (.slice (some ⟨b3, 0, none⟩) m c3) sg ∧ Nt.LentR w3.heap.size w8 (.slice (some ⟨b4, 0, none⟩) n c4) ns ∧ Nt.LentR w4.heap.size w8 (.slice (some ⟨b5, 0, none⟩) n' c5) es ∧ Below W2.heap.size W2 w8) := ⟨H7.out.1.below hb8, H7.out.2.1.below hb8, H7.out.2.2.1.below hb8, below_via H7.out.2.2.2.2.2 hb8 (Nat.le_refl _)⟩; clear hb8)
    | (go_at_call 16; refine (Kept8_any _ _ sg H8.out.1 (below_sl (H2.out.2 _ H8.out.2.2.2).2.2.1 HX.out.2.2.2.2.2.2.1) (by have := HX.out.2.2.2.2.2.2.2.2; have := HZ.out.2.2; omega)).mono ?_; rintro e w9 ⟨rfl, hb9⟩; have H9 : Hid (Nt.LentR w3.heap.size w9 (.slice (some ⟨b4, 0, none⟩) n c4) ns ∧ Nt.LentR w4.heap.size w9 (.slice (some ⟨b5, 0, none⟩) n' c5) es ∧ Below W2.heap.size W2 w9) := ⟨H8.out.2.1.below hb9, H8.out.2.2.1.below hb9, below_via H8.out.2.2.2 hb9 (Nat.le_refl _)⟩; clear hb9; have hk9 := (H2.out.2 _ H9.out.2.2).1)
    | (replace H10 := H10; go_at_call 17; refine (Nt.Kept_any _ _ es H10.out.1 (below_sl (H2.out.2 _ H10.out.2).2.2.1 HX.out.2.2.2.1) (by have := HX.out.2.2.2.2.2.1; have := HZ.out.2.1; omega)).mono ?_; rintro e w11 ⟨rfl, hb11⟩; have H11 : Hid (Below w.heap.size w w11) := (H2.out.2 _ (below_via H10.out.2 hb11 (Nat.le_refl _))).2.2.1; clear hb11 hk10)
    | (replace H9 := H9; go_at_call 17; refine (Nt.Kept_any _ _ ns H9.out.1 (below_sl (H2.out.2 _ H9.out.2.2).2.2.1 HX.out.1) (by have := HX.out.2.2.1; have := HZ.out.1; omega)).mono ?_; rintro e w10 ⟨rfl, hb10⟩; have H10 : Hid (Nt.LentR w4.heap.size w10 (.slice (some ⟨b5, 0, none⟩) n' c5) es ∧ Below W2.heap.size W2 w10) := ⟨H9.out.2.1.below hb10, below_via H9.out.2.2 hb10 (Nat.le_refl _)⟩; clear hb10 hk9; have hk10 := (H2.out.2 _ H10.out.2).2.1)
    | (go_at_call 9; refine (live8_any (HT.out.below H11.out)).mono ?_; rintro e w12 ⟨rfl, hb12⟩; have H12 : Hid (Below w.heap.size w w12) := below_via H11.out hb12 (Nat.le_refl _); clear hb12))
  go_ret
  exact ⟨rfl, H12.out⟩
end Go.Proofs.YtndoibmpnhkmpaaGreatDoor
/-
  Rsa: whether two rows of bytes are the same (bytes.Equal; the reference's SameBytes), whatever they are.
-/
namespace Go.Proofs.YtndoibmpnhkmpaaGreatDoor
open Go.RowKit
set_option maxRecDepth 20000
theorem u8_toNat {x : Int} (h : U8 x) : ((UInt8.ofNat x.toNat).toNat : Int) = x := by
  have := h.1; have := h.2
  simp; omega
theorem st_inj {X Y : List Int} (hX : U8s X) (hY : U8s Y) (h : strOfNums X = strOfNums Y) : X = Y := by
  have e := congrArg (fun s => s.data.toList.map (fun b => (b.toNat : Int))) h
  simp only [strOfNums_data, List.map_map] at e
  have f : ∀ Z : List Int, U8s Z → Z.map ((fun b : UInt8 => (b.toNat : Int)) ∘ fun n => UInt8.ofNat n.toNat) = Z := by
    intro Z hZ
    induction Z with
    | nil => rfl
    | cons z Z ih =>
      rw [List.map_cons, ih (fun x hx => hZ x (List.mem_cons_of_mem _ hx))]
      congr 1
      exact u8_toNat (hZ z (List.mem_cons_self ..))
  rw [f X hX, f Y hY] at e
  exact e
theorem st_beq (X Y : List Int) (hX : U8s X) (hY : U8s Y) : ((strOfNums X).toList == (strOfNums Y).toList) = decide (X = Y) := by
  rw [Bool.eq_iff_iff, beq_iff_eq, decide_eq_true_eq]
  constructor
  · intro h
    refine st_inj hX hY ?_
    apply ByteArray.ext
    rw [Lib.toList_data, Lib.toList_data] at h
    exact Array.toList_inj.1 h
  · intro h; rw [h]

theorem conv_str {w : World} {a : Option Addr} {n c : Nat} {X : List Int} (h : Sl .u8 w (.slice a n c) X) : Sem.run Tryz.prog (convert 25 9 (.slice a n c)) w = .ok (.string (strOfNums X)) w := by
  obtain ⟨a', c', he, _, h⟩ := h
  cases he
  cases a with
  | none =>
    rcases h with h | ⟨b, off, hb, _⟩
    · subst h; exact run_convert_bytes_nil w _ _ Tryz.und8 Tryz.e8 _ c _ Tryz.str
    · cases hb
  | some x =>
    rcases h with h | ⟨b, off, hb, _, hr⟩
    · subst h
      obtain ⟨b, off, sp⟩ := x
      have : Sem.run Tryz.prog (convert 25 9 (.slice (some ⟨b, off, sp⟩) 0 c)) w = .ok (.string (strOfNums [])) w := by
        rw [run_convert_bytes_string w _ _ _ _ 0 c Tryz.und8 Tryz.e8 Tryz.str]
        simp [strOfNums]
        rfl
      exact this
    · cases hb
      exact run_convert_bytes_arg w _ _ Tryz.und8 Tryz.e8 b off _ c X rfl (fun i hi => hr i hi) _ Tryz.str
set_option maxHeartbeats 1000000 in
theorem BEq_any {w : World} (a a' : Option Addr) (n c n' c' : Nat) (X Y : List Int) (hX : Sl .u8 w (.slice a n c) X) (hY : Sl .u8 w (.slice a' n' c') Y) (uX : U8s X) (uY : U8s Y) (q : Bool) (hq : decide (X = Y) = q) :
    Calls Tryz.prog 43 #[.slice a n c, .slice a' n' c'] w fun e w' => e = .returned (.bool q) ∧ w = w' := by
  have h1 := conv_str hX
  have h2 := conv_str hY
  have h3 := st_beq X Y uX uY
  rw [hq] at h3
  clear hX hY uX uY hq
  go_enter Tryz.func43, Tryz.ntmps43
  go_wp2
  go_ret
  exact ⟨rfl, rfl⟩
set_option maxHeartbeats 2000000 in
theorem Same8_any {w : World} (v u : Value) (X Y : List Int) (hx : Sl .u8 w v X) (hy : Sl .u8 w u Y) (lx : X.length ≤ 1152921504606846976) (ly : Y.length ≤ 1152921504606846976) (q : Bool) (hq : decide (X = Y) = q) :
    Calls Tryz.prog 14 #[v, u] w fun e w' => e = .returned (.bool q) ∧ Below w.heap.size w w' := by
  obtain ⟨a1, c1, rfl, hc1, h1⟩ := hx
  obtain ⟨a2, c2, rfl, hc2, h2⟩ := hy
  by_cases hl : X.length = Y.length
  · by_cases hne : X = []
    · have hYn : Y = [] := List.eq_nil_of_length_eq_zero (by rw [← hl, hne]; rfl)
      subst hne; subst hYn
      have HQ : Hid (q = true) := by show _ = _; rw [← hq]; rfl
      clear hq
      simp only [List.length_nil]
      go_enter Tryz.func14, Tryz.ntmps14
      go_wp2
      go_loop [5] (fun i => i = .int .i64 0) (fun _ => 0)
      case atStart => rfl
      case round =>
        subst hrel
        go_wp2
        go_ret
        exact ⟨by rw [HQ.out]; rfl, Below.refl _ _⟩
    · rcases h1 with h1 | ⟨b1, o1, rfl, hb1, hr1⟩
      · exact absurd h1 hne
      rcases h2 with h2 | ⟨b2, o2, rfl, hb2, hr2⟩
      · exact absurd (List.eq_nil_of_length_eq_zero (by rw [hl, h2]; rfl)) hne
      obtain ⟨n, hn⟩ : ∃ n, X.length = n := ⟨_, rfl⟩
      rw [hn] at hl
      rw [hn] at lx hc1 ⊢
      rw [← hl] at hc2 ⊢
      have HN : Hid (X.length = n ∧ Y.length = n) := ⟨hn, hl.symm⟩
      have HQ : Hid (decide (X = Y) = q) := hq
      clear hn hne hl ly hq
      go_enter Tryz.func14, Tryz.ntmps14
      go_wp2
      go_loopw [5] (fun i wr => ∃ k : Nat, k ≤ n ∧ i = .int .i64 k ∧ Below w.heap.size w wr ∧ Hid (X.take k = Y.take k)) (fun i _ => n - (intOf i).toNat)
      case atStart => exact ⟨0, Nat.zero_le _, rfl, Below.refl _ _, rfl⟩
      case round =>
        obtain ⟨k, hk, rfl, hB, hT⟩ := hrel
        by_cases hkn : k < n
        · obtain ⟨x, hx⟩ : ∃ x, X.getD k 0 = x := ⟨_, rfl⟩
          obtain ⟨y, hy⟩ : ∃ y, Y.getD k 0 = y := ⟨_, rfl⟩
          have hcx : wr.cell? ⟨b1, o1 + k, none⟩ = some (.int .u8 x) := by rw [← hx]; exact (below_rd hB hb1 hr1) k (by rw [HN.out.1]; exact hkn)
          have hcy : wr.cell? ⟨b2, o2 + k, none⟩ = some (.int .u8 y) := by rw [← hy]; exact (below_rd hB hb2 hr2) k (by rw [HN.out.2]; exact hkn)
          have HB : Hid (Below w.heap.size w wr) := hB
          have HXY : Hid (X.getD k 0 = x ∧ Y.getD k 0 = y) := ⟨hx, hy⟩
          clear hx hy hB hr1 hr2
          by_cases hxy : x = y
          · have HT2 : Hid (X.take (k + 1) = Y.take (k + 1)) := by
              show _ = _
              have e1 := HXY.out.1; have e2 := HXY.out.2
              have l1 := HN.out.1; have l2 := HN.out.2
              rw [List.take_succ_eq_append_getElem (by omega), List.take_succ_eq_append_getElem (by omega), hT.out]
              congr 2
              simp [List.getD, List.getElem?_eq_getElem (show k < X.length by omega)] at e1
              simp [List.getD, List.getElem?_eq_getElem (show k < Y.length by omega)] at e2
              rw [e1, e2, hxy]
            subst hxy
            clear hT
            go_wp2
            go_quiet (fail)
            go_wp2
            go_roundw
            case rel => exact ⟨k + 1, by omega, by go_num, HB.out.trans ⟨rfl, rfl, rfl, Nat.le_refl _, fun _ _ => rfl⟩, HT2⟩
            case measure => simp [intOf]; omega
          · have hd : (x != y) = true := by simpa using hxy
            have HF : Hid (q = false) := by
              show _ = _
              rw [← HQ.out]
              simp
              intro h
              apply hxy
              rw [← HXY.out.1, ← HXY.out.2, h]
            clear hxy hT
            go_wp2
            go_quiet (fail)
            go_wp2
            go_ret
            exact ⟨by rw [HF.out]; rfl, HB.out.trans ⟨rfl, rfl, rfl, Nat.le_refl _, fun _ _ => rfl⟩⟩
        · have HB : Hid (Below w.heap.size w wr) := hB
          have HF : Hid (q = true) := by
            show _ = _
            rw [← HQ.out]
            have l1 := HN.out.1; have l2 := HN.out.2
            have hT := hT.out
            rw [List.take_of_length_le (by omega), List.take_of_length_le (by omega)] at hT
            simp [hT]
          clear hB hT
          go_wp2
          go_ret
          exact ⟨by rw [HF.out]; rfl, HB.out⟩
  · have hd : ((X.length : Int) != (Y.length : Int)) = true := by simp; omega
    have HF : Hid (q = false) := by
      show _ = _
      rw [← hq]; simp; intro h; apply hl; rw [h]
    clear hq hl
    go_enter Tryz.func14, Tryz.ntmps14
    go_wp2
    go_ret
    exact ⟨by rw [HF.out]; rfl, Below.refl _ _⟩
end Go.Proofs.YtndoibmpnhkmpaaGreatDoor
/-
  Der: the reference's Head.
-/
namespace Go.Proofs.YtndoibmpnhkmpaaGreatDoor
open Go.RowKit
theorem tp_cons (n k : Nat) : ∀ i, i ≤ k → tp n (k + 1) (i + 1) = gr n (k + 1) :: tp n k i
  | 0, _ => rfl
  | i + 1, h => by
    show tp n (k + 1) (i + 1) ++ [gr n (k + 1 - (i + 1))] = gr n (k + 1) :: (tp n k i ++ [gr n (k - i)])
    rw [tp_cons n k i (by omega), show k + 1 - (i + 1) = k - i by omega]
    rfl
theorem sev_cons (n k : Nat) : sev (k + 1) n = gr n (k + 1) :: sev k n := by
  unfold sev
  rw [tp_cons n k k (Nat.le_refl _)]
  rfl
theorem tb_cons (n k : Nat) : ∀ i, i ≤ k → tb n (k + 1) (i + 1) = by8 n k :: tb n k i
  | 0, _ => rfl
  | i + 1, h => by
    show tb n (k + 1) (i + 1) ++ [by8 n (k + 1 - 1 - (i + 1))] = by8 n k :: (tb n k i ++ [by8 n (k - 1 - i)])
    rw [tb_cons n k i (by omega), show k + 1 - 1 - (i + 1) = k - 1 - i by omega]
    rfl
/-- What the reference has of a number's groups after j rounds. -/
def rs (n : Nat) : Nat → List Int
  | 0 => []
  | j + 1 => sev j n
theorem rs_len (n j : Nat) : (rs n j).length = j := by
  cases j with
  | zero => rfl
  | succ j => show (sev j n).length = _; unfold sev; simp [tp_len]
theorem rs_next (n j : Nat) : rs n (j + 1) = ((n / 128 ^ j % 128 + (if j = 0 then 0 else 128) : Nat) : Int) :: rs n j := by
  cases j with
  | zero => show sev 0 n = _; unfold sev; simp [tp, rs]
  | succ j => show sev (j + 1) n = _ :: sev j n; rw [sev_cons]; simp [gr]
theorem Row.lt {k : IntKind} {e : TypeId} {B : Nat} {w : World} {v : Value} {xs : List Int} (h : Row k e B w v xs) : ∀ b n c, v = .slice (some ⟨b, 0, none⟩) n c → b < w.heap.size := by
  intro b n c hv
  rcases h with ⟨rfl, _⟩ | ⟨b', S, rfl, _, hA, _⟩
  · simp at hv
  · simp only [Value.slice.injEq, Option.some.injEq, Addr.mk.injEq, and_true] at hv
    obtain ⟨rfl, _⟩ := hv
    exact (Array.getElem?_eq_some_iff.1 hA).1
theorem Grew.keep {k k2 : IntKind} {e e2 : TypeId} {C : Nat} {w w' : World} {v u : Value} {ys zs : List Int} (h : Grew k e w w' v ys) (hu : Row k2 e2 C w u zs) (hC : ∀ b n c, v = .slice (some ⟨b, 0, none⟩) n c → b < C) : Row k2 e2 C w' u zs := by
  rcases h with h | ⟨b, n, S, rfl, hA, hU, _, _⟩
  · exact hu.below h
  · rcases hu with hu | ⟨b', S', rfl, hB', hA', h2⟩
    · exact .inl hu
    · exact .inr ⟨b', S', rfl, hB', hU.arr hA' (by have := hC b _ _ rfl; omega), h2⟩
abbrev el (c t : Int) (cons : Bool) : Array Value := #[.int .i64 0, .int .i64 c, .int .i64 t, .bool cons, .slice none 0 0]
set_option maxRecDepth 20000 in
set_option maxHeartbeats 4000000 in
theorem RHead_short {w : World} (c : Int) (cons : Bool) (t k n l : Nat) (h0 : 0 ≤ c) (h3 : c ≤ 3) (hk : t / 128 ^ k < 128) (hk1 : ∀ j, j < k → 128 ≤ t / 128 ^ j) (ht : t ≤ 268435455) (hl : n / 256 ^ l = 0) (hl1 : ∀ j, j < l → 0 < n / 256 ^ j) (hl8 : l ≤ 7) (hn : n ≤ 16777216) (hlt : t < 31) :
    Calls Tryz.prog 126 #[.agg (el c t cons), .int .i64 n] w fun e w' => ∃ r, e = .returned r ∧ Row .u8 5 w.heap.size w' r (headB c cons t k ++ lenB n l) ∧ Below w.heap.size w w' := by
  have HK : Hid ((t / 128 ^ k < 128 ∧ ∀ j, j < k → 128 ≤ t / 128 ^ j) ∧ (n / 256 ^ l = 0 ∧ ∀ j, j < l → 0 < n / 256 ^ j)) := ⟨⟨hk, hk1⟩, ⟨hl, hl1⟩⟩
  clear hk hk1 hl hl1
  have hc : c = 0 ∨ c = 1 ∨ c = 2 ∨ c = 3 := by omega
  · have HB : Hid (headB c cons t k = [frst c cons + t]) := by show _ = _; unfold headB; rw [if_pos hlt]
    have w1 : IntKind.u8.wrap (t : Int) = (t : Int) := wrapU8 _ (by omega) (by omega)
    have l1 : (t : Int) < 31 := by omega
    obtain ⟨y, hy⟩ : ∃ y, frst c cons + t = y := ⟨_, rfl⟩
    rw [hy] at HB
    rcases hc with rfl | rfl | rfl | rfl <;> cases cons
    all_goals
      have hf := hy
      unfold frst at hf
      simp at hf
      have hfw : IntKind.u8.wrap y = y := wrapU8 _ (by omega) (by omega)
      go_enter Tryz.func126, Tryz.ntmps126
      go_upto_region 16 with (fail)
      refine wp_gen (fun W => Row .u8 5 w.heap.size W (.slice (some ⟨w.heap.size + 1, 0, none⟩) 1 1) [y] ∧ Below w.heap.size w W) ⟨Row.arr (S := [y]) (arr_nw (by simp) rfl) (by omega) (by simp [maxLen]), al2' (al1 _)⟩ ?_
      rintro W ⟨hrX, hbX⟩
      obtain ⟨X, hX⟩ : ∃ X, [y] = X := ⟨_, rfl⟩
      have HX : Hid (Row .u8 5 w.heap.size W (.slice (some ⟨w.heap.size + 1, 0, none⟩) 1 1) X ∧ Below w.heap.size w W ∧ X.length ≤ 20) := ⟨hX ▸ hrX, hbX, by rw [← hX]; simp⟩
      have HXe : Hid (headB _ _ t k = X) := HB.out.trans hX
      clear hrX hbX hX
      by_cases hs : n < 128
      · have HLn : Hid (lenB n l = [(n : Int)]) := by show _ = _; unfold lenB; rw [if_pos hs]
        have s1 : (n : Int) < 128 := by omega
        have s2 : IntKind.u8.wrap (n : Int) = (n : Int) := wrapU8 _ (by omega) (by omega)
        go_wp2_with (at_builtin; refine wpList_ap rfl (.tmp 53) (.tmp 56) 25 25 rfl .u8 5 1 Tryz.und8 Tryz.info8 (by decide) w.heap.size _ X rfl (HX.out.1.alloc _) _ [(n : Int)] rfl (src_sl Tryz.und8 (new1 _)) (by have := HX.out.2.2; simp; omega) (by have := HX.out.2.1.size; simp; omega) ?_; intro v4 w4 hr4 hg4)
        have hb4 : Below w.heap.size w w4 := (al2' HX.out.2.1).trans (hg4.below (HX.out.1.alloc _) (by have := HX.out.2.1.size; simp; omega))
        go_ret
        exact ⟨_, rfl, by rw [HLn.out, HXe.out]; exact hr4, hb4⟩
      · have HLn : Hid (lenB n l = (128 + (l : Int)) :: tb n l l) := by show _ = _; unfold lenB; rw [if_neg hs]
        have s1 : ¬ (n : Int) < 128 := by omega
        go_wp2_with fail
        go_loopw [1, 10] (fun nv bv wr => ∃ (j q : Nat) (b0 : Value), b0 = bv ∧ nv = .int .i64 q ∧ j ≤ l ∧ n / 256 ^ j = q ∧ q ≤ n ∧ Row .u8 5 W.heap.size wr b0 (tb n j j) ∧ Below W.heap.size W wr) (fun nv _ _ => (intOf nv).toNat)
        case atStart => exact ⟨0, n, _, rfl, rfl, by omega, by simp, Nat.le_refl _, Row.nil _ _ _ _, Below.refl _ _⟩
        case round =>
          obtain ⟨j, q, b0, rfl, rfl, hj, hq, hqn, hr5, hb5⟩ := hrel
          have H5 : Hid (Row .u8 5 W.heap.size wr b0 (tb n j j) ∧ Below W.heap.size W wr ∧ n / 256 ^ j = q) := ⟨hr5, hb5, hq⟩
          clear hb5 hq
          by_cases hlt2 : j < l
          · have g1 : (0 : Int) < (q : Int) := by have := HK.out.2.2 j hlt2; rw [H5.out.2.2] at this; omega
            obtain ⟨z, hz⟩ : ∃ z : Int, (q : Int) % 256 = z := ⟨_, rfl⟩
            have z2 : IntKind.u8.wrap z = z := wrapU8 _ (by omega) (by omega)
            have HZ : Hid (by8 n j = z ∧ (q : Int) % 256 = z) := ⟨by unfold by8; rw [H5.out.2.2]; omega, hz⟩
            have hq2 : q / 256 < q := by omega
            clear hr5
            go_wp2_with (at_builtin; refine wpList_ap rfl (.tmp 65) (.tmp 66) 25 25 rfl .u8 5 1 Tryz.und8 Tryz.info8 (by decide) W.heap.size _ [z] rfl (Row.arr (S := [z]) (arr_nw rfl rfl) H5.out.2.1.size (by simp [maxLen])) _ (tb n j j) rfl (src_sl Tryz.und8 (H5.out.1.alloc _).sl) (by have := tb_len n j j; simp; omega) (by have := H5.out.2.1.size; simp; omega) ?_; intro v6 w6 hr6 hg6)
            have hb6 : Below W.heap.size W w6 := (al2' H5.out.2.1).trans (hg6.below (Row.arr (S := [z]) (arr_nw rfl rfl) H5.out.2.1.size (by simp [maxLen])) (by have := H5.out.2.1.size; simp; omega))
            have H6 : Hid (Row .u8 5 W.heap.size w6 v6 (tb n (j + 1) (j + 1)) ∧ Below W.heap.size W w6) := ⟨by rw [tb_cons n j j (Nat.le_refl _), HZ.out.1]; exact hr6, hb6⟩
            clear hr6 hg6 hb6
            go_roundw
            case rel => exact ⟨j + 1, q / 256, _, rfl, by go_num, by omega, by rw [Nat.pow_succ, ← Nat.div_div_eq_div_mul, H5.out.2.2], by omega, H6.out.1, H6.out.2⟩
            case measure => simp [intOf]; omega
          · obtain rfl : j = l := by omega
            have g1 : ¬ (0 : Int) < (q : Int) := by have := HK.out.2.1; rw [H5.out.2.2] at this; omega
            obtain ⟨a5, c5, hv5⟩ := hr5.ne
            rw [tb_len] at hv5
            subst hv5
            have s3 : IntKind.u8.wrap (128 + (j : Int)) = 128 + (j : Int) := wrapU8 _ (by omega) (by omega)
            clear hr5
            go_wp2_with (first
              | (at_builtin; refine wpList_ap rfl (.tmp 68) (.tmp 73) 25 25 rfl .u8 5 1 Tryz.und8 Tryz.info8 (by decide) w.heap.size _ X rfl ((HX.out.1.below H5.out.2.1).alloc _) _ [128 + (j : Int)] rfl (src_sl Tryz.und8 (new1 _)) (by have := HX.out.2.2; simp; omega) (by have := HX.out.2.1.size; have := H5.out.2.1.size; simp; omega) ?_; intro v7 w7 hr7 hg7; have H7 : Hid (Row .u8 5 w.heap.size w7 v7 (X ++ [128 + (j : Int)]) ∧ Row .u8 5 W.heap.size w7 (.slice a5 j c5) (tb n j j) ∧ Below w.heap.size w w7) := ⟨hr7, hg7.keep (H5.out.1.alloc _) HX.out.1.lt, ((HX.out.2.1.trans (H5.out.2.1.mono HX.out.2.1.size)).trans ((al1 _).mono (by have := HX.out.2.1.size; have := H5.out.2.1.size; omega))).trans (hg7.below ((HX.out.1.below H5.out.2.1).alloc _) (by have := HX.out.2.1.size; have := H5.out.2.1.size; simp; omega))⟩; clear hr7 hg7)
              | (at_builtin; refine wpList_ap rfl (.tmp 74) (.tmp 75) 25 25 rfl .u8 5 1 Tryz.und8 Tryz.info8 (by decide) w.heap.size _ (X ++ [128 + (j : Int)]) rfl H7.out.1 _ (tb n j j) rfl (src_sl Tryz.und8 H7.out.2.1.sl) (by have := HX.out.2.2; have := tb_len n j j; simp; omega) H7.out.2.2.size ?_; intro v8 w8 hr8 hg8))
            have hb8 : Below w.heap.size w w8 := H7.out.2.2.trans (hg8.below H7.out.1 H7.out.2.2.size)
            go_ret
            refine ⟨_, rfl, ?_, hb8⟩
            rw [HLn.out, HXe.out]
            rw [List.append_assoc] at hr8
            exact hr8
end Go.Proofs.YtndoibmpnhkmpaaGreatDoor
/-
  Der: the reference's Head at a long tag.
-/
namespace Go.Proofs.YtndoibmpnhkmpaaGreatDoor
open Go.RowKit
theorem sev_pos {t k : Nat} (hk1 : ∀ j, j < k → 128 ≤ t / 128 ^ j) (ht : 0 < t) : ∀ j, j ≤ k → 0 < t / 128 ^ j := by
  intro j hj
  cases j with
  | zero => simpa using ht
  | succ j =>
    have := hk1 j (by omega)
    rw [Nat.pow_succ, ← Nat.div_div_eq_div_mul]
    omega
theorem sev_end {t k : Nat} (hk : t / 128 ^ k < 128) : t / 128 ^ (k + 1) = 0 := by
  rw [Nat.pow_succ, ← Nat.div_div_eq_div_mul]
  exact Nat.div_eq_of_lt hk
set_option maxRecDepth 20000 in
set_option maxHeartbeats 4000000 in
theorem RHead_long {w : World} (c : Int) (cons : Bool) (t k n l : Nat) (h0 : 0 ≤ c) (h3 : c ≤ 3) (hk : t / 128 ^ k < 128) (hk1 : ∀ j, j < k → 128 ≤ t / 128 ^ j) (hk8 : k ≤ 8) (ht : t ≤ 268435455) (hl : n / 256 ^ l = 0) (hl1 : ∀ j, j < l → 0 < n / 256 ^ j) (hl8 : l ≤ 7) (hn : n ≤ 16777216) (hlt : ¬ t < 31) :
    Calls Tryz.prog 126 #[.agg (el c t cons), .int .i64 n] w fun e w' => ∃ r, e = .returned r ∧ Row .u8 5 w.heap.size w' r (headB c cons t k ++ lenB n l) ∧ Below w.heap.size w w' := by
  have HK : Hid ((t / 128 ^ k < 128 ∧ ∀ j, j < k → 128 ≤ t / 128 ^ j) ∧ (n / 256 ^ l = 0 ∧ ∀ j, j < l → 0 < n / 256 ^ j)) := ⟨⟨hk, hk1⟩, ⟨hl, hl1⟩⟩
  clear hk hk1 hl hl1
  have hc : c = 0 ∨ c = 1 ∨ c = 2 ∨ c = 3 := by omega
  have HB : Hid (headB c cons t k = (frst c cons + 31) :: rs t (k + 1)) := by show _ = _; unfold headB; rw [if_neg hlt]; rfl
  obtain ⟨X, hX⟩ : ∃ X, headB c cons t k = X := ⟨_, rfl⟩
  have HX0 : Hid (headB c cons t k = X ∧ X = (frst c cons + 31) :: rs t (k + 1)) := ⟨hX, by rw [← hX, HB.out]⟩
  clear hX HB
  have HP : Hid ((∀ j, j ≤ k → 0 < t / 128 ^ j) ∧ t / 128 ^ (k + 1) = 0) := ⟨sev_pos HK.out.1.2 (by omega), sev_end HK.out.1.1⟩
  have l1 : ¬ (t : Int) < 31 := by omega
  rcases hc with rfl | rfl | rfl | rfl <;> cases cons
  all_goals
    go_enter Tryz.func126, Tryz.ntmps126
    go_wp2_with fail
    go_loopw [7, 8] (fun bv vv wr => ∃ (j q : Nat) (b0 : Value), b0 = bv ∧ vv = .int .i64 q ∧ j ≤ k + 1 ∧ t / 128 ^ j = q ∧ q ≤ t ∧ Row .u8 5 w.heap.size wr b0 (rs t j) ∧ Below w.heap.size w wr) (fun _ vv _ => (intOf vv).toNat)
    case atStart => exact ⟨0, t, _, rfl, rfl, by omega, by simp, Nat.le_refl _, Row.nil _ _ _ _, al1 _⟩
    case round =>
      obtain ⟨j, q, b0, rfl, rfl, hj, hq, hqt, hr5, hb5⟩ := hrel
      obtain ⟨a5, c5, hv5⟩ := hr5.ne
      rw [rs_len] at hv5
      subst hv5
      have H5 : Hid (Row .u8 5 w.heap.size wr (.slice a5 j c5) (rs t j) ∧ Below w.heap.size w wr ∧ t / 128 ^ j = q) := ⟨hr5, hb5, hq⟩
      clear hb5 hq hr5
      by_cases hjk : j ≤ k
      · have g1 : (0 : Int) < (q : Int) := by have := HP.out.1 j hjk; rw [H5.out.2.2] at this; omega
        have hq2 : q / 128 < q := by omega
        obtain ⟨z, hz⟩ : ∃ z : Int, (q : Int) % 128 = z := ⟨_, rfl⟩
        have z2 : IntKind.u8.wrap z = z := wrapU8 _ (by omega) (by omega)
        have z3 : IntKind.u8.wrap (z + 128) = z + 128 := wrapU8 _ (by omega) (by omega)
        by_cases hj0 : j = 0
        · have HZ : Hid (rs t (j + 1) = z :: rs t j ∧ (q : Int) % 128 = z) := ⟨by rw [rs_next, if_pos hj0, H5.out.2.2]; congr 1 <;> omega, hz⟩
          have j0 : ¬ (0 : Int) < (j : Int) := by omega
          go_wp2_with (at_builtin; refine wpList_ap rfl (.tmp 43) (.tmp 44) 25 25 rfl .u8 5 1 Tryz.und8 Tryz.info8 (by decide) w.heap.size _ [z] rfl (Row.arr (S := [z]) (arr_nw rfl rfl) H5.out.2.1.size (by simp [maxLen])) _ (rs t j) rfl (src_sl Tryz.und8 (H5.out.1.alloc _).sl) (by have := rs_len t j; simp; omega) (by have := H5.out.2.1.size; simp; omega) ?_; intro v6 w6 hr6 hg6)
          have hb6 : Below w.heap.size w w6 := (al2' H5.out.2.1).trans (hg6.below (Row.arr (S := [z]) (arr_nw rfl rfl) H5.out.2.1.size (by simp [maxLen])) (by have := H5.out.2.1.size; simp; omega))
          have H6 : Hid (Row .u8 5 w.heap.size w6 v6 (rs t (j + 1)) ∧ Below w.heap.size w w6) := ⟨by rw [HZ.out.1]; exact hr6, hb6⟩
          clear hr6 hg6 hb6
          go_roundw
          case rel => exact ⟨j + 1, q / 128, _, rfl, by go_num, by omega, by rw [Nat.pow_succ, ← Nat.div_div_eq_div_mul, H5.out.2.2], by omega, H6.out.1, H6.out.2⟩
          case measure => simp [intOf]; omega
        · have HZ : Hid (rs t (j + 1) = (z + 128) :: rs t j ∧ (q : Int) % 128 = z) := ⟨by rw [rs_next, if_neg hj0, H5.out.2.2]; congr 1 <;> omega, hz⟩
          have j0 : (0 : Int) < (j : Int) := by omega
          go_wp2_with (at_builtin; refine wpList_ap rfl (.tmp 43) (.tmp 44) 25 25 rfl .u8 5 1 Tryz.und8 Tryz.info8 (by decide) w.heap.size _ [z + 128] rfl (Row.arr (S := [z + 128]) (arr_nw rfl rfl) H5.out.2.1.size (by simp [maxLen])) _ (rs t j) rfl (src_sl Tryz.und8 (H5.out.1.alloc _).sl) (by have := rs_len t j; simp; omega) (by have := H5.out.2.1.size; simp; omega) ?_; intro v6 w6 hr6 hg6)
          have hb6 : Below w.heap.size w w6 := (al2' H5.out.2.1).trans (hg6.below (Row.arr (S := [z + 128]) (arr_nw rfl rfl) H5.out.2.1.size (by simp [maxLen])) (by have := H5.out.2.1.size; simp; omega))
          have H6 : Hid (Row .u8 5 w.heap.size w6 v6 (rs t (j + 1)) ∧ Below w.heap.size w w6) := ⟨by rw [HZ.out.1]; exact hr6, hb6⟩
          clear hr6 hg6 hb6
          go_roundw
          case rel => exact ⟨j + 1, q / 128, _, rfl, by go_num, by omega, by rw [Nat.pow_succ, ← Nat.div_div_eq_div_mul, H5.out.2.2], by omega, H6.out.1, H6.out.2⟩
          case measure => simp [intOf]; omega
      · obtain rfl : j = k + 1 := by omega
        have g1 : ¬ (0 : Int) < (q : Int) := by have := HP.out.2; rw [H5.out.2.2] at this; omega
        go_upto_region 16 with ((at_builtin; refine wpList_ap rfl (.tmp 48) (.tmp 49) 25 25 rfl .u8 5 1 Tryz.und8 Tryz.info8 (by decide) w.heap.size _ [_] rfl (Row.arr (S := [_]) (arr_nw rfl rfl) H5.out.2.1.size (by simp [maxLen])) _ (rs t (k + 1)) rfl (src_sl Tryz.und8 (H5.out.1.alloc _).sl) (by have := rs_len t (k + 1); simp; omega) (by have := H5.out.2.1.size; simp; omega) ?_; intro v3 W hr3 hg3))
        have hb3 : Below w.heap.size w W := (al2' H5.out.2.1).trans (hg3.below (Row.arr (S := [_]) (arr_nw rfl rfl) H5.out.2.1.size (by simp [maxLen])) (by have := H5.out.2.1.size; simp; omega))
        have HX : Hid (Row .u8 5 w.heap.size W v3 X ∧ Below w.heap.size w W ∧ X.length ≤ 20) := ⟨by rw [HX0.out.2]; exact hr3, hb3, by rw [HX0.out.2, List.length_cons, rs_len]; omega⟩
        have HXe : Hid (headB _ _ t k = X) := HX0.out.1
        clear hr3 hg3 hb3
        by_cases hs : n < 128
        · have HLn : Hid (lenB n l = [(n : Int)]) := by show _ = _; unfold lenB; rw [if_pos hs]
          have s1 : (n : Int) < 128 := by omega
          have s2 : IntKind.u8.wrap (n : Int) = (n : Int) := wrapU8 _ (by omega) (by omega)
          go_wp2_with (at_builtin; refine wpList_ap rfl (.tmp 53) (.tmp 56) 25 25 rfl .u8 5 1 Tryz.und8 Tryz.info8 (by decide) w.heap.size _ X rfl (HX.out.1.alloc _) _ [(n : Int)] rfl (src_sl Tryz.und8 (new1 _)) (by have := HX.out.2.2; simp; omega) (by have := HX.out.2.1.size; simp; omega) ?_; intro v4 w4 hr4 hg4)
          have hb4 : Below w.heap.size w w4 := (al2' HX.out.2.1).trans (hg4.below (HX.out.1.alloc _) (by have := HX.out.2.1.size; simp; omega))
          go_ret
          exact ⟨_, rfl, by rw [HLn.out, HXe.out]; exact hr4, hb4⟩
        · have HLn : Hid (lenB n l = (128 + (l : Int)) :: tb n l l) := by show _ = _; unfold lenB; rw [if_neg hs]
          have s1 : ¬ (n : Int) < 128 := by omega
          go_wp2_with fail
          go_loopw [1, 10] (fun nv bv wr => ∃ (j q : Nat) (b0 : Value), b0 = bv ∧ nv = .int .i64 q ∧ j ≤ l ∧ n / 256 ^ j = q ∧ q ≤ n ∧ Row .u8 5 W.heap.size wr b0 (tb n j j) ∧ Below W.heap.size W wr) (fun nv _ _ => (intOf nv).toNat)
          case atStart => exact ⟨0, n, _, rfl, rfl, by omega, by simp, Nat.le_refl _, Row.nil _ _ _ _, Below.refl _ _⟩
          case round =>
            obtain ⟨j, q, b0, rfl, rfl, hj, hq, hqn, hr5, hb5⟩ := hrel
            have H5 : Hid (Row .u8 5 W.heap.size wr b0 (tb n j j) ∧ Below W.heap.size W wr ∧ n / 256 ^ j = q) := ⟨hr5, hb5, hq⟩
            clear hb5 hq
            by_cases hlt2 : j < l
            · have g1 : (0 : Int) < (q : Int) := by have := HK.out.2.2 j hlt2; rw [H5.out.2.2] at this; omega
              obtain ⟨z, hz⟩ : ∃ z : Int, (q : Int) % 256 = z := ⟨_, rfl⟩
              have z2 : IntKind.u8.wrap z = z := wrapU8 _ (by omega) (by omega)
              have HZ : Hid (by8 n j = z ∧ (q : Int) % 256 = z) := ⟨by unfold by8; rw [H5.out.2.2]; omega, hz⟩
              have hq2 : q / 256 < q := by omega
              clear hr5
              go_wp2_with (at_builtin; refine wpList_ap rfl (.tmp 65) (.tmp 66) 25 25 rfl .u8 5 1 Tryz.und8 Tryz.info8 (by decide) W.heap.size _ [z] rfl (Row.arr (S := [z]) (arr_nw rfl rfl) H5.out.2.1.size (by simp [maxLen])) _ (tb n j j) rfl (src_sl Tryz.und8 (H5.out.1.alloc _).sl) (by have := tb_len n j j; simp; omega) (by have := H5.out.2.1.size; simp; omega) ?_; intro v6 w6 hr6 hg6)
              have hb6 : Below W.heap.size W w6 := (al2' H5.out.2.1).trans (hg6.below (Row.arr (S := [z]) (arr_nw rfl rfl) H5.out.2.1.size (by simp [maxLen])) (by have := H5.out.2.1.size; simp; omega))
              have H6 : Hid (Row .u8 5 W.heap.size w6 v6 (tb n (j + 1) (j + 1)) ∧ Below W.heap.size W w6) := ⟨by rw [tb_cons n j j (Nat.le_refl _), HZ.out.1]; exact hr6, hb6⟩
              clear hr6 hg6 hb6
              go_roundw
              case rel => exact ⟨j + 1, q / 256, _, rfl, by go_num, by omega, by rw [Nat.pow_succ, ← Nat.div_div_eq_div_mul, H5.out.2.2], by omega, H6.out.1, H6.out.2⟩
              case measure => simp [intOf]; omega
            · obtain rfl : j = l := by omega
              have g1 : ¬ (0 : Int) < (q : Int) := by have := HK.out.2.1; rw [H5.out.2.2] at this; omega
              obtain ⟨a5, c5, hv5⟩ := hr5.ne
              rw [tb_len] at hv5
              subst hv5
              have s3 : IntKind.u8.wrap (128 + (j : Int)) = 128 + (j : Int) := wrapU8 _ (by omega) (by omega)
              clear hr5
              go_wp2_with (first
                | (at_builtin; refine wpList_ap rfl (.tmp 68) (.tmp 73) 25 25 rfl .u8 5 1 Tryz.und8 Tryz.info8 (by decide) w.heap.size _ X rfl ((HX.out.1.below H5.out.2.1).alloc _) _ [128 + (j : Int)] rfl (src_sl Tryz.und8 (new1 _)) (by have := HX.out.2.2; simp; omega) (by have := HX.out.2.1.size; have := H5.out.2.1.size; simp; omega) ?_; intro v7 w7 hr7 hg7; have H7 : Hid (Row .u8 5 w.heap.size w7 v7 (X ++ [128 + (j : Int)]) ∧ Row .u8 5 W.heap.size w7 (.slice a5 j c5) (tb n j j) ∧ Below w.heap.size w w7) := ⟨hr7, hg7.keep (H5.out.1.alloc _) HX.out.1.lt, ((HX.out.2.1.trans (H5.out.2.1.mono HX.out.2.1.size)).trans ((al1 _).mono (by have := HX.out.2.1.size; have := H5.out.2.1.size; omega))).trans (hg7.below ((HX.out.1.below H5.out.2.1).alloc _) (by have := HX.out.2.1.size; have := H5.out.2.1.size; simp; omega))⟩; clear hr7 hg7)
                | (at_builtin; refine wpList_ap rfl (.tmp 74) (.tmp 75) 25 25 rfl .u8 5 1 Tryz.und8 Tryz.info8 (by decide) w.heap.size _ (X ++ [128 + (j : Int)]) rfl H7.out.1 _ (tb n j j) rfl (src_sl Tryz.und8 H7.out.2.1.sl) (by have := HX.out.2.2; have := tb_len n j j; simp; omega) H7.out.2.2.size ?_; intro v8 w8 hr8 hg8))
              have hb8 : Below w.heap.size w w8 := H7.out.2.2.trans (hg8.below H7.out.1 H7.out.2.2.size)
              go_ret
              refine ⟨_, rfl, ?_, hb8⟩
              rw [HLn.out, HXe.out]
              rw [List.append_assoc] at hr8
              exact hr8
end Go.Proofs.YtndoibmpnhkmpaaGreatDoor
