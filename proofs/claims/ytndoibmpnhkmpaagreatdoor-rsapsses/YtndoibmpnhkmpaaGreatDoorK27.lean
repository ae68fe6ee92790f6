/-
  Rsa: what a signature says (Raw), by the program and by the reference.
-/
import Derived.Laws.BytesArg
import Derived.Lib.Strings
import Derived.Test.YtndoibmpnhkmpaaGreatDoorK26
namespace Go.Proofs.YtndoibmpnhkmpaaGreatDoor
open Go.RowKit
set_option maxRecDepth 20000
/-- What Raw tells: the bytes, the error. -/
def rawS (ns es sg : List Int) : List Int × Int :=
  if keyOk ns es = false then ([], 80) else if sg.length ≠ keySz ns es then ([], 112) else if val ns ≤ Nt.bv sg.reverse then ([], 112)
  else Nt.bytS (lim (Nt.bv sg.reverse ^ (val es).toNat % val ns).toNat) (keySz ns es)
theorem bits_len {X : List Int} (uX : U32s X) : bts X ≤ 32 * X.length := Nt.bitLen_val uX
theorem key_facts {ns es : List Int} (un : U32s ns) (h : keyOk ns es = true) : ns.length ≤ 256 ∧ es.length ≤ 256 ∧ 0 < val ns ∧ keySz ns es = (bts ns + 7) / 8 ∧ keySz ns es ≤ 1024 ∧ 512 ≤ bts ns := by
  have e : keySz ns es = (bts ns + 7) / 8 := by unfold keySz; rw [h]; rfl
  have hb := bits_len un
  unfold keyOk modOk expOk at h
  simp at h
  obtain ⟨⟨h1, h2, _⟩, h3, _⟩ := h
  refine ⟨h1, h3, ?_, e, by rw [e]; omega, h2⟩
  have h0 := val_nonneg un
  rcases Int.lt_or_eq_of_le h0 with h | h
  · exact h
  · exfalso; unfold bts at h2; rw [← h] at h2; revert h2; decide
theorem u8_rev {sg : List Int} (us : U8s sg) : Nt.U8s sg.reverse := fun x hx => us x (List.mem_reverse.1 hx)
theorem bv_len {sg : List Int} (us : U8s sg) (h : sg.length ≤ 2048) : (lim (Nt.bv sg.reverse).toNat).length ≤ 512 := by
  refine lim_len_le ?_
  have h1 := Nt.bv_bound (u8_rev us)
  rw [Int.toNat_of_nonneg h1.1]
  refine Int.lt_of_lt_of_le h1.2 ?_
  rw [List.length_reverse]
  have e : ∀ k : Nat, (4294967296 : Int) ^ k = 256 ^ (4 * k) := fun k => by rw [Int.pow_mul]; rfl
  rw [e]
  obtain ⟨t, ht⟩ : ∃ t, 4 * 512 = t := ⟨_, rfl⟩
  rw [ht]
  have h2 : (256 : Nat) ^ sg.length ≤ 256 ^ t := Nat.pow_le_pow_right (by decide) (by omega)
  have h3 := Int.ofNat_le.2 h2
  rw [Int.natCast_pow, Int.natCast_pow] at h3
  exact h3
theorem exp_ok {ns es : List Int} (un : U32s ns) (h : keyOk ns es = true) {sg : List Int} (us : U8s sg) (hs : sg.length ≤ 2048) :
    Nt.expS (lim (Nt.bv sg.reverse).toNat) es ns = (lim (Nt.bv sg.reverse ^ (val es).toNat % val ns).toNat, 0) := by
  have h1 := key_facts un h
  have h2 := bv_len us hs
  unfold Nt.expS Nt.expLong
  rw [if_neg (by omega), if_neg (by omega), val_lim, Int.toNat_of_nonneg (Nt.bv_bound (u8_rev us)).1]
theorem from_ok {sg : List Int} (hs : sg.length ≤ 2048) : Nt.fromS sg = (lim (Nt.bv sg.reverse).toNat, 0) := by
  unfold Nt.fromS; rw [if_neg (by omega)]
set_option maxHeartbeats 4000000 in
theorem Raw_any {w : World} (a a' : Option Addr) (n c n' c' : Nat) (ns es : List Int) (hn : Sl .u32 w (.slice a n c) ns) (un : U32s ns) (ln : ns.length = n) (he : Sl .u32 w (.slice a' n' c') es) (ue : U32s es) (le : es.length = n') (hb : n ≤ 600) (hb' : n' ≤ 600)
    (b : Option Addr) (m d : Nat) (sg : List Int) (hs : Sl .u8 w (.slice b m d) sg) (us : U8s sg) (ls : sg.length = m) :
    Calls Tryz.prog 12 #[.agg #[.slice a n c, .slice a' n' c'], .slice b m d] w fun e w' => ∃ r, e = .returned (.tuple #[r, .int .i64 (rawS ns es sg).2]) ∧ Sl .u8 w' r (rawS ns es sg).1 ∧ Below w.heap.size w w' := by
  have HC0 : Hid (∀ W, Below w.heap.size w W → Calls Tryz.prog 29 #[.agg #[.slice a n c, .slice a' n' c']] W fun e w'' => e = .returned (.int .i64 (if keyOk ns es then 0 else 80)) ∧ Below W.heap.size W w'') := fun W hw => Check_any a a' n c n' c' ns es (below_sl hw hn) un ln (below_sl hw he) ue le (by omega) (by omega)
  have HS : Hid (∀ W, Below w.heap.size w W → Calls Tryz.prog 30 #[.agg #[.slice a n c, .slice a' n' c']] W fun e w'' => e = .returned (.int .i64 (keySz ns es)) ∧ Below W.heap.size W w'') := fun W hw => Size_key a a' n c n' c' ns es (below_sl hw hn) un ln (below_sl hw he) ue le (by omega) (by omega) (bts_le un (by omega))
  have HFb : Hid (m ≤ 2048 → ∀ W, Below w.heap.size w W → Calls Tryz.prog 31 #[.slice b m d] W fun e w'' => ∃ r, e = .returned (.tuple #[r, .int .i64 0]) ∧ Sl .u32 w'' r (lim (Nt.bv sg.reverse).toNat) ∧ Below W.heap.size W w'') := fun hm W hw => by
    refine (Nt.FromBytes_any sg _ W (below_sl hw hs) us).mono ?_
    rintro e w'' ⟨⟨r, rfl, ho⟩, hB⟩
    rw [from_ok (by omega)] at ho ⊢
    exact ⟨r, rfl, ho.sl, hB⟩
  have HCm : Hid (m ≤ 2048 → ∀ W r, Below w.heap.size w W → Sl .u32 W r (lim (Nt.bv sg.reverse).toNat) → Calls Tryz.prog 32 #[r, .slice a n c] W fun e w'' => e = .returned (.int .i64 (Nt.cmpI (Nt.bv sg.reverse) (val ns))) ∧ Below W.heap.size W w'') := fun hm W r hw hr => by
    refine (Nt.Cmp_any _ ns _ _ W hr (below_sl hw hn) (lim_u32 _) un (by have := bv_len us (by omega); omega) (by omega)).mono ?_
    rintro e w'' ⟨rfl, hB⟩
    rw [val_lim, Int.toNat_of_nonneg (Nt.bv_bound (u8_rev us)).1]
    exact ⟨rfl, hB⟩
  have HEx : Hid (m ≤ 2048 → keyOk ns es = true → ∀ W r, Below w.heap.size w W → Sl .u32 W r (lim (Nt.bv sg.reverse).toNat) → Calls Tryz.prog 33 #[r, .slice a' n' c', .slice a n c] W fun e w'' => ∃ q, e = .returned (.tuple #[q, .int .i64 0]) ∧ Sl .u32 w'' q (lim (Nt.bv sg.reverse ^ (val es).toNat % val ns).toNat) ∧ Below W.heap.size W w'') := fun hm hk W r hw hr => by
    refine (Nt.ExpMod_any _ es ns _ _ _ W hr (below_sl hw he) (below_sl hw hn) (lim_u32 _) ue un (.inr Nt.long_ok)).mono ?_
    rintro e w'' ⟨⟨q, rfl, ho⟩, hB⟩
    rw [exp_ok un hk us (by omega)] at ho ⊢
    exact ⟨q, rfl, ho.sl, hB⟩
  have HBy : Hid (∀ W q, keySz ns es ≤ 1024 → Sl .u32 W q (lim (Nt.bv sg.reverse ^ (val es).toNat % val ns).toNat) → Calls Tryz.prog 34 #[q, .int .i64 (keySz ns es)] W fun e w'' => ∃ t, e = .returned (.tuple #[t, .int .i64 (Nt.bytS (lim (Nt.bv sg.reverse ^ (val es).toNat % val ns).toNat) (keySz ns es)).2]) ∧ Sl .u8 w'' t (Nt.bytS (lim (Nt.bv sg.reverse ^ (val es).toNat % val ns).toNat) (keySz ns es)).1 ∧ Below W.heap.size W w'') := fun W q hk hq => by
    refine (Nt.Bytes_any _ _ _ W hq (lim_u32 _) (by omega) (by omega)).mono ?_
    rintro e w'' ⟨⟨t, rfl, ho, _⟩, hB⟩
    exact ⟨t, rfl, ho.sl, hB⟩
  have HK : Hid (keyOk ns es = true → keySz ns es ≤ 1024) := fun h => (key_facts un h).2.2.2.2.1
  have HR : Hid (rawS ns es sg = if keyOk ns es = false then ([], 80) else if m ≠ keySz ns es then ([], 112) else if val ns ≤ Nt.bv sg.reverse then ([], 112)
    else Nt.bytS (lim (Nt.bv sg.reverse ^ (val es).toNat % val ns).toNat) (keySz ns es)) := by show _ = _; rw [← ls]; rfl
  obtain ⟨RS, hRS⟩ : ∃ RS, rawS ns es sg = RS := ⟨_, rfl⟩
  obtain ⟨Z, hZ⟩ : ∃ Z, keySz ns es = Z := ⟨_, rfl⟩
  obtain ⟨x, hx⟩ : ∃ x, Nt.bv sg.reverse = x := ⟨_, rfl⟩
  rw [hx] at HFb HCm HEx HBy HR
  obtain ⟨y, hy⟩ : ∃ y, lim (x ^ (val es).toNat % val ns).toNat = y := ⟨_, rfl⟩
  rw [hy] at HEx HBy HR
  rw [hRS] at HR ⊢
  rw [hZ] at HS HBy HK HR
  obtain ⟨u, hu⟩ : ∃ u, lim x.toNat = u := ⟨_, rfl⟩
  rw [hu] at HFb HCm HEx
  obtain ⟨N, hN⟩ : ∃ N, val ns = N := ⟨_, rfl⟩
  rw [hN] at HCm HR
  clear hn un ln he ue le hs us ls hRS hZ hx hy hu hN
  go_enter Tryz.func12, Tryz.ntmps12
  go_upto_region 1 with (refine Sh.wpList_boxR rfl 24 (.tmp 0) rfl #[.slice a n c, .slice a' n' c'] rfl ?_)
  refine Sh.wp_gen (fun W => Blk 24 W w.heap.size [.slice a n c, .slice a' n' c'] ∧ Below w.heap.size w W) ⟨Blk.new _ w _, al1 _⟩ ?_
  rintro W2 ⟨hB, hBw⟩
  have H2 : Hid (Below w.heap.size w W2 ∧ W2.rangeAt w.heap.size 0 [.slice a n c, .slice a' n' c'] ∧ ∀ W3, Below W2.heap.size W2 W3 → W3.rangeAt w.heap.size 0 [.slice a n c, .slice a' n' c'] ∧ W3.cell? ⟨w.heap.size, 0, none⟩ = some (.slice a n c) ∧ W3.cell? ⟨w.heap.size, 1, none⟩ = some (.slice a' n' c') ∧ Below w.heap.size w W3) := ⟨hBw, hB.whole, fun W3 h3 => ⟨(below_blk h3 hB.lt hB).whole, (below_blk h3 hB.lt hB).cell 0, (below_blk h3 hB.lt hB).cell 1, below_via hBw h3 (Nat.le_refl _)⟩⟩
  clear hB hBw
  cases hk : keyOk ns es with
  | false =>
    have HC : Hid (∀ W, Below w.heap.size w W → Calls Tryz.prog 29 #[.agg #[.slice a n c, .slice a' n' c']] W fun e w'' => e = .returned (.int .i64 80) ∧ Below W.heap.size W w'') := fun W hw => (HC0.out W hw).mono fun _ _ h => ⟨by rw [h.1, hk]; rfl, h.2⟩
    have HQ : Hid (RS = ([], 80)) := by show _ = _; rw [HR.out, if_pos hk]
    clear hk HC0
    go_wp2_with (first
      | (refine wpList_load_mid rfl 24 (.tmp 2) rfl w.heap.size 0 rfl [.slice a n c, .slice a' n' c'] _ H2.out.2.1 Tryz.underlying24 rfl (by kernel_rfl) ?_)
      | (go_at_call 29; refine (HC.out _ H2.out.1).mono ?_; rintro e w3 ⟨rfl, hb3⟩; have H3 : Hid (Below w.heap.size w w3) := (H2.out.2.2 w3 hb3).2.2.2; clear hb3))
    go_ret2
    exact ⟨_, by rw [HQ.out]; rfl, by rw [HQ.out]; exact nil_sl _, H3.out⟩
  | true =>
    have HC : Hid (∀ W, Below w.heap.size w W → Calls Tryz.prog 29 #[.agg #[.slice a n c, .slice a' n' c']] W fun e w'' => e = .returned (.int .i64 0) ∧ Below W.heap.size W w'') := fun W hw => (HC0.out W hw).mono fun _ _ h => ⟨by rw [h.1, hk]; rfl, h.2⟩
    have hZ := HK.out hk
    have HQ : Hid (RS = if m ≠ Z then ([], 112) else if N ≤ x then ([], 112) else Nt.bytS y Z) := by show _ = _; rw [HR.out, if_neg (by rw [hk]; decide)]
    have HEx2 := fun hm => HEx.out hm hk
    have HX : Hid (m ≤ 2048 → ∀ W r, Below w.heap.size w W → Sl .u32 W r u → Calls Tryz.prog 33 #[r, .slice a' n' c', .slice a n c] W fun e w'' => ∃ q, e = .returned (.tuple #[q, .int .i64 0]) ∧ Sl .u32 w'' q y ∧ Below W.heap.size W w'') := HEx2
    clear hk HC0 HEx HEx2 HK HR
    go_upto_region 5 with (first
      | (refine wpList_load_mid rfl 24 (.tmp 2) rfl w.heap.size 0 rfl [.slice a n c, .slice a' n' c'] _ H2.out.2.1 Tryz.underlying24 rfl (by kernel_rfl) ?_)
      | (go_at_call 29; refine (HC.out _ H2.out.1).mono ?_; rintro e w3 ⟨rfl, hb3⟩; have H3 : Hid (Below w.heap.size w w3 ∧ w3.rangeAt w.heap.size 0 [.slice a n c, .slice a' n' c'] ∧ Below W2.heap.size W2 w3) := ⟨(H2.out.2.2 w3 hb3).2.2.2, (H2.out.2.2 w3 hb3).1, hb3⟩; clear hb3)
      | (refine wpList_load_mid rfl 24 (.tmp 2) rfl w.heap.size 0 rfl [.slice a n c, .slice a' n' c'] _ H3.out.2.1 Tryz.underlying24 rfl (by kernel_rfl) ?_)
      | (go_at_call 30; refine (HS.out _ H3.out.1).mono ?_; rintro e w4 ⟨rfl, hb4⟩; have H4 : Hid (Below W2.heap.size W2 w4) := below_via H3.out.2.2 hb4 (Nat.le_refl _); clear hb4))
    by_cases hm : m = Z
    · have d1 : ((m : Int) != (Z : Int)) = false := by simp [hm]
      have hmb : m ≤ 2048 := by omega
      have HQ2 : Hid (RS = if N ≤ x then ([], 112) else Nt.bytS y Z) := by show _ = _; rw [HQ.out, if_neg (by simpa using hm)]
      have HZ : Hid (Z ≤ 1024) := hZ
      clear hm HQ hZ
      by_cases hlt : N ≤ x
      · have HC2 : Hid (∃ cc : Int, Nt.cmpI x N = cc ∧ decide (cc ≥ 0) = true) := ⟨_, rfl, by unfold Nt.cmpI; rw [if_neg (by omega)]; split <;> decide⟩
        obtain ⟨cc, hcc, dd⟩ := HC2.out
        rw [hcc] at HCm
        have HQ3 : Hid (RS = ([], 112)) := by show _ = _; rw [HQ2.out, if_pos hlt]
        clear hcc HC2 HQ2 hlt
        go_wp2_with (first
          | (go_at_call 31; refine (HFb.out hmb _ (H2.out.2.2 _ H4.out).2.2.2).mono ?_; rintro e w5 ⟨r5, rfl, hr5, hb5⟩; have hc5 := (H2.out.2.2 w5 (below_via H4.out hb5 (Nat.le_refl _))).2.1; have H5 : Hid (Sl .u32 w5 r5 u ∧ Below W2.heap.size W2 w5) := ⟨hr5, below_via H4.out hb5 (Nat.le_refl _)⟩; clear hr5 hb5)
          | (go_at_call 32; refine (HCm.out hmb _ _ (H2.out.2.2 _ H5.out.2).2.2.2 H5.out.1).mono ?_; rintro e w6 ⟨rfl, hb6⟩; have H6 : Hid (Below w.heap.size w w6) := (H2.out.2.2 _ (below_via H5.out.2 hb6 (Nat.le_refl _))).2.2.2; clear hb6))
        go_ret2
        exact ⟨_, by rw [HQ3.out]; rfl, by rw [HQ3.out]; exact nil_sl _, H6.out⟩
      · have HC2 : Hid (Nt.cmpI x N = -1) := by show _ = _; unfold Nt.cmpI; rw [if_pos (by omega)]
        rw [HC2.out] at HCm
        have HQ3 : Hid (RS = Nt.bytS y Z) := by show _ = _; rw [HQ2.out, if_neg hlt]
        clear HC2 HQ2 hlt
        obtain ⟨bs, ee, hbs⟩ : ∃ bs ee, Nt.bytS y Z = (bs, ee) := ⟨_, _, rfl⟩
        rw [hbs] at HBy HQ3
        clear hbs
        go_wp2_with (first
          | (go_at_call 31; refine (HFb.out hmb _ (H2.out.2.2 _ H4.out).2.2.2).mono ?_; rintro e w5 ⟨r5, rfl, hr5, hb5⟩; have hc5 := (H2.out.2.2 w5 (below_via H4.out hb5 (Nat.le_refl _))).2.1; have H5 : Hid (Sl .u32 w5 r5 u ∧ Below W2.heap.size W2 w5) := ⟨hr5, below_via H4.out hb5 (Nat.le_refl _)⟩; clear hr5 hb5)
          | (go_at_call 32; refine (HCm.out hmb _ _ (H2.out.2.2 _ H5.out.2).2.2.2 H5.out.1).mono ?_; rintro e w6 ⟨rfl, hb6⟩; have hc6 := (H2.out.2.2 w6 (below_via H5.out.2 hb6 (Nat.le_refl _))).2.1; have he6 := (H2.out.2.2 w6 (below_via H5.out.2 hb6 (Nat.le_refl _))).2.2.1; have H6 : Hid (Sl .u32 w6 r5 u ∧ Below W2.heap.size W2 w6) := ⟨below_sl hb6 H5.out.1, below_via H5.out.2 hb6 (Nat.le_refl _)⟩; clear hb6 hc5)
          | (go_at_call 33; refine (HX.out hmb _ _ (H2.out.2.2 _ H6.out.2).2.2.2 H6.out.1).mono ?_; rintro e w7 ⟨r7, rfl, hr7, hb7⟩; have H7 : Hid (Sl .u32 w7 r7 y ∧ Below W2.heap.size W2 w7) := ⟨hr7, below_via H6.out.2 hb7 (Nat.le_refl _)⟩; clear hr7 hb7 hc6 he6)
          | (go_at_call 34; refine (HBy.out _ _ HZ.out H7.out.1).mono ?_; rintro e w8 ⟨r8, rfl, hr8, hb8⟩; have H8 : Hid (Sl .u8 w8 r8 bs ∧ Below w.heap.size w w8) := ⟨hr8, (H2.out.2.2 _ (below_via H7.out.2 hb8 (Nat.le_refl _))).2.2.2⟩; clear hr8 hb8))
        go_ret2
        exact ⟨_, by rw [HQ3.out]; rfl, by rw [HQ3.out]; exact H8.out.1, H8.out.2⟩
    · have d1 : ((m : Int) != (Z : Int)) = true := by simp; omega
      have HQ2 : Hid (RS = ([], 112)) := by show _ = _; rw [HQ.out, if_pos hm]
      clear hm HQ
      go_wp2
      go_ret2
      exact ⟨_, by rw [HQ2.out]; rfl, by rw [HQ2.out]; exact nil_sl _, (H2.out.2.2 _ H4.out).2.2.2⟩
end Go.Proofs.YtndoibmpnhkmpaaGreatDoor
/-
  Rsa: the reference's Raw.
-/
namespace Go.Proofs.YtndoibmpnhkmpaaGreatDoor
open Go.RowKit
set_option maxRecDepth 20000
set_option maxHeartbeats 4000000 in
theorem RRaw_any {w : World} (a a' : Option Addr) (n c n' c' : Nat) (ns es : List Int) (hn : Sl .u32 w (.slice a n c) ns) (un : U32s ns) (ln : ns.length = n) (he : Sl .u32 w (.slice a' n' c') es) (ue : U32s es) (le : es.length = n') (hb : n ≤ 600) (hb' : n' ≤ 600)
    (b : Option Addr) (m d : Nat) (sg : List Int) (hs : Sl .u8 w (.slice b m d) sg) (us : U8s sg) (ls : sg.length = m) :
    Calls Tryz.prog 13 #[.agg #[.slice a n c, .slice a' n' c'], .slice b m d] w fun e w' => ∃ r, e = .returned (.tuple #[r, .int .i64 (rawS ns es sg).2]) ∧ Sl .u8 w' r (rawS ns es sg).1 ∧ Below w.heap.size w w' := by
  have HC0 : Hid (∀ W, Below w.heap.size w W → Calls Tryz.prog 35 #[.agg #[.slice a n c, .slice a' n' c']] W fun e w'' => e = .returned (.int .i64 (if keyOk ns es then 0 else 80)) ∧ Below W.heap.size W w'') := fun W hw => RCheck_any a a' n c n' c' ns es (below_sl hw hn) un ln (below_sl hw he) ue le (by omega) (by omega)
  have HS : Hid (∀ W, Below w.heap.size w W → Calls Tryz.prog 36 #[.agg #[.slice a n c, .slice a' n' c']] W fun e w'' => e = .returned (.int .i64 (keySz ns es)) ∧ Below W.heap.size W w'') := fun W hw => RSize_any a a' n c n' c' ns es (below_sl hw hn) un ln (below_sl hw he) ue le (by omega) (by omega) (bts_le un (by omega))
  have HFb : Hid (m ≤ 2048 → ∀ W, Below w.heap.size w W → Calls Tryz.prog 37 #[.slice b m d] W fun e w'' => ∃ r, e = .returned (.tuple #[r, .int .i64 0]) ∧ Sl .u32 w'' r (lim (Nt.bv sg.reverse).toNat) ∧ Below W.heap.size W w'') := fun hm W hw => by
    refine (Nt.RFromBytes_any sg _ W (below_sl hw hs) us).mono ?_
    rintro e w'' ⟨⟨r, rfl, ho⟩, hB⟩
    rw [from_ok (by omega)] at ho ⊢
    exact ⟨r, rfl, ho, hB⟩
  have HCm : Hid (m ≤ 2048 → ∀ W r, Below w.heap.size w W → Sl .u32 W r (lim (Nt.bv sg.reverse).toNat) → Calls Tryz.prog 38 #[r, .slice a n c] W fun e w'' => e = .returned (.int .i64 (Nt.cmpI (Nt.bv sg.reverse) (val ns))) ∧ Below W.heap.size W w'') := fun hm W r hw hr => by
    refine (Nt.RCmp_any _ _ _ ns hr (below_sl hw hn) (lim_u32 _) un (by have := bv_len us (by omega); omega) (by omega) _ rfl).mono ?_
    rintro e w'' ⟨rfl, hB⟩
    rw [val_lim, Int.toNat_of_nonneg (Nt.bv_bound (u8_rev us)).1]
    exact ⟨rfl, hB⟩
  have HEx : Hid (m ≤ 2048 → keyOk ns es = true → ∀ W r, Below w.heap.size w W → Sl .u32 W r (lim (Nt.bv sg.reverse).toNat) → Calls Tryz.prog 39 #[r, .slice a' n' c', .slice a n c] W fun e w'' => ∃ q, e = .returned (.tuple #[q, .int .i64 0]) ∧ Sl .u32 w'' q (lim (Nt.bv sg.reverse ^ (val es).toNat % val ns).toNat) ∧ Below W.heap.size W w'') := fun hm hk W r hw hr => by
    refine (Nt.RExpMod_any _ es ns _ _ _ W hr (below_sl hw he) (below_sl hw hn) (lim_u32 _) ue un).mono ?_
    rintro e w'' ⟨⟨q, rfl, ho⟩, hB⟩
    rw [exp_ok un hk us (by omega)] at ho ⊢
    exact ⟨q, rfl, ho, hB⟩
  have HBy : Hid (∀ W q, keySz ns es ≤ 1024 → Sl .u32 W q (lim (Nt.bv sg.reverse ^ (val es).toNat % val ns).toNat) → Calls Tryz.prog 40 #[q, .int .i64 (keySz ns es)] W fun e w'' => ∃ t, e = .returned (.tuple #[t, .int .i64 (Nt.bytS (lim (Nt.bv sg.reverse ^ (val es).toNat % val ns).toNat) (keySz ns es)).2]) ∧ Sl .u8 w'' t (Nt.bytS (lim (Nt.bv sg.reverse ^ (val es).toNat % val ns).toNat) (keySz ns es)).1 ∧ Below W.heap.size W w'') := fun W q hk hq => by
    refine (Nt.RBytes_any _ _ _ W hq (lim_u32 _) (by omega) (by omega)).mono ?_
    rintro e w'' ⟨⟨t, rfl, ho⟩, hB⟩
    exact ⟨t, rfl, ho, hB⟩
  have HK : Hid (keyOk ns es = true → keySz ns es ≤ 1024) := fun h => (key_facts un h).2.2.2.2.1
  have HR : Hid (rawS ns es sg = if keyOk ns es = false then ([], 80) else if m ≠ keySz ns es then ([], 112) else if val ns ≤ Nt.bv sg.reverse then ([], 112)
    else Nt.bytS (lim (Nt.bv sg.reverse ^ (val es).toNat % val ns).toNat) (keySz ns es)) := by show _ = _; rw [← ls]; rfl
  obtain ⟨RS, hRS⟩ : ∃ RS, rawS ns es sg = RS := ⟨_, rfl⟩
  obtain ⟨Z, hZ⟩ : ∃ Z, keySz ns es = Z := ⟨_, rfl⟩
  obtain ⟨x, hx⟩ : ∃ x, Nt.bv sg.reverse = x := ⟨_, rfl⟩
  rw [hx] at HFb HCm HEx HBy HR
  obtain ⟨y, hy⟩ : ∃ y, lim (x ^ (val es).toNat % val ns).toNat = y := ⟨_, rfl⟩
  rw [hy] at HEx HBy HR
  rw [hRS] at HR ⊢
  rw [hZ] at HS HBy HK HR
  obtain ⟨u, hu⟩ : ∃ u, lim x.toNat = u := ⟨_, rfl⟩
  rw [hu] at HFb HCm HEx
  obtain ⟨N, hN⟩ : ∃ N, val ns = N := ⟨_, rfl⟩
  rw [hN] at HCm HR
  clear hn un ln he ue le hs us ls hRS hZ hx hy hu hN
  go_enter Tryz.func13, Tryz.ntmps13
  go_upto_region 1 with (refine Sh.wpList_boxR rfl 24 (.tmp 0) rfl #[.slice a n c, .slice a' n' c'] rfl ?_)
  refine Sh.wp_gen (fun W => Blk 24 W w.heap.size [.slice a n c, .slice a' n' c'] ∧ Below w.heap.size w W) ⟨Blk.new _ w _, al1 _⟩ ?_
  rintro W2 ⟨hB, hBw⟩
  have H2 : Hid (Below w.heap.size w W2 ∧ W2.rangeAt w.heap.size 0 [.slice a n c, .slice a' n' c'] ∧ ∀ W3, Below W2.heap.size W2 W3 → W3.rangeAt w.heap.size 0 [.slice a n c, .slice a' n' c'] ∧ W3.cell? ⟨w.heap.size, 0, none⟩ = some (.slice a n c) ∧ W3.cell? ⟨w.heap.size, 1, none⟩ = some (.slice a' n' c') ∧ Below w.heap.size w W3) := ⟨hBw, hB.whole, fun W3 h3 => ⟨(below_blk h3 hB.lt hB).whole, (below_blk h3 hB.lt hB).cell 0, (below_blk h3 hB.lt hB).cell 1, below_via hBw h3 (Nat.le_refl _)⟩⟩
  clear hB hBw
  cases hk : keyOk ns es with
  | false =>
    have HC : Hid (∀ W, Below w.heap.size w W → Calls Tryz.prog 35 #[.agg #[.slice a n c, .slice a' n' c']] W fun e w'' => e = .returned (.int .i64 80) ∧ Below W.heap.size W w'') := fun W hw => (HC0.out W hw).mono fun _ _ h => ⟨by rw [h.1, hk]; rfl, h.2⟩
    have HQ : Hid (RS = ([], 80)) := by show _ = _; rw [HR.out, if_pos hk]
    clear hk HC0
    go_wp2_with (first
      | (refine wpList_load_mid rfl 24 (.tmp 2) rfl w.heap.size 0 rfl [.slice a n c, .slice a' n' c'] _ H2.out.2.1 Tryz.underlying24 rfl (by kernel_rfl) ?_)
      | (go_at_call 35; refine (HC.out _ H2.out.1).mono ?_; rintro e w3 ⟨rfl, hb3⟩; have H3 : Hid (Below w.heap.size w w3) := (H2.out.2.2 w3 hb3).2.2.2; clear hb3))
    go_ret2
    exact ⟨_, by rw [HQ.out]; rfl, by rw [HQ.out]; exact nil_sl _, H3.out⟩
  | true =>
    have HC : Hid (∀ W, Below w.heap.size w W → Calls Tryz.prog 35 #[.agg #[.slice a n c, .slice a' n' c']] W fun e w'' => e = .returned (.int .i64 0) ∧ Below W.heap.size W w'') := fun W hw => (HC0.out W hw).mono fun _ _ h => ⟨by rw [h.1, hk]; rfl, h.2⟩
    have hZ := HK.out hk
    have HQ : Hid (RS = if m ≠ Z then ([], 112) else if N ≤ x then ([], 112) else Nt.bytS y Z) := by show _ = _; rw [HR.out, if_neg (by rw [hk]; decide)]
    have HEx2 := fun hm => HEx.out hm hk
    have HX : Hid (m ≤ 2048 → ∀ W r, Below w.heap.size w W → Sl .u32 W r u → Calls Tryz.prog 39 #[r, .slice a' n' c', .slice a n c] W fun e w'' => ∃ q, e = .returned (.tuple #[q, .int .i64 0]) ∧ Sl .u32 w'' q y ∧ Below W.heap.size W w'') := HEx2
    clear hk HC0 HEx HEx2 HK HR
    go_wp2_with (first
      | (refine wpList_load_mid rfl 24 (.tmp 2) rfl w.heap.size 0 rfl [.slice a n c, .slice a' n' c'] _ H2.out.2.1 Tryz.underlying24 rfl (by kernel_rfl) ?_)
      | (go_at_call 35; refine (HC.out _ H2.out.1).mono ?_; rintro e w3 ⟨rfl, hb3⟩; have H3 : Hid (Below w.heap.size w w3 ∧ w3.rangeAt w.heap.size 0 [.slice a n c, .slice a' n' c'] ∧ Below W2.heap.size W2 w3) := ⟨(H2.out.2.2 w3 hb3).2.2.2, (H2.out.2.2 w3 hb3).1, hb3⟩; clear hb3)
      | (refine wpList_load_mid rfl 24 (.tmp 2) rfl w.heap.size 0 rfl [.slice a n c, .slice a' n' c'] _ H3.out.2.1 Tryz.underlying24 rfl (by kernel_rfl) ?_))
    refine (HS.out _ H3.out.1).mono ?_
    rintro e w4 ⟨rfl, hb4⟩
    have H4 : Hid (Below W2.heap.size W2 w4) := below_via H3.out.2.2 hb4 (Nat.le_refl _)
    clear hb4
    by_cases hm : m = Z
    · have d1 : ((m : Int) != (Z : Int)) = false := by simp [hm]
      have hmb : m ≤ 2048 := by omega
      have HQ2 : Hid (RS = if N ≤ x then ([], 112) else Nt.bytS y Z) := by show _ = _; rw [HQ.out, if_neg (by simpa using hm)]
      have HZ : Hid (Z ≤ 1024) := hZ
      clear hm HQ hZ
      by_cases hlt : N ≤ x
      · have HC2 : Hid (∃ cc : Int, Nt.cmpI x N = cc ∧ decide (cc ≥ 0) = true) := ⟨_, rfl, by unfold Nt.cmpI; rw [if_neg (by omega)]; split <;> decide⟩
        obtain ⟨cc, hcc, dd⟩ := HC2.out
        rw [hcc] at HCm
        have HQ3 : Hid (RS = ([], 112)) := by show _ = _; rw [HQ2.out, if_pos hlt]
        clear hcc HC2 HQ2 hlt
        go_wp2_with (first
          | (go_at_call 37; refine (HFb.out hmb _ (H2.out.2.2 _ H4.out).2.2.2).mono ?_; rintro e w5 ⟨r5, rfl, hr5, hb5⟩; have hc5 := (H2.out.2.2 w5 (below_via H4.out hb5 (Nat.le_refl _))).2.1; have H5 : Hid (Sl .u32 w5 r5 u ∧ Below W2.heap.size W2 w5) := ⟨hr5, below_via H4.out hb5 (Nat.le_refl _)⟩; clear hr5 hb5)
          | (go_at_call 38; refine (HCm.out hmb _ _ (H2.out.2.2 _ H5.out.2).2.2.2 H5.out.1).mono ?_; rintro e w6 ⟨rfl, hb6⟩; have H6 : Hid (Below w.heap.size w w6) := (H2.out.2.2 _ (below_via H5.out.2 hb6 (Nat.le_refl _))).2.2.2; clear hb6))
        go_ret2
        exact ⟨_, by rw [HQ3.out]; rfl, by rw [HQ3.out]; exact nil_sl _, H6.out⟩
      · have HC2 : Hid (Nt.cmpI x N = -1) := by show _ = _; unfold Nt.cmpI; rw [if_pos (by omega)]
        rw [HC2.out] at HCm
        have HQ3 : Hid (RS = Nt.bytS y Z) := by show _ = _; rw [HQ2.out, if_neg hlt]
        clear HC2 HQ2 hlt
        obtain ⟨bs, ee, hbs⟩ : ∃ bs ee, Nt.bytS y Z = (bs, ee) := ⟨_, _, rfl⟩
        rw [hbs] at HBy HQ3
        clear hbs
        go_wp2_with (first
          | (go_at_call 37; refine (HFb.out hmb _ (H2.out.2.2 _ H4.out).2.2.2).mono ?_; rintro e w5 ⟨r5, rfl, hr5, hb5⟩; have hc5 := (H2.out.2.2 w5 (below_via H4.out hb5 (Nat.le_refl _))).2.1; have H5 : Hid (Sl .u32 w5 r5 u ∧ Below W2.heap.size W2 w5) := ⟨hr5, below_via H4.out hb5 (Nat.le_refl _)⟩; clear hr5 hb5)
          | (go_at_call 38; refine (HCm.out hmb _ _ (H2.out.2.2 _ H5.out.2).2.2.2 H5.out.1).mono ?_; rintro e w6 ⟨rfl, hb6⟩; have hc6 := (H2.out.2.2 w6 (below_via H5.out.2 hb6 (Nat.le_refl _))).2.1; have he6 := (H2.out.2.2 w6 (below_via H5.out.2 hb6 (Nat.le_refl _))).2.2.1; have H6 : Hid (Sl .u32 w6 r5 u ∧ Below W2.heap.size W2 w6) := ⟨below_sl hb6 H5.out.1, below_via H5.out.2 hb6 (Nat.le_refl _)⟩; clear hb6 hc5)
          | (go_at_call 39; refine (HX.out hmb _ _ (H2.out.2.2 _ H6.out.2).2.2.2 H6.out.1).mono ?_; rintro e w7 ⟨r7, rfl, hr7, hb7⟩; have H7 : Hid (Sl .u32 w7 r7 y ∧ Below W2.heap.size W2 w7 ∧ w7.rangeAt w.heap.size 0 [.slice a n c, .slice a' n' c']) := ⟨hr7, below_via H6.out.2 hb7 (Nat.le_refl _), (H2.out.2.2 _ (below_via H6.out.2 hb7 (Nat.le_refl _))).1⟩; clear hr7 hb7 hc6 he6)
          | (replace H7 := H7; refine wpList_load_mid rfl 24 (.tmp 2) rfl w.heap.size 0 rfl [.slice a n c, .slice a' n' c'] _ H7.out.2.2 Tryz.underlying24 rfl (by kernel_rfl) ?_)
          | (replace H7 := H7; go_at_call 36; refine (HS.out _ (H2.out.2.2 _ H7.out.2.1).2.2.2).mono ?_; rintro e w9 ⟨rfl, hb9⟩; have H9 : Hid (Sl .u32 w9 r7 y ∧ Below W2.heap.size W2 w9) := ⟨below_sl hb9 H7.out.1, below_via H7.out.2.1 hb9 (Nat.le_refl _)⟩; clear hb9)
          | (go_at_call 40; refine (HBy.out _ _ HZ.out H9.out.1).mono ?_; rintro e w8 ⟨r8, rfl, hr8, hb8⟩; have H8 : Hid (Sl .u8 w8 r8 bs ∧ Below w.heap.size w w8) := ⟨hr8, (H2.out.2.2 _ (below_via H9.out.2 hb8 (Nat.le_refl _))).2.2.2⟩; clear hr8 hb8))
        go_ret2
        exact ⟨_, by rw [HQ3.out]; rfl, by rw [HQ3.out]; exact H8.out.1, H8.out.2⟩
    · have d1 : ((m : Int) != (Z : Int)) = true := by simp; omega
      have HQ2 : Hid (RS = ([], 112)) := by show _ = _; rw [HQ.out, if_pos hm]
      clear hm HQ
      go_wp2
      go_ret2
      exact ⟨_, by rw [HQ2.out]; rfl, by rw [HQ2.out]; exact nil_sl _, (H2.out.2.2 _ H4.out).2.2.2⟩
end Go.Proofs.YtndoibmpnhkmpaaGreatDoor
/-
  Rsa: the law RsaRaws.
-/
namespace Go.Proofs.YtndoibmpnhkmpaaGreatDoor
open Go.RowKit
set_option maxRecDepth 20000
end Go.Proofs.YtndoibmpnhkmpaaGreatDoor
/-
  Rsa: whether two rows of bytes are the same (bytes.Equal; the reference's SameBytes), whatever they are.
-/
namespace Go.Proofs.YtndoibmpnhkmpaaGreatDoor
open Go.RowKit
set_option maxRecDepth 20000
theorem u8_toNat {x : Int} (h : U8 x) : ((UInt8.ofNat x.toNat).toNat : Int) = x := by
  have := h.1; have := h.2
  simp; omega
theorem st_inj {X Y : List Int} (hX : U8s X) (hY : U8s Y) (h : strOfNums X = strOfNums Y) : X = Y := by
  have e := congrArg (fun s => s.data.toList.map (fun b => (b.toNat : Int))) h
  simp only [strOfNums_data, List.map_map] at e
  have f : ∀ Z : List Int, U8s Z → Z.map ((fun b : UInt8 => (b.toNat : Int)) ∘ fun n => UInt8.ofNat n.toNat) = Z := by
    intro Z hZ
    induction Z with
    | nil => rfl
    | cons z Z ih =>
      rw [List.map_cons, ih (fun x hx => hZ x (List.mem_cons_of_mem _ hx))]
      congr 1
      exact u8_toNat (hZ z (List.mem_cons_self ..))
  rw [f X hX, f Y hY] at e
  exact e
theorem st_beq (X Y : List Int) (hX : U8s X) (hY : U8s Y) : ((strOfNums X).toList == (strOfNums Y).toList) = decide (X = Y) := by
  rw [Bool.eq_iff_iff, beq_iff_eq, decide_eq_true_eq]
  constructor
  · intro h
    refine st_inj hX hY ?_
    apply ByteArray.ext
    rw [Lib.toList_data, Lib.toList_data] at h
    exact Array.toList_inj.1 h
  · intro h; rw [h]

theorem conv_str {w : World} {a : Option Addr} {n c : Nat} {X : List Int} (h : Sl .u8 w (.slice a n c) X) : Sem.run Tryz.prog (convert 25 9 (.slice a n c)) w = .ok (.string (strOfNums X)) w := by
  obtain ⟨a', c', he, _, h⟩ := h
  cases he
  cases a with
  | none =>
    rcases h with h | ⟨b, off, hb, _⟩
    · subst h; exact run_convert_bytes_nil w _ _ Tryz.und8 Tryz.e8 _ c _ Tryz.str
    · cases hb
  | some x =>
    rcases h with h | ⟨b, off, hb, _, hr⟩
    · subst h
      obtain ⟨b, off, sp⟩ := x
      have : Sem.run Tryz.prog (convert 25 9 (.slice (some ⟨b, off, sp⟩) 0 c)) w = .ok (.string (strOfNums [])) w := by
        rw [run_convert_bytes_string w _ _ _ _ 0 c Tryz.und8 Tryz.e8 Tryz.str]
        simp [strOfNums]
        rfl
      exact this
    · cases hb
      exact run_convert_bytes_arg w _ _ Tryz.und8 Tryz.e8 b off _ c X rfl (fun i hi => hr i hi) _ Tryz.str
set_option maxHeartbeats 1000000 in
theorem BEq_any {w : World} (a a' : Option Addr) (n c n' c' : Nat) (X Y : List Int) (hX : Sl .u8 w (.slice a n c) X) (hY : Sl .u8 w (.slice a' n' c') Y) (uX : U8s X) (uY : U8s Y) (q : Bool) (hq : decide (X = Y) = q) :
    Calls Tryz.prog 43 #[.slice a n c, .slice a' n' c'] w fun e w' => e = .returned (.bool q) ∧ w = w' := by
  have h1 := conv_str hX
  have h2 := conv_str hY
  have h3 := st_beq X Y uX uY
  rw [hq] at h3
  clear hX hY uX uY hq
  go_enter Tryz.func43, Tryz.ntmps43
  go_wp2
  go_ret
  exact ⟨rfl, rfl⟩
set_option maxHeartbeats 2000000 in
theorem Same8_any {w : World} (v u : Value) (X Y : List Int) (hx : Sl .u8 w v X) (hy : Sl .u8 w u Y) (lx : X.length ≤ 1152921504606846976) (ly : Y.length ≤ 1152921504606846976) (q : Bool) (hq : decide (X = Y) = q) :
    Calls Tryz.prog 14 #[v, u] w fun e w' => e = .returned (.bool q) ∧ Below w.heap.size w w' := by
  obtain ⟨a1, c1, rfl, hc1, h1⟩ := hx
  obtain ⟨a2, c2, rfl, hc2, h2⟩ := hy
  by_cases hl : X.length = Y.length
  · by_cases hne : X = []
    · have hYn : Y = [] := List.eq_nil_of_length_eq_zero (by rw [← hl, hne]; rfl)
      subst hne; subst hYn
      have HQ : Hid (q = true) := by show _ = _; rw [← hq]; rfl
      clear hq
      simp only [List.length_nil]
      go_enter Tryz.func14, Tryz.ntmps14
      go_wp2
      go_loop [5] (fun i => i = .int .i64 0) (fun _ => 0)
      case atStart => rfl
      case round =>
        subst hrel
        go_wp2
        go_ret
        exact ⟨by rw [HQ.out]; rfl, Below.refl _ _⟩
    · rcases h1 with h1 | ⟨b1, o1, rfl, hb1, hr1⟩
      · exact absurd h1 hne
      rcases h2 with h2 | ⟨b2, o2, rfl, hb2, hr2⟩
      · exact absurd (List.eq_nil_of_length_eq_zero (by rw [hl, h2]; rfl)) hne
      obtain ⟨n, hn⟩ : ∃ n, X.length = n := ⟨_, rfl⟩
      rw [hn] at hl
      rw [hn] at lx hc1 ⊢
      rw [← hl] at hc2 ⊢
      have HN : Hid (X.length = n ∧ Y.length = n) := ⟨hn, hl.symm⟩
      have HQ : Hid (decide (X = Y) = q) := hq
      clear hn hne hl ly hq
      go_enter Tryz.func14, Tryz.ntmps14
      go_wp2
      go_loopw [5] (fun i wr => ∃ k : Nat, k ≤ n ∧ i = .int .i64 k ∧ Below w.heap.size w wr ∧ Hid (X.take k = Y.take k)) (fun i _ => n - (intOf i).toNat)
      case atStart => exact ⟨0, Nat.zero_le _, rfl, Below.refl _ _, rfl⟩
      case round =>
        obtain ⟨k, hk, rfl, hB, hT⟩ := hrel
        by_cases hkn : k < n
        · obtain ⟨x, hx⟩ : ∃ x, X.getD k 0 = x := ⟨_, rfl⟩
          obtain ⟨y, hy⟩ : ∃ y, Y.getD k 0 = y := ⟨_, rfl⟩
          have hcx : wr.cell? ⟨b1, o1 + k, none⟩ = some (.int .u8 x) := by rw [← hx]; exact (below_rd hB hb1 hr1) k (by rw [HN.out.1]; exact hkn)
          have hcy : wr.cell? ⟨b2, o2 + k, none⟩ = some (.int .u8 y) := by rw [← hy]; exact (below_rd hB hb2 hr2) k (by rw [HN.out.2]; exact hkn)
          have HB : Hid (Below w.heap.size w wr) := hB
          have HXY : Hid (X.getD k 0 = x ∧ Y.getD k 0 = y) := ⟨hx, hy⟩
          clear hx hy hB hr1 hr2
          by_cases hxy : x = y
          · have HT2 : Hid (X.take (k + 1) = Y.take (k + 1)) := by
              show _ = _
              have e1 := HXY.out.1; have e2 := HXY.out.2
              have l1 := HN.out.1; have l2 := HN.out.2
              rw [List.take_succ_eq_append_getElem (by omega), List.take_succ_eq_append_getElem (by omega), hT.out]
              congr 2
              simp [List.getD, List.getElem?_eq_getElem (show k < X.length by omega)] at e1
              simp [List.getD, List.getElem?_eq_getElem (show k < Y.length by omega)] at e2
              rw [e1, e2, hxy]
            subst hxy
            clear hT
            go_wp2
            go_quiet (fail)
            go_wp2
            go_roundw
            case rel => exact ⟨k + 1, by omega, by go_num, HB.out.trans ⟨rfl, rfl, rfl, Nat.le_refl _, fun _ _ => rfl⟩, HT2⟩
            case measure => simp [intOf]; omega
          · have hd : (x != y) = true := by simpa using hxy
            have HF : Hid (q = false) := by
              show _ = _
              rw [← HQ.out]
              simp
              intro h
              apply hxy
              rw [← HXY.out.1, ← HXY.out.2, h]
            clear hxy hT
            go_wp2
            go_quiet (fail)
            go_wp2
            go_ret
            exact ⟨by rw [HF.out]; rfl, HB.out.trans ⟨rfl, rfl, rfl, Nat.le_refl _, fun _ _ => rfl⟩⟩
        · have HB : Hid (Below w.heap.size w wr) := hB
          have HF : Hid (q = true) := by
            show _ = _
            rw [← HQ.out]
            have l1 := HN.out.1; have l2 := HN.out.2
            have hT := hT.out
            rw [List.take_of_length_le (by omega), List.take_of_length_le (by omega)] at hT
            simp [hT]
          clear hB hT
          go_wp2
          go_ret
          exact ⟨by rw [HF.out]; rfl, HB.out⟩
  · have hd : ((X.length : Int) != (Y.length : Int)) = true := by simp; omega
    have HF : Hid (q = false) := by
      show _ = _
      rw [← hq]; simp; intro h; apply hl; rw [h]
    clear hq hl
    go_enter Tryz.func14, Tryz.ntmps14
    go_wp2
    go_ret
    exact ⟨by rw [HF.out]; rfl, Below.refl _ _⟩
end Go.Proofs.YtndoibmpnhkmpaaGreatDoor
/-
  Der: the reference's Head.
-/
namespace Go.Proofs.YtndoibmpnhkmpaaGreatDoor
open Go.RowKit
/-- What the reference has of a number's groups after j rounds. -/
def rs (n : Nat) : Nat → List Int
  | 0 => []
  | j + 1 => sev j n
theorem Row.lt {k : IntKind} {e : TypeId} {B : Nat} {w : World} {v : Value} {xs : List Int} (h : Row k e B w v xs) : ∀ b n c, v = .slice (some ⟨b, 0, none⟩) n c → b < w.heap.size := by
  intro b n c hv
  rcases h with ⟨rfl, _⟩ | ⟨b', S, rfl, _, hA, _⟩
  · simp at hv
  · simp only [Value.slice.injEq, Option.some.injEq, Addr.mk.injEq, and_true] at hv
    obtain ⟨rfl, _⟩ := hv
    exact (Array.getElem?_eq_some_iff.1 hA).1
end Go.Proofs.YtndoibmpnhkmpaaGreatDoor
/-
  Der: the reference's Head at a long tag.
-/
namespace Go.Proofs.YtndoibmpnhkmpaaGreatDoor
open Go.RowKit
end Go.Proofs.YtndoibmpnhkmpaaGreatDoor
/-
  Der: the reference's Put.
-/
namespace Go.Proofs.YtndoibmpnhkmpaaGreatDoor
open Go.RowKit
end Go.Proofs.YtndoibmpnhkmpaaGreatDoor
/-
  Der: the reference's numbers of a text.
-/
namespace Go.Proofs.YtndoibmpnhkmpaaGreatDoor
open Go.RowKit
/-- The value of k digits from place f on. -/
def dv (Y : List Int) (f : Nat) : Nat → Nat
  | 0 => 0
  | k + 1 => 10 * dv Y f k + (Y.getD (f + k) 0 - 48).toNat
end Go.Proofs.YtndoibmpnhkmpaaGreatDoor
/-
  Der: the reference's arcs.
-/
namespace Go.Proofs.YtndoibmpnhkmpaaGreatDoor
open Go.RowKit
end Go.Proofs.YtndoibmpnhkmpaaGreatDoor
/-
  Der: the reference's PutOid of any text.
-/
namespace Go.Proofs.YtndoibmpnhkmpaaGreatDoor
open Go.RowKit
end Go.Proofs.YtndoibmpnhkmpaaGreatDoor
/-
  Rsa: the reference's Pad.
-/
namespace Go.Proofs.YtndoibmpnhkmpaaGreatDoor
open Go.RowKit
set_option maxRecDepth 20000
theorem Tryz.one_int : (Tryz.prog.info? 3).map (·.size) = some 1 := by kernel_rfl
theorem RSize8 {w : World} (alg : Int) : Calls Tryz.prog 22 #[.int .i64 alg] w fun e w' => e = .returned (.int .i64 (Sh.siz alg)) ∧ w = w' := by
  unfold Sh.siz
  by_cases h1 : alg = 1
  · subst h1
    have hx : ∀ w' : World, Sem.run Tryz.prog (Instr.index 76 (.agg #[.int .i64 20, .int .i64 32, .int .i64 48, .int .i64 64]) (.int .i64 0)) w' = .ok (.int .i64 20) w' := fun w' => run_index_row w' _ _ 4 .i64 [20, 32, 48, 64] 0 Tryz.underlying76 Tryz.underlying3 Tryz.one_int rfl (by decide)
    go_enter Tryz.func22, Tryz.ntmps22; go_wp2; go_ret; exact ⟨rfl, rfl⟩
  by_cases h2 : alg = 2
  · subst h2
    have hx : ∀ w' : World, Sem.run Tryz.prog (Instr.index 76 (.agg #[.int .i64 20, .int .i64 32, .int .i64 48, .int .i64 64]) (.int .i64 1)) w' = .ok (.int .i64 32) w' := fun w' => run_index_row w' _ _ 4 .i64 [20, 32, 48, 64] 1 Tryz.underlying76 Tryz.underlying3 Tryz.one_int rfl (by decide)
    go_enter Tryz.func22, Tryz.ntmps22; go_wp2; go_ret; exact ⟨rfl, rfl⟩
  by_cases h3 : alg = 3
  · subst h3
    have hx : ∀ w' : World, Sem.run Tryz.prog (Instr.index 76 (.agg #[.int .i64 20, .int .i64 32, .int .i64 48, .int .i64 64]) (.int .i64 2)) w' = .ok (.int .i64 48) w' := fun w' => run_index_row w' _ _ 4 .i64 [20, 32, 48, 64] 2 Tryz.underlying76 Tryz.underlying3 Tryz.one_int rfl (by decide)
    go_enter Tryz.func22, Tryz.ntmps22; go_wp2; go_ret; exact ⟨rfl, rfl⟩
  by_cases h4 : alg = 4
  · subst h4
    have hx : ∀ w' : World, Sem.run Tryz.prog (Instr.index 76 (.agg #[.int .i64 20, .int .i64 32, .int .i64 48, .int .i64 64]) (.int .i64 3)) w' = .ok (.int .i64 64) w' := fun w' => run_index_row w' _ _ 4 .i64 [20, 32, 48, 64] 3 Tryz.underlying76 Tryz.underlying3 Tryz.one_int rfl (by decide)
    go_enter Tryz.func22, Tryz.ntmps22; go_wp2; go_ret; exact ⟨rfl, rfl⟩
  rw [if_neg h1, if_neg h2, if_neg h3, if_neg h4]
  by_cases h5 : alg < 1
  · go_enter Tryz.func22, Tryz.ntmps22; go_wp2; go_ret; exact ⟨rfl, rfl⟩
  · have h6 : 4 < alg := by omega
    go_enter Tryz.func22, Tryz.ntmps22; go_wp2; go_ret; exact ⟨rfl, rfl⟩
end Go.Proofs.YtndoibmpnhkmpaaGreatDoor
/-
  Rsa: the reference's Pad, walked.
-/
namespace Go.Proofs.YtndoibmpnhkmpaaGreatDoor
open Go.RowKit
set_option maxRecDepth 20000
end Go.Proofs.YtndoibmpnhkmpaaGreatDoor
/-
  Rsa: the reference's Pad, where the digest is one.
-/
namespace Go.Proofs.YtndoibmpnhkmpaaGreatDoor
open Go.RowKit
set_option maxRecDepth 20000
end Go.Proofs.YtndoibmpnhkmpaaGreatDoor
/-
  Rsa: the law RsaPads.
-/
namespace Go.Proofs.YtndoibmpnhkmpaaGreatDoor
open Go.RowKit
set_option maxRecDepth 20000
end Go.Proofs.YtndoibmpnhkmpaaGreatDoor
/-
  Rsa: signatures in the first way: Verify of the program and of the reference.
-/
namespace Go.Proofs.YtndoibmpnhkmpaaGreatDoor
open Go.RowKit
set_option maxRecDepth 20000
theorem raw_u8 {ns es sg : List Int} : U8s (rawS ns es sg).1 := by
  unfold rawS
  split
  · intro x hx; simp at hx
  · split
    · intro x hx; simp at hx
    · split
      · intro x hx; simp at hx
      · unfold Nt.bytS
        split
        · intro x hx; simp at hx
        · split
          · intro x hx; simp at hx
          · split
            · intro x hx; simp at hx
            · exact Nt.beb_u8 _ _
end Go.Proofs.YtndoibmpnhkmpaaGreatDoor
/-
  Rsa: the reference's Verify; the law RsaVerifies.
-/
namespace Go.Proofs.YtndoibmpnhkmpaaGreatDoor
open Go.RowKit
set_option maxRecDepth 20000
end Go.Proofs.YtndoibmpnhkmpaaGreatDoor
/-
  Digest: New.
-/
namespace Go.Proofs.YtndoibmpnhkmpaaGreatDoor.Sh
open Go.RowKit
set_option maxRecDepth 20000
theorem wpList_buildW {P : Program} {ops : Array Oper} {rest : List Oper} {o : Oper} {a : Act} {w : World} {Q : Exit → Act → World → Prop} (hg : o.guard = none) (t : TypeId) (x : Operand) (ho : o.op = .build t #[(0, x)]) (cells : Array Value) (hx : a.eval x = .agg cells)
    (hr : ∀ w : World, (Instr.build t #[(0, .agg cells)]).run P w = .ok (.agg cells) w)
    (h : wpList P ops Q rest (a.put o.dst (.agg cells)) w) : wpList P ops Q (o :: rest) a w := by
  refine wpList_plain hg fun K hK => ?_
  unfold Oper.wp execOp
  have e : (#[(0, x)] : Array (Nat × Operand)).map (fun p => (p.1, a.eval p.2)) = #[(0, Value.agg cells)] := by simp [hx]
  simp only [ho, e, Sem.run_bind, hr, Sem.run_pure, Result.andThen_ok]
  exact hK _ _ h
theorem Tryz.zeroH : ((Tryz.prog.info? 138).bind (·.zero)).map (fun v => v.cells.size) = some 146 := by kernel_rfl
theorem build_hash (w : World) (cs : Array Value) (h : cs.size = 146) : (Instr.build 138 #[(0, .agg cs)]).run Tryz.prog w = .ok (.agg cs) w := by
  cases hq : Tryz.prog.info? 138 with
  | none => have := Tryz.zeroH; simp [hq] at this
  | some i =>
    cases hz : i.zero with
    | none => have := Tryz.zeroH; simp [hq, hz] at this
    | some v =>
      have hv : v.cells.size = 146 := by have := Tryz.zeroH; simpa [hq, hz] using this
      cases hs : Tryz.prog.info? 122 with
      | none => have := Tryz.sizeH; simp [hs] at this
      | some j =>
        have hj : j.size = 146 := by have := Tryz.sizeH; simpa [hs] using this
        have hfl := fill_one (fun k => ([(0, 146)] : List (Nat × Nat))[k]?) v.cells cs (by simp [h]) (by rw [hv, h])
        simp [Instr.build, Sem.run_bind, zeroValue, typeInfo, hq, hz, sizeOf, hs, hj, hfl]
set_option maxHeartbeats 1000000 in
theorem New_any {w : World} (alg : Int) (ha : Alg alg) (hT : Tabs w) : Calls Tryz.prog 85 #[.int .i64 alg] w fun e w' => ∃ g, e = .returned (.tuple #[.pointer (some ⟨g, 0, none⟩), .int .i64 0]) ∧ w.heap.size ≤ g ∧ HashIs w' g alg [] ∧ Below w.heap.size w w' := by
  have HBl : Hid (∀ w' : World, Calls Tryz.prog 112 #[.int .i64 alg] w' fun e w'' => e = .returned (.int .i64 (blk alg)) ∧ w' = w'') := fun w' => (Block_any alg).mono fun _ _ h => ⟨h.1, h.2.symm⟩
  have hb0 := blk_alg ha
  have HS : Hid (∀ w', w' = w → Calls Tryz.prog _ _ w' _) := fun w' hw => by rw [hw]; exact Start_any alg ha hT
  have hcs : (Hs.start alg).cells.length = 146 := Hs.cells_len (by simp [Hs.start, Hs.empty])
  have HBu : Hid (∀ w : World, (Instr.build 138 #[(0, .agg (Hs.start alg).cells.toArray)]).run Tryz.prog w = .ok (.agg (Hs.start alg).cells.toArray) w) := fun w => build_hash w _ (by simp [hcs])
  have HA : Hid (Alg alg) := ha
  clear hT hcs
  go_enter Tryz.func85, Tryz.ntmps85
  go_wp2_with (first
    | (go_at_call 112; refine (HBl.out _).mono ?_; rintro e w' ⟨rfl, rfl⟩)
    | (go_at_call 94; refine (HS.out _ rfl).mono ?_; rintro e w2 ⟨rfl, hB2⟩; have HB2 : Hid (Below w.heap.size w w2) := hB2; clear hB2)
    | (refine wpList_buildW rfl 138 (.tmp 8) rfl (Hs.start alg).cells.toArray rfl HBu.out ?_)
    | (refine wpList_boxR rfl 138 (.tmp 9) rfl (Hs.start alg).cells.toArray rfl ?_))
  go_ret2
  exact ⟨_, rfl, HB2.out.size, ⟨_, _, Blk.new _ w2 _, Hs.start_ok HA.out, Hs.start_inv alg⟩, HB2.out.alloc HB2.out.size _⟩
end Go.Proofs.YtndoibmpnhkmpaaGreatDoor.Sh
