/-
  Rsa: what a signature says (Raw), by the program and by the reference.
-/
import Derived.Test.YtndoibmpnhkmpaaGreatDoorK26
namespace Go.Proofs.YtndoibmpnhkmpaaGreatDoor
open Go.RowKit
set_option maxRecDepth 20000
/-- What Raw tells: the bytes, the error. -/
def rawS (ns es sg : List Int) : List Int × Int :=
  if keyOk ns es = false then ([], 80) else if sg.length ≠ keySz ns es then ([], 112) else if val ns ≤ Nt.bv sg.reverse then ([], 112)
  else Nt.bytS (lim (Nt.bv sg.reverse ^ (val es).toNat % val ns).toNat) (keySz ns es)
theorem bits_len {X : List Int} (uX : U32s X) : bts X ≤ 32 * X.length := Nt.bitLen_val uX
theorem key_facts {ns es : List Int} (un : U32s ns) (h : keyOk ns es = true) : ns.length ≤ 256 ∧ es.length ≤ 256 ∧ 0 < val ns ∧ keySz ns es = (bts ns + 7) / 8 ∧ keySz ns es ≤ 1024 ∧ 512 ≤ bts ns := by
  have e : keySz ns es = (bts ns + 7) / 8 := by unfold keySz; rw [h]; rfl
  have hb := bits_len un
  unfold keyOk modOk expOk at h
  simp at h
  obtain ⟨⟨h1, h2, _⟩, h3, _⟩ := h
  refine ⟨h1, h3, ?_, e, by rw [e]; omega, h2⟩
  have h0 := val_nonneg un
  rcases Int.lt_or_eq_of_le h0 with h | h
  · exact h
  · exfalso; unfold bts at h2; rw [← h] at h2; revert h2; decide
theorem u8_rev {sg : List Int} (us : U8s sg) : Nt.U8s sg.reverse := fun x hx => us x (List.mem_reverse.1 hx)
theorem bv_len {sg : List Int} (us : U8s sg) (h : sg.length ≤ 2048) : (lim (Nt.bv sg.reverse).toNat).length ≤ 512 := by
  refine lim_len_le ?_
  have h1 := Nt.bv_bound (u8_rev us)
  rw [Int.toNat_of_nonneg h1.1]
  refine Int.lt_of_lt_of_le h1.2 ?_
  rw [List.length_reverse]
  have e : ∀ k : Nat, (4294967296 : Int) ^ k = 256 ^ (4 * k) := fun k => by rw [Int.pow_mul]; rfl
  rw [e]
  obtain ⟨t, ht⟩ : ∃ t, 4 * 512 = t := ⟨_, rfl⟩
  rw [ht]
  have h2 : (256 : Nat) ^ sg.length ≤ 256 ^ t := Nat.pow_le_pow_right (by decide) (by omega)
  have h3 := Int.ofNat_le.2 h2
  rw [Int.natCast_pow, Int.natCast_pow] at h3
  exact h3
theorem exp_ok {ns es : List Int} (un : U32s ns) (h : keyOk ns es = true) {sg : List Int} (us : U8s sg) (hs : sg.length ≤ 2048) :
    Nt.expS (lim (Nt.bv sg.reverse).toNat) es ns = (lim (Nt.bv sg.reverse ^ (val es).toNat % val ns).toNat, 0) := by
  have h1 := key_facts un h
  have h2 := bv_len us hs
  unfold Nt.expS Nt.expLong
  rw [if_neg (by omega), if_neg (by omega), val_lim, Int.toNat_of_nonneg (Nt.bv_bound (u8_rev us)).1]
theorem from_ok {sg : List Int} (hs : sg.length ≤ 2048) : Nt.fromS sg = (lim (Nt.bv sg.reverse).toNat, 0) := by
  unfold Nt.fromS; rw [if_neg (by omega)]
set_option maxHeartbeats 4000000 in
theorem Raw_any {w : World} (a a' : Option Addr) (n c n' c' : Nat) (ns es : List Int) (hn : Sl .u32 w (.slice a n c) ns) (un : U32s ns) (ln : ns.length = n) (he : Sl .u32 w (.slice a' n' c') es) (ue : U32s es) (le : es.length = n') (hb : n ≤ 600) (hb' : n' ≤ 600)
    (b : Option Addr) (m d : Nat) (sg : List Int) (hs : Sl .u8 w (.slice b m d) sg) (us : U8s sg) (ls : sg.length = m) :
    Calls Tryz.prog 12 #[.agg #[.slice a n c, .slice a' n' c'], .slice b m d] w fun e w' => ∃ r, e = .returned (.tuple #[r, .int .i64 (rawS ns es sg).2]) ∧ Sl .u8 w' r (rawS ns es sg).1 ∧ Below w.heap.size w w' := by
  have HC0 : Hid (∀ W, Below w.heap.size w W → Calls Tryz.prog 29 #[.agg #[.slice a n c, .slice a' n' c']] W fun e w'' => e = .returned (.int .i64 (if keyOk ns es then 0 else 80)) ∧ Below W.heap.size W w'') := fun W hw => Check_any a a' n c n' c' ns es (below_sl hw hn) un ln (below_sl hw he) ue le (by omega) (by omega)
  have HS : Hid (∀ W, Below w.heap.size w W → Calls Tryz.prog 30 #[.agg #[.slice a n c, .slice a' n' c']] W fun e w'' => e = .returned (.int .i64 (keySz ns es)) ∧ Below W.heap.size W w'') := fun W hw => Size_key a a' n c n' c' ns es (below_sl hw hn) un ln (below_sl hw he) ue le (by omega) (by omega) (bts_le un (by omega))
  have HFb : Hid (m ≤ 2048 → ∀ W, Below w.heap.size w W → Calls Tryz.prog 31 #[.slice b m d] W fun e w'' => ∃ r, e = .returned (.tuple #[r, .int .i64 0]) ∧ Sl .u32 w'' r (lim (Nt.bv sg.reverse).toNat) ∧ Below W.heap.size W w'') := fun hm W hw => by
    refine (Nt.FromBytes_any sg _ W (below_sl hw hs) us).mono ?_
    rintro e w'' ⟨⟨r, rfl, ho⟩, hB⟩
    rw [from_ok (by omega)] at ho ⊢
    exact ⟨r, rfl, ho.sl, hB⟩
  have HCm : Hid (m ≤ 2048 → ∀ W r, Below w.heap.size w W → Sl .u32 W r (lim (Nt.bv sg.reverse).toNat) → Calls Tryz.prog 32 #[r, .slice a n c] W fun e w'' => e = .returned (.int .i64 (Nt.cmpI (Nt.bv sg.reverse) (val ns))) ∧ Below W.heap.size W w'') := fun hm W r hw hr => by
    refine (Nt.Cmp_any _ ns _ _ W hr (below_sl hw hn) (lim_u32 _) un (by have := bv_len us (by omega); omega) (by omega)).mono ?_
    rintro e w'' ⟨rfl, hB⟩
    rw [val_lim, Int.toNat_of_nonneg (Nt.bv_bound (u8_rev us)).1]
    exact ⟨rfl, hB⟩
  have HEx : Hid (m ≤ 2048 → keyOk ns es = true → ∀ W r, Below w.heap.size w W → Sl .u32 W r (lim (Nt.bv sg.reverse).toNat) → Calls Tryz.prog 33 #[r, .slice a' n' c', .slice a n c] W fun e w'' => ∃ q, e = .returned (.tuple #[q, .int .i64 0]) ∧ Sl .u32 w'' q (lim (Nt.bv sg.reverse ^ (val es).toNat % val ns).toNat) ∧ Below W.heap.size W w'') := fun hm hk W r hw hr => by
    refine (Nt.ExpMod_any _ es ns _ _ _ W hr (below_sl hw he) (below_sl hw hn) (lim_u32 _) ue un (.inr Nt.long_ok)).mono ?_
    rintro e w'' ⟨⟨q, rfl, ho⟩, hB⟩
    rw [exp_ok un hk us (by omega)] at ho ⊢
    exact ⟨q, rfl, ho.sl, hB⟩
  have HBy : Hid (∀ W q, keySz ns es ≤ 1024 → Sl .u32 W q (lim (Nt.bv sg.reverse ^ (val es).toNat % val ns).toNat) → Calls Tryz.prog 34 #[q, .int .i64 (keySz ns es)] W fun e w'' => ∃ t, e = .returned (.tuple #[t, .int .i64 (Nt.bytS (lim (Nt.bv sg.reverse ^ (val es).toNat % val ns).toNat) (keySz ns es)).2]) ∧ Sl .u8 w'' t (Nt.bytS (lim (Nt.bv sg.reverse ^ (val es).toNat % val ns).toNat) (keySz ns es)).1 ∧ Below W.heap.size W w'') := fun W q hk hq => by
    refine (Nt.Bytes_any _ _ _ W hq (lim_u32 _) (by omega) (by omega)).mono ?_
    rintro e w'' ⟨⟨t, rfl, ho, _⟩, hB⟩
    exact ⟨t, rfl, ho.sl, hB⟩
  have HK : Hid (keyOk ns es = true → keySz ns es ≤ 1024) := fun h => (key_facts un h).2.2.2.2.1
  have HR : Hid (rawS ns es sg = if keyOk ns es = false then ([], 80) else if m ≠ keySz ns es then ([], 112) else if val ns ≤ Nt.bv sg.reverse then ([], 112)
    else Nt.bytS (lim (Nt.bv sg.reverse ^ (val es).toNat % val ns).toNat) (keySz ns es)) := by show _ = _; rw [← ls]; rfl
  obtain ⟨RS, hRS⟩ : ∃ RS, rawS ns es sg = RS := ⟨_, rfl⟩
  obtain ⟨Z, hZ⟩ : ∃ Z, keySz ns es = Z := ⟨_, rfl⟩
  obtain ⟨x, hx⟩ : ∃ x, Nt.bv sg.reverse = x := ⟨_, rfl⟩
  rw [hx] at HFb HCm HEx HBy HR
  obtain ⟨y, hy⟩ : ∃ y, lim (x ^ (val es).toNat % val ns).toNat = y := ⟨_, rfl⟩
  rw [hy] at HEx HBy HR
  rw [hRS] at HR ⊢
  rw [hZ] at HS HBy HK HR
  obtain ⟨u, hu⟩ : ∃ u, lim x.toNat = u := ⟨_, rfl⟩
  rw [hu] at HFb HCm HEx
  obtain ⟨N, hN⟩ : ∃ N, val ns = N := ⟨_, rfl⟩
  rw [hN] at HCm HR
  clear hn un ln he ue le hs us ls hRS hZ hx hy hu hN
  go_enter Tryz.func12, Tryz.ntmps12
  go_upto_region 1 with (refine Sh.wpList_boxR rfl 24 (.tmp 0) rfl #[.slice a n c, .slice a' n' c'] rfl ?_)
  refine Sh.wp_gen (fun W => Blk 24 W w.heap.size [.slice a n c, .slice a' n' c'] ∧ Below w.heap.size w W) ⟨Blk.new _ w _, al1 _⟩ ?_
  rintro W2 ⟨hB, hBw⟩
  have H2 : Hid (Below w.heap.size w W2 ∧ W2.rangeAt w.heap.size 0 [.slice a n c, .slice a' n' c'] ∧ ∀ W3, Below W2.heap.size W2 W3 → W3.rangeAt w.heap.size 0 [.slice a n c, .slice a' n' c'] ∧ W3.cell? ⟨w.heap.size, 0, none⟩ = some (.slice a n c) ∧ W3.cell? ⟨w.heap.size, 1, none⟩ = some (.slice a' n' c') ∧ Below w.heap.size w W3) := ⟨hBw, hB.whole, fun W3 h3 => ⟨(below_blk h3 hB.lt hB).whole, (below_blk h3 hB.lt hB).cell 0, (below_blk h3 hB.lt hB).cell 1, below_via hBw h3 (Nat.le_refl _)⟩⟩
  clear hB hBw
  cases hk : keyOk ns es with
  | false =>
    have HC : Hid (∀ W, Below w.heap.size w W → Calls Tryz.prog 29 #[.agg #[.slice a n c, .slice a' n' c']] W fun e w'' => e = .returned (.int .i64 80) ∧ Below W.heap.size W w'') := fun W hw => (HC0.out W hw).mono fun _ _ h => ⟨by rw [h.1, hk]; rfl, h.2⟩
    have HQ : Hid (RS = ([], 80)) := by show _ = _; rw [HR.out, if_pos hk]
    clear hk HC0
    go_wp2_with (first
      | (refine wpList_load_mid rfl 24 (.tmp 2) rfl w.heap.size 0 rfl [.slice a n c, .slice a' n' c'] _ H2.out.2.1 Tryz.underlying24 rfl (by kernel_rfl) ?_)
      | (go_at_call 29; refine (HC.out _ H2.out.1).mono ?_; rintro e w3 ⟨rfl, hb3⟩; have H3 : Hid (Below w.heap.size w w3) := (H2.out.2.2 w3 hb3).2.2.2; clear hb3))
    go_ret2
    exact ⟨_, by rw [HQ.out]; rfl, by rw [HQ.out]; exact nil_sl _, H3.out⟩
  | true =>
    have HC : Hid (∀ W, Below w.heap.size w W → Calls Tryz.prog 29 #[.agg #[.slice a n c, .slice a' n' c']] W fun e w'' => e = .returned (.int .i64 0) ∧ Below W.heap.size W w'') := fun W hw => (HC0.out W hw).mono fun _ _ h => ⟨by rw [h.1, hk]; rfl, h.2⟩
    have hZ := HK.out hk
    have HQ : Hid (RS = if m ≠ Z then ([], 112) else if N ≤ x then ([], 112) else Nt.bytS y Z) := by show _ = _; rw [HR.out, if_neg (by rw [hk]; decide)]
    have HEx2 := fun hm => HEx.out hm hk
    have HX : Hid (m ≤ 2048 → ∀ W r, Below w.heap.size w W → Sl .u32 W r u → Calls Tryz.prog 33 #[r, .slice a' n' c', .slice a n c] W fun e w'' => ∃ q, e = .returned (.tuple #[q, .int .i64 0]) ∧ Sl .u32 w'' q y ∧ Below W.heap.size W w'') := HEx2
    clear hk HC0 HEx HEx2 HK HR
    go_upto_region 5 with (first
      | (refine wpList_load_mid rfl 24 (.tmp 2) rfl w.heap.size 0 rfl [.slice a n c, .slice a' n' c'] _ H2.out.2.1 Tryz.underlying24 rfl (by kernel_rfl) ?_)
      | (go_at_call 29; refine (HC.out _ H2.out.1).mono ?_; rintro e w3 ⟨rfl, hb3⟩; have H3 : Hid (Below w.heap.size w w3 ∧ w3.rangeAt w.heap.size 0 [.slice a n c, .slice a' n' c'] ∧ Below W2.heap.size W2 w3) := ⟨(H2.out.2.2 w3 hb3).2.2.2, (H2.out.2.2 w3 hb3).1, hb3⟩; clear hb3)
      | (refine wpList_load_mid rfl 24 (.tmp 2) rfl w.heap.size 0 rfl [.slice a n c, .slice a' n' c'] _ H3.out.2.1 Tryz.underlying24 rfl (by kernel_rfl) ?_)
      | (go_at_call 30; refine (HS.out _ H3.out.1).mono ?_; rintro e w4 ⟨rfl, hb4⟩; have H4 : Hid (Below W2.heap.size W2 w4) := below_via H3.out.2.2 hb4 (Nat.le_refl _); clear hb4))
    by_cases hm : m = Z
    · have d1 : ((m : Int) != (Z : Int)) = false := by simp [hm]
      have hmb : m ≤ 2048 := by omega
      have HQ2 : Hid (RS = if N ≤ x then ([], 112) else Nt.bytS y Z) := by show _ = _; rw [HQ.out, if_neg (by simpa using hm)]
      have HZ : Hid (Z ≤ 1024) := hZ
      clear hm HQ hZ
      by_cases hlt : N ≤ x
      · have HC2 : Hid (∃ cc : Int, Nt.cmpI x N = cc ∧ decide (cc ≥ 0) = true) := ⟨_, rfl, by unfold Nt.cmpI; rw [if_neg (by omega)]; split <;> decide⟩
        obtain ⟨cc, hcc, dd⟩ := HC2.out
        rw [hcc] at HCm
        have HQ3 : Hid (RS = ([], 112)) := by show _ = _; rw [HQ2.out, if_pos hlt]
        clear hcc HC2 HQ2 hlt
        go_wp2_with (first
          | (go_at_call 31; refine (HFb.out hmb _ (H2.out.2.2 _ H4.out).2.2.2).mono ?_; rintro e w5 ⟨r5, rfl, hr5, hb5⟩; have hc5 := (H2.out.2.2 w5 (below_via H4.out hb5 (Nat.le_refl _))).2.1; have H5 : Hid (Sl .u32 w5 r5 u ∧ Below W2.heap.size W2 w5) := ⟨hr5, below_via H4.out hb5 (Nat.le_refl _)⟩; clear hr5 hb5)
          | (go_at_call 32; refine (HCm.out hmb _ _ (H2.out.2.2 _ H5.out.2).2.2.2 H5.out.1).mono ?_; rintro e w6 ⟨rfl, hb6⟩; have H6 : Hid (Below w.heap.size w w6) := (H2.out.2.2 _ (below_via H5.out.2 hb6 (Nat.le_refl _))).2.2.2; clear hb6))
        go_ret2
        exact ⟨_, by rw [HQ3.out]; rfl, by rw [HQ3.out]; exact nil_sl _, H6.out⟩
      · have HC2 : Hid (Nt.cmpI x N = -1) := by show _ = _; unfold Nt.cmpI; rw [if_pos (by omega)]
        rw [HC2.out] at HCm
        have HQ3 : Hid (RS = Nt.bytS y Z) := by show _ = _; rw [HQ2.out, if_neg hlt]
        clear HC2 HQ2 hlt
        obtain ⟨bs, ee, hbs⟩ : ∃ bs ee, Nt.bytS y Z = (bs, ee) := ⟨_, _, rfl⟩
        rw [hbs] at HBy HQ3
        clear hbs
        go_wp2_with (first
          | (go_at_call 31; refine (HFb.out hmb _ (H2.out.2.2 _ H4.out).2.2.2).mono ?_; rintro e w5 ⟨r5, rfl, hr5, hb5⟩; have hc5 := (H2.out.2.2 w5 (below_via H4.out hb5 (Nat.le_refl _))).2.1; have H5 : Hid (Sl .u32 w5 r5 u ∧ Below W2.heap.size W2 w5) := ⟨hr5, below_via H4.out hb5 (Nat.le_refl _)⟩; clear hr5 hb5)
          | (go_at_call 32; refine (HCm.out hmb _ _ (H2.out.2.2 _ H5.out.2).2.2.2 H5.out.1).mono ?_; rintro e w6 ⟨rfl, hb6⟩; have hc6 := (H2.out.2.2 w6 (below_via H5.out.2 hb6 (Nat.le_refl _))).2.1; have he6 := (H2.out.2.2 w6 (below_via H5.out.2 hb6 (Nat.le_refl _))).2.2.1; have H6 : Hid (Sl .u32 w6 r5 u ∧ Below W2.heap.size W2 w6) := ⟨below_sl hb6 H5.out.1, below_via H5.out.2 hb6 (Nat.le_refl _)⟩; clear hb6 hc5)
          | (go_at_call 33; refine (HX.out hmb _ _ (H2.out.2.2 _ H6.out.2).2.2.2 H6.out.1).mono ?_; rintro e w7 ⟨r7, rfl, hr7, hb7⟩; have H7 : Hid (Sl .u32 w7 r7 y ∧ Below W2.heap.size W2 w7) := ⟨hr7, below_via H6.out.2 hb7 (Nat.le_refl _)⟩; clear hr7 hb7 hc6 he6)
          | (go_at_call 34; refine (HBy.out _ _ HZ.out H7.out.1).mono ?_; rintro e w8 ⟨r8, rfl, hr8, hb8⟩; have H8 : Hid (Sl .u8 w8 r8 bs ∧ Below w.heap.size w w8) := ⟨hr8, (H2.out.2.2 _ (below_via H7.out.2 hb8 (Nat.le_refl _))).2.2.2⟩; clear hr8 hb8))
        go_ret2
        exact ⟨_, by rw [HQ3.out]; rfl, by rw [HQ3.out]; exact H8.out.1, H8.out.2⟩
    · have d1 : ((m : Int) != (Z : Int)) = true := by simp; omega
      have HQ2 : Hid (RS = ([], 112)) := by show _ = _; rw [HQ.out, if_pos hm]
      clear hm HQ
      go_wp2
      go_ret2
      exact ⟨_, by rw [HQ2.out]; rfl, by rw [HQ2.out]; exact nil_sl _, (H2.out.2.2 _ H4.out).2.2.2⟩
end Go.Proofs.YtndoibmpnhkmpaaGreatDoor
/-
  Rsa: the reference's Raw.
-/
namespace Go.Proofs.YtndoibmpnhkmpaaGreatDoor
open Go.RowKit
set_option maxRecDepth 20000
set_option maxHeartbeats 4000000 in
theorem RRaw_any {w : World} (a a' : Option Addr) (n c n' c' : Nat) (ns es : List Int) (hn : Sl .u32 w (.slice a n c) ns) (un : U32s ns) (ln : ns.length = n) (he : Sl .u32 w (.slice a' n' c') es) (ue : U32s es) (le : es.length = n') (hb : n ≤ 600) (hb' : n' ≤ 600)
    (b : Option Addr) (m d : Nat) (sg : List Int) (hs : Sl .u8 w (.slice b m d) sg) (us : U8s sg) (ls : sg.length = m) :
    Calls Tryz.prog 13 #[.agg #[.slice a n c, .slice a' n' c'], .slice b m d] w fun e w' => ∃ r, e = .returned (.tuple #[r, .int .i64 (rawS ns es sg).2]) ∧ Sl .u8 w' r (rawS ns es sg).1 ∧ Below w.heap.size w w' := by
  have HC0 : Hid (∀ W, Below w.heap.size w W → Calls Tryz.prog 35 #[.agg #[.slice a n c, .slice a' n' c']] W fun e w'' => e = .returned (.int .i64 (if keyOk ns es then 0 else 80)) ∧ Below W.heap.size W w'') := fun W hw => RCheck_any a a' n c n' c' ns es (below_sl hw hn) un ln (below_sl hw he) ue le (by omega) (by omega)
  have HS : Hid (∀ W, Below w.heap.size w W → Calls Tryz.prog 36 #[.agg #[.slice a n c, .slice a' n' c']] W fun e w'' => e = .returned (.int .i64 (keySz ns es)) ∧ Below W.heap.size W w'') := fun W hw => RSize_any a a' n c n' c' ns es (below_sl hw hn) un ln (below_sl hw he) ue le (by omega) (by omega) (bts_le un (by omega))
  have HFb : Hid (m ≤ 2048 → ∀ W, Below w.heap.size w W → Calls Tryz.prog 37 #[.slice b m d] W fun e w'' => ∃ r, e = .returned (.tuple #[r, .int .i64 0]) ∧ Sl .u32 w'' r (lim (Nt.bv sg.reverse).toNat) ∧ Below W.heap.size W w'') := fun hm W hw => by
    refine (Nt.RFromBytes_any sg _ W (below_sl hw hs) us).mono ?_
    rintro e w'' ⟨⟨r, rfl, ho⟩, hB⟩
    rw [from_ok (by omega)] at ho ⊢
    exact ⟨r, rfl, ho, hB⟩
  have HCm : Hid (m ≤ 2048 → ∀ W r, Below w.heap.size w W → Sl .u32 W r (lim (Nt.bv sg.reverse).toNat) → Calls Tryz.prog 38 #[r, .slice a n c] W fun e w'' => e = .returned (.int .i64 (Nt.cmpI (Nt.bv sg.reverse) (val ns))) ∧ Below W.heap.size W w'') := fun hm W r hw hr => by
    refine (Nt.RCmp_any _ _ _ ns hr (below_sl hw hn) (lim_u32 _) un (by have := bv_len us (by omega); omega) (by omega) _ rfl).mono ?_
    rintro e w'' ⟨rfl, hB⟩
    rw [val_lim, Int.toNat_of_nonneg (Nt.bv_bound (u8_rev us)).1]
    exact ⟨rfl, hB⟩
  have HEx : Hid (m ≤ 2048 → keyOk ns es = true → ∀ W r, Below w.heap.size w W → Sl .u32 W r (lim (Nt.bv sg.reverse).toNat) → Calls Tryz.prog 39 #[r, .slice a' n' c', .slice a n c] W fun e w'' => ∃ q, e = .returned (.tuple #[q, .int .i64 0]) ∧ Sl .u32 w'' q (lim (Nt.bv sg.reverse ^ (val es).toNat % val ns).toNat) ∧ Below W.heap.size W w'') := fun hm hk W r hw hr => by
    refine (Nt.RExpMod_any _ es ns _ _ _ W hr (below_sl hw he) (below_sl hw hn) (lim_u32 _) ue un).mono ?_
    rintro e w'' ⟨⟨q, rfl, ho⟩, hB⟩
    rw [exp_ok un hk us (by omega)] at ho ⊢
    exact ⟨q, rfl, ho, hB⟩
  have HBy : Hid (∀ W q, keySz ns es ≤ 1024 → Sl .u32 W q (lim (Nt.bv sg.reverse ^ (val es).toNat % val ns).toNat) → Calls Tryz.prog 40 #[q, .int .i64 (keySz ns es)] W fun e w'' => ∃ t, e = .returned (.tuple #[t, .int .i64 (Nt.bytS (lim (Nt.bv sg.reverse ^ (val es).toNat % val ns).toNat) (keySz ns es)).2]) ∧ Sl .u8 w'' t (Nt.bytS (lim (Nt.bv sg.reverse ^ (val es).toNat % val ns).toNat) (keySz ns es)).1 ∧ Below W.heap.size W w'') := fun W q hk hq => by
    refine (Nt.RBytes_any _ _ _ W hq (lim_u32 _) (by omega) (by omega)).mono ?_
    rintro e w'' ⟨⟨t, rfl, ho⟩, hB⟩
    exact ⟨t, rfl, ho, hB⟩
  have HK : Hid (keyOk ns es = true → keySz ns es ≤ 1024) := fun h => (key_facts un h).2.2.2.2.1
  have HR : Hid (rawS ns es sg = if keyOk ns es = false then ([], 80) else if m ≠ keySz ns es then ([], 112) else if val ns ≤ Nt.bv sg.reverse then ([], 112)
    else Nt.bytS (lim (Nt.bv sg.reverse ^ (val es).toNat % val ns).toNat) (keySz ns es)) := by show _ = _; rw [← ls]; rfl
  obtain ⟨RS, hRS⟩ : ∃ RS, rawS ns es sg = RS := ⟨_, rfl⟩
  obtain ⟨Z, hZ⟩ : ∃ Z, keySz ns es = Z := ⟨_, rfl⟩
  obtain ⟨x, hx⟩ : ∃ x, Nt.bv sg.reverse = x := ⟨_, rfl⟩
  rw [hx] at HFb HCm HEx HBy HR
  obtain ⟨y, hy⟩ : ∃ y, lim (x ^ (val es).toNat % val ns).toNat = y := ⟨_, rfl⟩
  rw [hy] at HEx HBy HR
  rw [hRS] at HR ⊢
  rw [hZ] at HS HBy HK HR
  obtain ⟨u, hu⟩ : ∃ u, lim x.toNat = u := ⟨_, rfl⟩
  rw [hu] at HFb HCm HEx
  obtain ⟨N, hN⟩ : ∃ N, val ns = N := ⟨_, rfl⟩
  rw [hN] at HCm HR
  clear hn un ln he ue le hs us ls hRS hZ hx hy hu hN
  go_enter Tryz.func13, Tryz.ntmps13
  go_upto_region 1 with (refine Sh.wpList_boxR rfl 24 (.tmp 0) rfl #[.slice a n c, .slice a' n' c'] rfl ?_)
  refine Sh.wp_gen (fun W => Blk 24 W w.heap.size [.slice a n c, .slice a' n' c'] ∧ Below w.heap.size w W) ⟨Blk.new _ w _, al1 _⟩ ?_
  rintro W2 ⟨hB, hBw⟩
  have H2 : Hid (Below w.heap.size w W2 ∧ W2.rangeAt w.heap.size 0 [.slice a n c, .slice a' n' c'] ∧ ∀ W3, Below W2.heap.size W2 W3 → W3.rangeAt w.heap.size 0 [.slice a n c, .slice a' n' c'] ∧ W3.cell? ⟨w.heap.size, 0, none⟩ = some (.slice a n c) ∧ W3.cell? ⟨w.heap.size, 1, none⟩ = some (.slice a' n' c') ∧ Below w.heap.size w W3) := ⟨hBw, hB.whole, fun W3 h3 => ⟨(below_blk h3 hB.lt hB).whole, (below_blk h3 hB.lt hB).cell 0, (below_blk h3 hB.lt hB).cell 1, below_via hBw h3 (Nat.le_refl _)⟩⟩
  clear hB hBw
  cases hk : keyOk ns es with
  | false =>
    have HC : Hid (∀ W, Below w.heap.size w W → Calls Tryz.prog 35 #[.agg #[.slice a n c, .slice a' n' c']] W fun e w'' => e = .returned (.int .i64 80) ∧ Below W.heap.size W w'') := fun W hw => (HC0.out W hw).mono fun _ _ h => ⟨by rw [h.1, hk]; rfl, h.2⟩
    have HQ : Hid (RS = ([], 80)) := by show _ = _; rw [HR.out, if_pos hk]
    clear hk HC0
    go_wp2_with (first
      | (refine wpList_load_mid rfl 24 (.tmp 2) rfl w.heap.size 0 rfl [.slice a n c, .slice a' n' c'] _ H2.out.2.1 Tryz.underlying24 rfl (by kernel_rfl) ?_)
      | (go_at_call 35; refine (HC.out _ H2.out.1).mono ?_; rintro e w3 ⟨rfl, hb3⟩; have H3 : Hid (Below w.heap.size w w3) := (H2.out.2.2 w3 hb3).2.2.2; clear hb3))
    go_ret2
    exact ⟨_, by rw [HQ.out]; rfl, by rw [HQ.out]; exact nil_sl _, H3.out⟩
  | true =>
    have HC : Hid (∀ W, Below w.heap.size w W → Calls Tryz.prog 35 #[.agg #[.slice a n c, .slice a' n' c']] W fun e w'' => e = .returned (.int .i64 0) ∧ Below W.heap.size W w'') := fun W hw => (HC0.out W hw).mono fun _ _ h => ⟨by rw [h.1, hk]; rfl, h.2⟩
    have hZ := HK.out hk
    have HQ : Hid (RS = if m ≠ Z then ([], 112) else if N ≤ x then ([], 112) else Nt.bytS y Z) := by show _ = _; rw [HR.out, if_neg (by rw [hk]; decide)]
    have HEx2 := fun hm => HEx.out hm hk
    have HX : Hid (m ≤ 2048 → ∀ W r, Below w.heap.size w W → Sl .u32 W r u → Calls Tryz.prog 39 #[r, .slice a' n' c', .slice a n c] W fun e w'' => ∃ q, e = .returned (.tuple #[q, .int .i64 0]) ∧ Sl .u32 w'' q y ∧ Below W.heap.size W w'') := HEx2
    clear hk HC0 HEx HEx2 HK HR
    go_wp2_with (first
      | (refine wpList_load_mid rfl 24 (.tmp 2) rfl w.heap.size 0 rfl [.slice a n c, .slice a' n' c'] _ H2.out.2.1 Tryz.underlying24 rfl (by kernel_rfl) ?_)
      | (go_at_call 35; refine (HC.out _ H2.out.1).mono ?_; rintro e w3 ⟨rfl, hb3⟩; have H3 : Hid (Below w.heap.size w w3 ∧ w3.rangeAt w.heap.size 0 [.slice a n c, .slice a' n' c'] ∧ Below W2.heap.size W2 w3) := ⟨(H2.out.2.2 w3 hb3).2.2.2, (H2.out.2.2 w3 hb3).1, hb3⟩; clear hb3)
      | (refine wpList_load_mid rfl 24 (.tmp 2) rfl w.heap.size 0 rfl [.slice a n c, .slice a' n' c'] _ H3.out.2.1 Tryz.underlying24 rfl (by kernel_rfl) ?_))
    refine (HS.out _ H3.out.1).mono ?_
    rintro e w4 ⟨rfl, hb4⟩
    have H4 : Hid (Below W2.heap.size W2 w4) := below_via H3.out.2.2 hb4 (Nat.le_refl _)
    clear hb4
    by_cases hm : m = Z
    · have d1 : ((m : Int) != (Z : Int)) = false := by simp [hm]
      have hmb : m ≤ 2048 := by omega
      have HQ2 : Hid (RS = if N ≤ x then ([], 112) else Nt.bytS y Z) := by show _ = _; rw [HQ.out, if_neg (by simpa using hm)]
      have HZ : Hid (Z ≤ 1024) := hZ
      clear hm HQ hZ
      by_cases hlt : N ≤ x
      · have HC2 : Hid (∃ cc : Int, Nt.cmpI x N = cc ∧ decide (cc ≥ 0) = true) := ⟨_, rfl, by unfold Nt.cmpI; rw [if_neg (by omega)]; split <;> decide⟩
        obtain ⟨cc, hcc, dd⟩ := HC2.out
        rw [hcc] at HCm
        have HQ3 : Hid (RS = ([], 112)) := by show _ = _; rw [HQ2.out, if_pos hlt]
        clear hcc HC2 HQ2 hlt
        go_wp2_with (first
          | (go_at_call 37; refine (HFb.out hmb _ (H2.out.2.2 _ H4.out).2.2.2).mono ?_; rintro e w5 ⟨r5, rfl, hr5, hb5⟩; have hc5 := (H2.out.2.2 w5 (below_via H4.out hb5 (Nat.le_refl _))).2.1; have H5 : Hid (Sl .u32 w5 r5 u ∧ Below W2.heap.size W2 w5) := ⟨hr5, below_via H4.out hb5 (Nat.le_refl _)⟩; clear hr5 hb5)
          | (go_at_call 38; refine (HCm.out hmb _ _ (H2.out.2.2 _ H5.out.2).2.2.2 H5.out.1).mono ?_; rintro e w6 ⟨rfl, hb6⟩; have H6 : Hid (Below w.heap.size w w6) := (H2.out.2.2 _ (below_via H5.out.2 hb6 (Nat.le_refl _))).2.2.2; clear hb6))
        go_ret2
        exact ⟨_, by rw [HQ3.out]; rfl, by rw [HQ3.out]; exact nil_sl _, H6.out⟩
      · have HC2 : Hid (Nt.cmpI x N = -1) := by show _ = _; unfold Nt.cmpI; rw [if_pos (by omega)]
        rw [HC2.out] at HCm
        have HQ3 : Hid (RS = Nt.bytS y Z) := by show _ = _; rw [HQ2.out, if_neg hlt]
        clear HC2 HQ2 hlt
        obtain ⟨bs, ee, hbs⟩ : ∃ bs ee, Nt.bytS y Z = (bs, ee) := ⟨_, _, rfl⟩
        rw [hbs] at HBy HQ3
        clear hbs
        go_wp2_with (first
          | (go_at_call 37; refine (HFb.out hmb _ (H2.out.2.2 _ H4.out).2.2.2).mono ?_; rintro e w5 ⟨r5, rfl, hr5, hb5⟩; have hc5 := (H2.out.2.2 w5 (below_via H4.out hb5 (Nat.le_refl _))).2.1; have H5 : Hid (Sl .u32 w5 r5 u ∧ Below W2.heap.size W2 w5) := ⟨hr5, below_via H4.out hb5 (Nat.le_refl _)⟩; clear hr5 hb5)
          | (go_at_call 38; refine (HCm.out hmb _ _ (H2.out.2.2 _ H5.out.2).2.2.2 H5.out.1).mono ?_; rintro e w6 ⟨rfl, hb6⟩; have hc6 := (H2.out.2.2 w6 (below_via H5.out.2 hb6 (Nat.le_refl _))).2.1; have he6 := (H2.out.2.2 w6 (below_via H5.out.2 hb6 (Nat.le_refl _))).2.2.1; have H6 : Hid (Sl .u32 w6 r5 u ∧ Below W2.heap.size W2 w6) := ⟨below_sl hb6 H5.out.1, below_via H5.out.2 hb6 (Nat.le_refl _)⟩; clear hb6 hc5)
          | (go_at_call 39; refine (HX.out hmb _ _ (H2.out.2.2 _ H6.out.2).2.2.2 H6.out.1).mono ?_; rintro e w7 ⟨r7, rfl, hr7, hb7⟩; have H7 : Hid (Sl .u32 w7 r7 y ∧ Below W2.heap.size W2 w7 ∧ w7.rangeAt w.heap.size 0 [.slice a n c, .slice a' n' c']) := ⟨hr7, below_via H6.out.2 hb7 (Nat.le_refl _), (H2.out.2.2 _ (below_via H6.out.2 hb7 (Nat.le_refl _))).1⟩; clear hr7 hb7 hc6 he6)
          | (replace H7 := H7; refine wpList_load_mid rfl 24 (.tmp 2) rfl w.heap.size 0 rfl [.slice a n c, .slice a' n' c'] _ H7.out.2.2 Tryz.underlying24 rfl (by kernel_rfl) ?_)
          | (replace H7 := H7; go_at_call 36; refine (HS.out _ (H2.out.2.2 _ H7.out.2.1).2.2.2).mono ?_; rintro e w9 ⟨rfl, hb9⟩; have H9 : Hid (Sl .u32 w9 r7 y ∧ Below W2.heap.size W2 w9) := ⟨below_sl hb9 H7.out.1, below_via H7.out.2.1 hb9 (Nat.le_refl _)⟩; clear hb9)
          | (go_at_call 40; refine (HBy.out _ _ HZ.out H9.out.1).mono ?_; rintro e w8 ⟨r8, rfl, hr8, hb8⟩; have H8 : Hid (Sl .u8 w8 r8 bs ∧ Below w.heap.size w w8) := ⟨hr8, (H2.out.2.2 _ (below_via H9.out.2 hb8 (Nat.le_refl _))).2.2.2⟩; clear hr8 hb8))
        go_ret2
        exact ⟨_, by rw [HQ3.out]; rfl, by rw [HQ3.out]; exact H8.out.1, H8.out.2⟩
    · have d1 : ((m : Int) != (Z : Int)) = true := by simp; omega
      have HQ2 : Hid (RS = ([], 112)) := by show _ = _; rw [HQ.out, if_pos hm]
      clear hm HQ
      go_wp2
      go_ret2
      exact ⟨_, by rw [HQ2.out]; rfl, by rw [HQ2.out]; exact nil_sl _, (H2.out.2.2 _ H4.out).2.2.2⟩
end Go.Proofs.YtndoibmpnhkmpaaGreatDoor
/-
  Rsa: the law RsaRaws.
-/
namespace Go.Proofs.YtndoibmpnhkmpaaGreatDoor
open Go.RowKit
set_option maxRecDepth 20000
theorem byt_len (y : List Int) (n : Nat) : (Nt.bytS y n).1.length ≤ 2048 := by
  unfold Nt.bytS
  split
  · simp
  · split
    · simp
    · split
      · simp
      · rw [Nt.beb_len]; omega
theorem raw_len {ns es sg : List Int} (_un : U32s ns) : (rawS ns es sg).1.length ≤ 2048 := by
  unfold rawS
  split
  · simp
  · split
    · simp
    · split
      · simp
      · exact byt_len _ _
theorem Lent_n {w : World} (X : List Int) (v : Value) (n : Nat) (hn : X.length = n) (hX : Sl .u32 w v X) (hl : n ≤ 1000) :
    Calls Tryz.prog 11 #[v] w fun e w' => ∃ b S, e = .returned (.slice (some ⟨b, 0, none⟩) n S) ∧ Nt.LentR w.heap.size w' (.slice (some ⟨b, 0, none⟩) n S) X ∧ Below w.heap.size w w' := by
  refine (Nt.Lent_any X v w hX (by omega)).mono ?_
  rintro e w' ⟨r, rfl, hL, hB⟩
  obtain ⟨b, S, rfl, h⟩ := id hL
  rw [hn] at hL ⊢
  exact ⟨b, _, rfl, hL, hB⟩
set_option maxHeartbeats 4000000 in
theorem RsaRaws_any {w : World} (a a' : Option Addr) (n c n' c' : Nat) (ns es : List Int) (hn : Sl .u32 w (.slice a n c) ns) (un : U32s ns) (ln : ns.length = n) (he : Sl .u32 w (.slice a' n' c') es) (ue : U32s es) (le : es.length = n')
    (b : Option Addr) (m d : Nat) (sg : List Int) (hs : Sl .u8 w (.slice b m d) sg) (us : U8s sg) (ls : sg.length = m) (hT : Sh.Tabs w) :
    Calls Tryz.prog 3 #[.agg #[.slice a n c, .slice a' n' c'], .slice b m d] w fun e w' => e = .returned (.bool true) ∧ Below w.heap.size w w' := by
  have HT : Hid (Sh.Tabs w) := hT
  have HX : Hid (Sl .u32 w (.slice a n c) ns ∧ U32s ns ∧ ns.length = n ∧ Sl .u32 w (.slice a' n' c') es ∧ U32s es ∧ es.length = n' ∧ Sl .u8 w (.slice b m d) sg ∧ U8s sg ∧ sg.length = m) := ⟨hn, un, ln, he, ue, le, hs, us, ls⟩
  clear hn un ln he ue le hs us ls hT
  go_enter Tryz.func3, Tryz.ntmps3
  go_upto_region 1 with (refine Sh.wpList_boxR rfl 24 (.tmp 0) rfl #[.slice a n c, .slice a' n' c'] rfl ?_)
  refine Sh.wp_gen (fun W => Blk 24 W w.heap.size [.slice a n c, .slice a' n' c'] ∧ Below w.heap.size w W) ⟨Blk.new _ w _, al1 _⟩ ?_
  rintro W2 ⟨hB, hBw⟩
  have hc0 : W2.cell? ⟨w.heap.size, 0, none⟩ = some (.slice a n c) := hB.cell 0
  have hc1 : W2.cell? ⟨w.heap.size, 1, none⟩ = some (.slice a' n' c') := hB.cell 1
  have H2 : Hid (Below w.heap.size w W2 ∧ ∀ W3, Below W2.heap.size W2 W3 → W3.cell? ⟨w.heap.size, 0, none⟩ = some (.slice a n c) ∧ W3.cell? ⟨w.heap.size, 1, none⟩ = some (.slice a' n' c') ∧ Below w.heap.size w W3 ∧ W3.rangeAt w.heap.size 0 [.slice a n c, .slice a' n' c']) := ⟨hBw, fun W3 h3 => ⟨(below_blk h3 hB.lt hB).cell 0, (below_blk h3 hB.lt hB).cell 1, below_via hBw h3 (Nat.le_refl _), (below_blk h3 hB.lt hB).whole⟩⟩
  clear hB hBw
  by_cases h1 : ¬ n ≤ 64
  · have d1 : decide ((64 : Int) < (n : Int)) = true := by simp; omega
    go_wp2_with (go_at_call 9; refine (live8_any (HT.out.below H2.out.1)).mono ?_; rintro e w3 ⟨rfl, hb3⟩; have H3 : Hid (Below w.heap.size w w3) := below_via H2.out.1 hb3 (Nat.le_refl _); clear hb3)
    go_ret
    exact ⟨rfl, H3.out⟩
  have h1 := Decidable.not_not.1 h1
  have d1 : decide ((64 : Int) < (n : Int)) = false := by simp; omega
  by_cases h2 : ¬ n' ≤ 600
  · have d2 : decide ((600 : Int) < (n' : Int)) = true := by simp; omega
    go_wp2_with (go_at_call 9; refine (live8_any (HT.out.below H2.out.1)).mono ?_; rintro e w3 ⟨rfl, hb3⟩; have H3 : Hid (Below w.heap.size w w3) := below_via H2.out.1 hb3 (Nat.le_refl _); clear hb3)
    go_ret
    exact ⟨rfl, H3.out⟩
  have h2 := Decidable.not_not.1 h2
  have d2 : decide ((600 : Int) < (n' : Int)) = false := by simp; omega
  by_cases h3 : ¬ m ≤ 8192
  · have d3 : decide ((8192 : Int) < (m : Int)) = true := by simp; omega
    go_wp2_with (go_at_call 9; refine (live8_any (HT.out.below H2.out.1)).mono ?_; rintro e w3 ⟨rfl, hb3⟩; have H3 : Hid (Below w.heap.size w w3) := below_via H2.out.1 hb3 (Nat.le_refl _); clear hb3)
    go_ret
    exact ⟨rfl, H3.out⟩
  have h3 := Decidable.not_not.1 h3
  have d3 : decide ((8192 : Int) < (m : Int)) = false := by simp; omega
  have four : Hid (∀ W3, Below W2.heap.size W2 W3 → W3.cell? ⟨w.heap.size, 0, none⟩ = some (.slice a n c) ∧ W3.cell? ⟨w.heap.size, 1, none⟩ = some (.slice a' n' c')) := fun W3 h3 => ⟨(H2.out.2 W3 h3).1, (H2.out.2 W3 h3).2.1⟩
  have HZ : Hid (n ≤ 64 ∧ n' ≤ 600 ∧ m ≤ 8192) := ⟨h1, h2, h3⟩
  go_wp2_with fail
  clear hc0 hc1 h1 h2 h3
  go_region_held3 (fun W => Below W2.heap.size W2 W ∧ W.cell? ⟨w.heap.size, 0, none⟩ = some (.slice a n c) ∧ W.cell? ⟨w.heap.size, 1, none⟩ = some (.slice a' n' c'))
    (first | assumption | exact (fun h => ⟨h, four.out _ h⟩) (Below.drew (Below.refl _ _)) | exact (fun h => ⟨h, four.out _ h⟩) (below_via (And.left (by assumption)) (by assumption) (Nat.le_refl _)))
    (first
    | (go_at_call 10; refine (Lent8_n sg _ _ m HX.out.2.2.2.2.2.2.2.2 (below_sl (below_via H2.out.1 (And.left (by assumption)) (Nat.le_refl _)) HX.out.2.2.2.2.2.2.1) (by have := HZ.out.2.2; omega)).mono ?_; rintro e w3 ⟨b3, S3, c3, rfl, hl3, _, _, _, hb3⟩)
    | (replace hl4 := hl4; go_at_call 11; refine (Lent_n es _ n' HX.out.2.2.2.2.2.1 (below_sl (below_via H2.out.1 (And.left (by assumption)) (Nat.le_refl _)) HX.out.2.2.2.1) (by have := HZ.out.2.1; omega)).mono ?_; rintro e w5 ⟨b5, c5, rfl, hl5, hb5⟩)
    | (go_at_call 11; refine (Lent_n ns _ n HX.out.2.2.1 (below_sl (below_via H2.out.1 (And.left (by assumption)) (Nat.le_refl _)) HX.out.1) (by have := HZ.out.1; omega)).mono ?_; rintro e w4 ⟨b4, c4, rfl, hl4, hb4⟩))
  have H5 : Hid (LentR8 W2.drew.heap.size w5 (.slice (some ⟨b3, 0, none⟩) m c3) sg ∧ Nt.LentR w3.heap.size w5 (.slice (some ⟨b4, 0, none⟩) n c4) ns ∧ Nt.LentR w4.heap.size w5 (.slice (some ⟨b5, 0, none⟩) n' c5) es ∧ Below W2.heap.size W2 w5) := ⟨(hl3.below hb4).below hb5, hl4.below hb5, hl5, And.left (by assumption)⟩
  have HRl : Hid ((rawS ns es sg).1.length ≤ 2048) := raw_len HX.out.2.1
  obtain ⟨Rl, hRl⟩ : ∃ Rl, (rawS ns es sg).1 = Rl := ⟨_, rfl⟩
  obtain ⟨E, hE⟩ : ∃ E, (rawS ns es sg).2 = E := ⟨_, rfl⟩
  have HRw := fun (x x' : Option Addr) (y y' z : Nat) (q : Option Addr) (W : World) (k1 : Sl .u32 W (.slice x n y) ns) (k2 : Sl .u32 W (.slice x' n' y') es) (k3 : Sl .u8 W (.slice q m z) sg) => Raw_any x x' n y n' y' ns es k1 HX.out.2.1 HX.out.2.2.1 k2 HX.out.2.2.2.2.1 HX.out.2.2.2.2.2.1 (by have := HZ.out.1; omega) HZ.out.2.1 q m z sg k3 HX.out.2.2.2.2.2.2.2.1 HX.out.2.2.2.2.2.2.2.2
  have HRr := fun (x x' : Option Addr) (y y' z : Nat) (q : Option Addr) (W : World) (k1 : Sl .u32 W (.slice x n y) ns) (k2 : Sl .u32 W (.slice x' n' y') es) (k3 : Sl .u8 W (.slice q m z) sg) => RRaw_any x x' n y n' y' ns es k1 HX.out.2.1 HX.out.2.2.1 k2 HX.out.2.2.2.2.1 HX.out.2.2.2.2.2.1 (by have := HZ.out.1; omega) HZ.out.2.1 q m z sg k3 HX.out.2.2.2.2.2.2.2.1 HX.out.2.2.2.2.2.2.2.2
  rw [hRl] at HRw HRr HRl
  rw [hE] at HRw HRr
  have HW : Hid (∀ (x x' : Option Addr) (y y' z : Nat) (q : Option Addr) (W : World), Sl .u32 W (.slice x n y) ns → Sl .u32 W (.slice x' n' y') es → Sl .u8 W (.slice q m z) sg → _) := HRw
  have HR : Hid (∀ (x x' : Option Addr) (y y' z : Nat) (q : Option Addr) (W : World), Sl .u32 W (.slice x n y) ns → Sl .u32 W (.slice x' n' y') es → Sl .u8 W (.slice q m z) sg → _) := HRr
  clear hRl hE HRw HRr hl3 hl4 hl5 hb3 hb4 hb5
  go_wp2_with fail
  refine (HW.out (some ⟨b4, 0, none⟩) (some ⟨b5, 0, none⟩) c4 c5 c3 (some ⟨b3, 0, none⟩) _ H5.out.2.1.sl H5.out.2.2.1.sl H5.out.1.sl).mono ?_
  rintro e w6 ⟨r6, rfl, hr6, hb6⟩
  obtain ⟨a6, c6, hf6⟩ := hr6.form
  subst hf6
  have hb26 := below_via H5.out.2.2.2 hb6 (Nat.le_refl _)
  have H6 : Hid (LentR8 W2.drew.heap.size w6 (.slice (some ⟨b3, 0, none⟩) m c3) sg ∧ Nt.LentR w3.heap.size w6 (.slice (some ⟨b4, 0, none⟩) n c4) ns ∧ Nt.LentR w4.heap.size w6 (.slice (some ⟨b5, 0, none⟩) n' c5) es ∧ Sl .u8 w6 (.slice a6 Rl.length c6) Rl ∧ Below W2.heap.size W2 w6 ∧ Below w.heap.size w w6 ∧ w6.rangeAt w.heap.size 0 [.slice a n c, .slice a' n' c']) := ⟨H5.out.1.below hb6, H5.out.2.1.below hb6, H5.out.2.2.1.below hb6, hr6, hb26, (H2.out.2 _ hb26).2.2.1, (H2.out.2 _ hb26).2.2.2⟩
  clear hr6 hb6 hb26 H5
  go_wp2_with (refine wpList_load_mid rfl 24 (.tmp 2) rfl w.heap.size 0 rfl [.slice a n c, .slice a' n' c'] _ H6.out.2.2.2.2.2.2 Tryz.underlying24 rfl (by kernel_rfl) ?_)
  refine (HR.out a a' c c' d b _ (below_sl H6.out.2.2.2.2.2.1 HX.out.1) (below_sl H6.out.2.2.2.2.2.1 HX.out.2.2.2.1) (below_sl H6.out.2.2.2.2.2.1 HX.out.2.2.2.2.2.2.1)).mono ?_
  rintro e w7 ⟨r7, rfl, hr7, hb7⟩
  obtain ⟨a7, c7, hf7⟩ := hr7.form
  subst hf7
  have H7 : Hid (LentR8 W2.drew.heap.size w7 (.slice (some ⟨b3, 0, none⟩) m c3) sg ∧ Nt.LentR w3.heap.size w7 (.slice (some ⟨b4, 0, none⟩) n c4) ns ∧ Nt.LentR w4.heap.size w7 (.slice (some ⟨b5, 0, none⟩) n' c5) es ∧ Sl .u8 w7 (.slice a6 Rl.length c6) Rl ∧ Sl .u8 w7 (.slice a7 Rl.length c7) Rl ∧ Below W2.heap.size W2 w7) := ⟨H6.out.1.below hb7, H6.out.2.1.below hb7, H6.out.2.2.1.below hb7, below_sl hb7 H6.out.2.2.2.1, hr7, below_via H6.out.2.2.2.2.1 hb7 (Nat.le_refl _)⟩
  clear hr7 hb7 H6 HW HR
  go_wp2_with (first
    | (go_at_call 15; refine (num8_any _ _).mono ?_; rintro e w' ⟨rfl, rfl⟩)
    | (go_at_call 14; refine (SameBytes_any _ _ Rl H7.out.2.2.2.1 H7.out.2.2.2.2.1 (by have := HRl.out; omega)).mono ?_; rintro e w8 ⟨rfl, hb8⟩; have H8 : Hid (LentR8 W2.drew.heap.size w8 (.slice (some ⟨b3, 0, none⟩) m c3) sg ∧ Nt.LentR w3.heap.size w8 (.slice (some ⟨b4, 0, none⟩) n c4) ns ∧ Nt.LentR w4.heap.size w8 (.slice (some ⟨b5, 0, none⟩) n' c5) es ∧ Below W2.heap.size W2 w8) := ⟨H7.out.1.below hb8, H7.out.2.1.below hb8, H7.out.2.2.1.below hb8, below_via H7.out.2.2.2.2.2 hb8 (Nat.le_refl _)⟩; clear hb8)
    | (go_at_call 16; refine (Kept8_any _ _ sg H8.out.1 (below_sl (H2.out.2 _ H8.out.2.2.2).2.2.1 HX.out.2.2.2.2.2.2.1) (by have := HX.out.2.2.2.2.2.2.2.2; have := HZ.out.2.2; omega)).mono ?_; rintro e w9 ⟨rfl, hb9⟩; have H9 : Hid (Nt.LentR w3.heap.size w9 (.slice (some ⟨b4, 0, none⟩) n c4) ns ∧ Nt.LentR w4.heap.size w9 (.slice (some ⟨b5, 0, none⟩) n' c5) es ∧ Below W2.heap.size W2 w9) := ⟨H8.out.2.1.below hb9, H8.out.2.2.1.below hb9, below_via H8.out.2.2.2 hb9 (Nat.le_refl _)⟩; clear hb9; have hk9 := (H2.out.2 _ H9.out.2.2).1)
    | (replace H10 := H10; go_at_call 17; refine (Nt.Kept_any _ _ es H10.out.1 (below_sl (H2.out.2 _ H10.out.2).2.2.1 HX.out.2.2.2.1) (by have := HX.out.2.2.2.2.2.1; have := HZ.out.2.1; omega)).mono ?_; rintro e w11 ⟨rfl, hb11⟩; have H11 : Hid (Below w.heap.size w w11) := (H2.out.2 _ (below_via H10.out.2 hb11 (Nat.le_refl _))).2.2.1; clear hb11 hk10)
    | (replace H9 := H9; go_at_call 17; refine (Nt.Kept_any _ _ ns H9.out.1 (below_sl (H2.out.2 _ H9.out.2.2).2.2.1 HX.out.1) (by have := HX.out.2.2.1; have := HZ.out.1; omega)).mono ?_; rintro e w10 ⟨rfl, hb10⟩; have H10 : Hid (Nt.LentR w4.heap.size w10 (.slice (some ⟨b5, 0, none⟩) n' c5) es ∧ Below W2.heap.size W2 w10) := ⟨H9.out.2.1.below hb10, below_via H9.out.2.2 hb10 (Nat.le_refl _)⟩; clear hb10 hk9; have hk10 := (H2.out.2 _ H10.out.2).2.1)
    | (go_at_call 9; refine (live8_any (HT.out.below H11.out)).mono ?_; rintro e w12 ⟨rfl, hb12⟩; have H12 : Hid (Below w.heap.size w w12) := below_via H11.out hb12 (Nat.le_refl _); clear hb12))
  go_ret
  exact ⟨rfl, H12.out⟩
end Go.Proofs.YtndoibmpnhkmpaaGreatDoor
