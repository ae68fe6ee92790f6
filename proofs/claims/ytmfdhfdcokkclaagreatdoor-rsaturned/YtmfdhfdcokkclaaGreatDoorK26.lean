/-
  Rsa: what a signature says (Raw), by the program and by the reference.
-/
import Derived.Laws.BytesArg
import Derived.Lib.Strings
import Derived.Test.YtmfdhfdcokkclaaGreatDoorK25
namespace Go.Proofs.YtmfdhfdcokkclaaGreatDoor
open Go.RowKit
set_option maxRecDepth 20000
/-- What Raw tells: the bytes, the error. -/
def rawS (ns es sg : List Int) : List Int × Int :=
  if keyOk ns es = false then ([], 80) else if sg.length ≠ keySz ns es then ([], 112) else if val ns ≤ Nt.bv sg.reverse then ([], 112)
  else Nt.bytS (lim (Nt.bv sg.reverse ^ (val es).toNat % val ns).toNat) (keySz ns es)
theorem bits_len {X : List Int} (uX : U32s X) : bts X ≤ 32 * X.length := Nt.bitLen_val uX
theorem key_facts {ns es : List Int} (un : U32s ns) (h : keyOk ns es = true) : ns.length ≤ 256 ∧ es.length ≤ 256 ∧ 0 < val ns ∧ keySz ns es = (bts ns + 7) / 8 ∧ keySz ns es ≤ 1024 ∧ 512 ≤ bts ns := by
  have e : keySz ns es = (bts ns + 7) / 8 := by unfold keySz; rw [h]; rfl
  have hb := bits_len un
  unfold keyOk modOk expOk at h
  simp at h
  obtain ⟨⟨h1, h2, _⟩, h3, _⟩ := h
  refine ⟨h1, h3, ?_, e, by rw [e]; omega, h2⟩
  have h0 := val_nonneg un
  rcases Int.lt_or_eq_of_le h0 with h | h
  · exact h
  · exfalso; unfold bts at h2; rw [← h] at h2; revert h2; decide
theorem u8_rev {sg : List Int} (us : U8s sg) : Nt.U8s sg.reverse := fun x hx => us x (List.mem_reverse.1 hx)
theorem bv_len {sg : List Int} (us : U8s sg) (h : sg.length ≤ 2048) : (lim (Nt.bv sg.reverse).toNat).length ≤ 512 := by
  refine lim_len_le ?_
  have h1 := Nt.bv_bound (u8_rev us)
  rw [Int.toNat_of_nonneg h1.1]
  refine Int.lt_of_lt_of_le h1.2 ?_
  rw [List.length_reverse]
  have e : ∀ k : Nat, (4294967296 : Int) ^ k = 256 ^ (4 * k) := fun k => by rw [Int.pow_mul]; rfl
  rw [e]
  obtain ⟨t, ht⟩ : ∃ t, 4 * 512 = t := ⟨_, rfl⟩
  rw [ht]
  have h2 : (256 : Nat) ^ sg.length ≤ 256 ^ t := Nat.pow_le_pow_right (by decide) (by omega)
  have h3 := Int.ofNat_le.2 h2
  rw [Int.natCast_pow, Int.natCast_pow] at h3
  exact h3
theorem exp_ok {ns es : List Int} (un : U32s ns) (h : keyOk ns es = true) {sg : List Int} (us : U8s sg) (hs : sg.length ≤ 2048) :
    Nt.expS (lim (Nt.bv sg.reverse).toNat) es ns = (lim (Nt.bv sg.reverse ^ (val es).toNat % val ns).toNat, 0) := by
  have h1 := key_facts un h
  have h2 := bv_len us hs
  unfold Nt.expS Nt.expLong
  rw [if_neg (by omega), if_neg (by omega), val_lim, Int.toNat_of_nonneg (Nt.bv_bound (u8_rev us)).1]
theorem from_ok {sg : List Int} (hs : sg.length ≤ 2048) : Nt.fromS sg = (lim (Nt.bv sg.reverse).toNat, 0) := by
  unfold Nt.fromS; rw [if_neg (by omega)]
set_option maxHeartbeats 4000000 in
theorem Raw_any {w : World} (a a' : Option Addr) (n c n' c' : Nat) (ns es : List Int) (hn : Sl .u32 w (.slice a n c) ns) (un : U32s ns) (ln : ns.length = n) (he : Sl .u32 w (.slice a' n' c') es) (ue : U32s es) (le : es.length = n') (hb : n ≤ 600) (hb' : n' ≤ 600)
    (b : Option Addr) (m d : Nat) (sg : List Int) (hs : Sl .u8 w (.slice b m d) sg) (us : U8s sg) (ls : sg.length = m) :
    Calls Tryz.prog 28 #[.agg #[.slice a n c, .slice a' n' c'], .slice b m d] w fun e w' => ∃ r, e = .returned (.tuple #[r, .int .i64 (rawS ns es sg).2]) ∧ Sl .u8 w' r (rawS ns es sg).1 ∧ Below w.heap.size w w' := by
  have HC0 : Hid (∀ W, Below w.heap.size w W → Calls Tryz.prog 18 #[.agg #[.slice a n c, .slice a' n' c']] W fun e w'' => e = .returned (.int .i64 (if keyOk ns es then 0 else 80)) ∧ Below W.heap.size W w'') := fun W hw => Check_any a a' n c n' c' ns es (below_sl hw hn) un ln (below_sl hw he) ue le (by omega) (by omega)
  have HS : Hid (∀ W, Below w.heap.size w W → Calls Tryz.prog 19 #[.agg #[.slice a n c, .slice a' n' c']] W fun e w'' => e = .returned (.int .i64 (keySz ns es)) ∧ Below W.heap.size W w'') := fun W hw => Size_key a a' n c n' c' ns es (below_sl hw hn) un ln (below_sl hw he) ue le (by omega) (by omega) (bts_le un (by omega))
  have HFb : Hid (m ≤ 2048 → ∀ W, Below w.heap.size w W → Calls Tryz.prog 58 #[.slice b m d] W fun e w'' => ∃ r, e = .returned (.tuple #[r, .int .i64 0]) ∧ Sl .u32 w'' r (lim (Nt.bv sg.reverse).toNat) ∧ Below W.heap.size W w'') := fun hm W hw => by
    refine (Nt.FromBytes_any sg _ W (below_sl hw hs) us).mono ?_
    rintro e w'' ⟨⟨r, rfl, ho⟩, hB⟩
    rw [from_ok (by omega)] at ho ⊢
    exact ⟨r, rfl, ho.sl, hB⟩
  have HCm : Hid (m ≤ 2048 → ∀ W r, Below w.heap.size w W → Sl .u32 W r (lim (Nt.bv sg.reverse).toNat) → Calls Tryz.prog 59 #[r, .slice a n c] W fun e w'' => e = .returned (.int .i64 (Nt.cmpI (Nt.bv sg.reverse) (val ns))) ∧ Below W.heap.size W w'') := fun hm W r hw hr => by
    refine (Nt.Cmp_any _ ns _ _ W hr (below_sl hw hn) (lim_u32 _) un (by have := bv_len us (by omega); omega) (by omega)).mono ?_
    rintro e w'' ⟨rfl, hB⟩
    rw [val_lim, Int.toNat_of_nonneg (Nt.bv_bound (u8_rev us)).1]
    exact ⟨rfl, hB⟩
  have HEx : Hid (m ≤ 2048 → keyOk ns es = true → ∀ W r, Below w.heap.size w W → Sl .u32 W r (lim (Nt.bv sg.reverse).toNat) → Calls Tryz.prog 60 #[r, .slice a' n' c', .slice a n c] W fun e w'' => ∃ q, e = .returned (.tuple #[q, .int .i64 0]) ∧ Sl .u32 w'' q (lim (Nt.bv sg.reverse ^ (val es).toNat % val ns).toNat) ∧ Below W.heap.size W w'') := fun hm hk W r hw hr => by
    refine (Nt.ExpMod_any _ es ns _ _ _ W hr (below_sl hw he) (below_sl hw hn) (lim_u32 _) ue un (.inr Nt.long_ok)).mono ?_
    rintro e w'' ⟨⟨q, rfl, ho⟩, hB⟩
    rw [exp_ok un hk us (by omega)] at ho ⊢
    exact ⟨q, rfl, ho.sl, hB⟩
  have HBy : Hid (∀ W q, keySz ns es ≤ 1024 → Sl .u32 W q (lim (Nt.bv sg.reverse ^ (val es).toNat % val ns).toNat) → Calls Tryz.prog 61 #[q, .int .i64 (keySz ns es)] W fun e w'' => ∃ t, e = .returned (.tuple #[t, .int .i64 (Nt.bytS (lim (Nt.bv sg.reverse ^ (val es).toNat % val ns).toNat) (keySz ns es)).2]) ∧ Sl .u8 w'' t (Nt.bytS (lim (Nt.bv sg.reverse ^ (val es).toNat % val ns).toNat) (keySz ns es)).1 ∧ Below W.heap.size W w'') := fun W q hk hq => by
    refine (Nt.Bytes_any _ _ _ W hq (lim_u32 _) (by omega) (by omega)).mono ?_
    rintro e w'' ⟨⟨t, rfl, ho, _⟩, hB⟩
    exact ⟨t, rfl, ho.sl, hB⟩
  have HK : Hid (keyOk ns es = true → keySz ns es ≤ 1024) := fun h => (key_facts un h).2.2.2.2.1
  have HR : Hid (rawS ns es sg = if keyOk ns es = false then ([], 80) else if m ≠ keySz ns es then ([], 112) else if val ns ≤ Nt.bv sg.reverse then ([], 112)
    else Nt.bytS (lim (Nt.bv sg.reverse ^ (val es).toNat % val ns).toNat) (keySz ns es)) := by show _ = _; rw [← ls]; rfl
  obtain ⟨RS, hRS⟩ : ∃ RS, rawS ns es sg = RS := ⟨_, rfl⟩
  obtain ⟨Z, hZ⟩ : ∃ Z, keySz ns es = Z := ⟨_, rfl⟩
  obtain ⟨x, hx⟩ : ∃ x, Nt.bv sg.reverse = x := ⟨_, rfl⟩
  rw [hx] at HFb HCm HEx HBy HR
  obtain ⟨y, hy⟩ : ∃ y, lim (x ^ (val es).toNat % val ns).toNat = y := ⟨_, rfl⟩
  rw [hy] at HEx HBy HR
  rw [hRS] at HR ⊢
  rw [hZ] at HS HBy HK HR
  obtain ⟨u, hu⟩ : ∃ u, lim x.toNat = u := ⟨_, rfl⟩
  rw [hu] at HFb HCm HEx
  obtain ⟨N, hN⟩ : ∃ N, val ns = N := ⟨_, rfl⟩
  rw [hN] at HCm HR
  clear hn un ln he ue le hs us ls hRS hZ hx hy hu hN
  go_enter Tryz.func28, Tryz.ntmps28
  go_upto_region 1 with (refine Sh.wpList_boxR rfl 27 (.tmp 0) rfl #[.slice a n c, .slice a' n' c'] rfl ?_)
  refine Sh.wp_gen (fun W => Blk 27 W w.heap.size [.slice a n c, .slice a' n' c'] ∧ Below w.heap.size w W) ⟨Blk.new _ w _, al1 _⟩ ?_
  rintro W2 ⟨hB, hBw⟩
  have H2 : Hid (Below w.heap.size w W2 ∧ W2.rangeAt w.heap.size 0 [.slice a n c, .slice a' n' c'] ∧ ∀ W3, Below W2.heap.size W2 W3 → W3.rangeAt w.heap.size 0 [.slice a n c, .slice a' n' c'] ∧ W3.cell? ⟨w.heap.size, 0, none⟩ = some (.slice a n c) ∧ W3.cell? ⟨w.heap.size, 1, none⟩ = some (.slice a' n' c') ∧ Below w.heap.size w W3) := ⟨hBw, hB.whole, fun W3 h3 => ⟨(below_blk h3 hB.lt hB).whole, (below_blk h3 hB.lt hB).cell 0, (below_blk h3 hB.lt hB).cell 1, below_via hBw h3 (Nat.le_refl _)⟩⟩
  clear hB hBw
  cases hk : keyOk ns es with
  | false =>
    have HC : Hid (∀ W, Below w.heap.size w W → Calls Tryz.prog 18 #[.agg #[.slice a n c, .slice a' n' c']] W fun e w'' => e = .returned (.int .i64 80) ∧ Below W.heap.size W w'') := fun W hw => (HC0.out W hw).mono fun _ _ h => ⟨by rw [h.1, hk]; rfl, h.2⟩
    have HQ : Hid (RS = ([], 80)) := by show _ = _; rw [HR.out, if_pos hk]
    clear hk HC0
    go_wp2_with (first
      | (refine wpList_load_mid rfl 27 (.tmp 2) rfl w.heap.size 0 rfl [.slice a n c, .slice a' n' c'] _ H2.out.2.1 Tryz.underlying27 rfl (by kernel_rfl) ?_)
      | (go_at_call 18; refine (HC.out _ H2.out.1).mono ?_; rintro e w3 ⟨rfl, hb3⟩; have H3 : Hid (Below w.heap.size w w3) := (H2.out.2.2 w3 hb3).2.2.2; clear hb3))
    go_ret2
    exact ⟨_, by rw [HQ.out]; rfl, by rw [HQ.out]; exact nil_sl _, H3.out⟩
  | true =>
    have HC : Hid (∀ W, Below w.heap.size w W → Calls Tryz.prog 18 #[.agg #[.slice a n c, .slice a' n' c']] W fun e w'' => e = .returned (.int .i64 0) ∧ Below W.heap.size W w'') := fun W hw => (HC0.out W hw).mono fun _ _ h => ⟨by rw [h.1, hk]; rfl, h.2⟩
    have hZ := HK.out hk
    have HQ : Hid (RS = if m ≠ Z then ([], 112) else if N ≤ x then ([], 112) else Nt.bytS y Z) := by show _ = _; rw [HR.out, if_neg (by rw [hk]; decide)]
    have HEx2 := fun hm => HEx.out hm hk
    have HX : Hid (m ≤ 2048 → ∀ W r, Below w.heap.size w W → Sl .u32 W r u → Calls Tryz.prog 60 #[r, .slice a' n' c', .slice a n c] W fun e w'' => ∃ q, e = .returned (.tuple #[q, .int .i64 0]) ∧ Sl .u32 w'' q y ∧ Below W.heap.size W w'') := HEx2
    clear hk HC0 HEx HEx2 HK HR
    go_upto_region 5 with (first
      | (refine wpList_load_mid rfl 27 (.tmp 2) rfl w.heap.size 0 rfl [.slice a n c, .slice a' n' c'] _ H2.out.2.1 Tryz.underlying27 rfl (by kernel_rfl) ?_)
      | (go_at_call 18; refine (HC.out _ H2.out.1).mono ?_; rintro e w3 ⟨rfl, hb3⟩; have H3 : Hid (Below w.heap.size w w3 ∧ w3.rangeAt w.heap.size 0 [.slice a n c, .slice a' n' c'] ∧ Below W2.heap.size W2 w3) := ⟨(H2.out.2.2 w3 hb3).2.2.2, (H2.out.2.2 w3 hb3).1, hb3⟩; clear hb3)
      | (refine wpList_load_mid rfl 27 (.tmp 2) rfl w.heap.size 0 rfl [.slice a n c, .slice a' n' c'] _ H3.out.2.1 Tryz.underlying27 rfl (by kernel_rfl) ?_)
      | (go_at_call 19; refine (HS.out _ H3.out.1).mono ?_; rintro e w4 ⟨rfl, hb4⟩; have H4 : Hid (Below W2.heap.size W2 w4) := below_via H3.out.2.2 hb4 (Nat.le_refl _); clear hb4))
    by_cases hm : m = Z
    · have d1 : ((m : Int) != (Z : Int)) = false := by simp [hm]
      have hmb : m ≤ 2048 := by omega
      have HQ2 : Hid (RS = if N ≤ x then ([], 112) else Nt.bytS y Z) := by show _ = _; rw [HQ.out, if_neg (by simpa using hm)]
      have HZ : Hid (Z ≤ 1024) := hZ
      clear hm HQ hZ
      by_cases hlt : N ≤ x
      · have HC2 : Hid (∃ cc : Int, Nt.cmpI x N = cc ∧ decide (cc ≥ 0) = true) := ⟨_, rfl, by unfold Nt.cmpI; rw [if_neg (by omega)]; split <;> decide⟩
        obtain ⟨cc, hcc, dd⟩ := HC2.out
        rw [hcc] at HCm
        have HQ3 : Hid (RS = ([], 112)) := by show _ = _; rw [HQ2.out, if_pos hlt]
        clear hcc HC2 HQ2 hlt
        go_wp2_with (first
          | (go_at_call 58; refine (HFb.out hmb _ (H2.out.2.2 _ H4.out).2.2.2).mono ?_; rintro e w5 ⟨r5, rfl, hr5, hb5⟩; have hc5 := (H2.out.2.2 w5 (below_via H4.out hb5 (Nat.le_refl _))).2.1; have H5 : Hid (Sl .u32 w5 r5 u ∧ Below W2.heap.size W2 w5) := ⟨hr5, below_via H4.out hb5 (Nat.le_refl _)⟩; clear hr5 hb5)
          | (go_at_call 59; refine (HCm.out hmb _ _ (H2.out.2.2 _ H5.out.2).2.2.2 H5.out.1).mono ?_; rintro e w6 ⟨rfl, hb6⟩; have H6 : Hid (Below w.heap.size w w6) := (H2.out.2.2 _ (below_via H5.out.2 hb6 (Nat.le_refl _))).2.2.2; clear hb6))
        go_ret2
        exact ⟨_, by rw [HQ3.out]; rfl, by rw [HQ3.out]; exact nil_sl _, H6.out⟩
      · have HC2 : Hid (Nt.cmpI x N = -1) := by show _ = _; unfold Nt.cmpI; rw [if_pos (by omega)]
        rw [HC2.out] at HCm
        have HQ3 : Hid (RS = Nt.bytS y Z) := by show _ = _; rw [HQ2.out, if_neg hlt]
        clear HC2 HQ2 hlt
        obtain ⟨bs, ee, hbs⟩ : ∃ bs ee, Nt.bytS y Z = (bs, ee) := ⟨_, _, rfl⟩
        rw [hbs] at HBy HQ3
        clear hbs
        go_wp2_with (first
          | (go_at_call 58; refine (HFb.out hmb _ (H2.out.2.2 _ H4.out).2.2.2).mono ?_; rintro e w5 ⟨r5, rfl, hr5, hb5⟩; have hc5 := (H2.out.2.2 w5 (below_via H4.out hb5 (Nat.le_refl _))).2.1; have H5 : Hid (Sl .u32 w5 r5 u ∧ Below W2.heap.size W2 w5) := ⟨hr5, below_via H4.out hb5 (Nat.le_refl _)⟩; clear hr5 hb5)
          | (go_at_call 59; refine (HCm.out hmb _ _ (H2.out.2.2 _ H5.out.2).2.2.2 H5.out.1).mono ?_; rintro e w6 ⟨rfl, hb6⟩; have hc6 := (H2.out.2.2 w6 (below_via H5.out.2 hb6 (Nat.le_refl _))).2.1; have he6 := (H2.out.2.2 w6 (below_via H5.out.2 hb6 (Nat.le_refl _))).2.2.1; have H6 : Hid (Sl .u32 w6 r5 u ∧ Below W2.heap.size W2 w6) := ⟨below_sl hb6 H5.out.1, below_via H5.out.2 hb6 (Nat.le_refl _)⟩; clear hb6 hc5)
          | (go_at_call 60; refine (HX.out hmb _ _ (H2.out.2.2 _ H6.out.2).2.2.2 H6.out.1).mono ?_; rintro e w7 ⟨r7, rfl, hr7, hb7⟩; have H7 : Hid (Sl .u32 w7 r7 y ∧ Below W2.heap.size W2 w7) := ⟨hr7, below_via H6.out.2 hb7 (Nat.le_refl _)⟩; clear hr7 hb7 hc6 he6)
          | (go_at_call 61; refine (HBy.out _ _ HZ.out H7.out.1).mono ?_; rintro e w8 ⟨r8, rfl, hr8, hb8⟩; have H8 : Hid (Sl .u8 w8 r8 bs ∧ Below w.heap.size w w8) := ⟨hr8, (H2.out.2.2 _ (below_via H7.out.2 hb8 (Nat.le_refl _))).2.2.2⟩; clear hr8 hb8))
        go_ret2
        exact ⟨_, by rw [HQ3.out]; rfl, by rw [HQ3.out]; exact H8.out.1, H8.out.2⟩
    · have d1 : ((m : Int) != (Z : Int)) = true := by simp; omega
      have HQ2 : Hid (RS = ([], 112)) := by show _ = _; rw [HQ.out, if_pos hm]
      clear hm HQ
      go_wp2
      go_ret2
      exact ⟨_, by rw [HQ2.out]; rfl, by rw [HQ2.out]; exact nil_sl _, (H2.out.2.2 _ H4.out).2.2.2⟩
end Go.Proofs.YtmfdhfdcokkclaaGreatDoor
/-
  Rsa: the reference's Raw.
-/
namespace Go.Proofs.YtmfdhfdcokkclaaGreatDoor
open Go.RowKit
set_option maxRecDepth 20000
end Go.Proofs.YtmfdhfdcokkclaaGreatDoor
/-
  Rsa: the law RsaRaws.
-/
namespace Go.Proofs.YtmfdhfdcokkclaaGreatDoor
open Go.RowKit
set_option maxRecDepth 20000
end Go.Proofs.YtmfdhfdcokkclaaGreatDoor
/-
  Rsa: whether two rows of bytes are the same (bytes.Equal; the reference's SameBytes), whatever they are.
-/
namespace Go.Proofs.YtmfdhfdcokkclaaGreatDoor
open Go.RowKit
set_option maxRecDepth 20000
theorem u8_toNat {x : Int} (h : U8 x) : ((UInt8.ofNat x.toNat).toNat : Int) = x := by
  have := h.1; have := h.2
  simp; omega
theorem st_inj {X Y : List Int} (hX : U8s X) (hY : U8s Y) (h : strOfNums X = strOfNums Y) : X = Y := by
  have e := congrArg (fun s => s.data.toList.map (fun b => (b.toNat : Int))) h
  simp only [strOfNums_data, List.map_map] at e
  have f : ∀ Z : List Int, U8s Z → Z.map ((fun b : UInt8 => (b.toNat : Int)) ∘ fun n => UInt8.ofNat n.toNat) = Z := by
    intro Z hZ
    induction Z with
    | nil => rfl
    | cons z Z ih =>
      rw [List.map_cons, ih (fun x hx => hZ x (List.mem_cons_of_mem _ hx))]
      congr 1
      exact u8_toNat (hZ z (List.mem_cons_self ..))
  rw [f X hX, f Y hY] at e
  exact e
theorem st_beq (X Y : List Int) (hX : U8s X) (hY : U8s Y) : ((strOfNums X).toList == (strOfNums Y).toList) = decide (X = Y) := by
  rw [Bool.eq_iff_iff, beq_iff_eq, decide_eq_true_eq]
  constructor
  · intro h
    refine st_inj hX hY ?_
    apply ByteArray.ext
    rw [Lib.toList_data, Lib.toList_data] at h
    exact Array.toList_inj.1 h
  · intro h; rw [h]

theorem conv_str {w : World} {a : Option Addr} {n c : Nat} {X : List Int} (h : Sl .u8 w (.slice a n c) X) : Sem.run Tryz.prog (convert 22 9 (.slice a n c)) w = .ok (.string (strOfNums X)) w := by
  obtain ⟨a', c', he, _, h⟩ := h
  cases he
  cases a with
  | none =>
    rcases h with h | ⟨b, off, hb, _⟩
    · subst h; exact run_convert_bytes_nil w _ _ Tryz.und8 Tryz.e8 _ c _ Tryz.str
    · cases hb
  | some x =>
    rcases h with h | ⟨b, off, hb, _, hr⟩
    · subst h
      obtain ⟨b, off, sp⟩ := x
      have : Sem.run Tryz.prog (convert 22 9 (.slice (some ⟨b, off, sp⟩) 0 c)) w = .ok (.string (strOfNums [])) w := by
        rw [run_convert_bytes_string w _ _ _ _ 0 c Tryz.und8 Tryz.e8 Tryz.str]
        simp [strOfNums]
        rfl
      exact this
    · cases hb
      exact run_convert_bytes_arg w _ _ Tryz.und8 Tryz.e8 b off _ c X rfl (fun i hi => hr i hi) _ Tryz.str
set_option maxHeartbeats 1000000 in
theorem BEq_any {w : World} (a a' : Option Addr) (n c n' c' : Nat) (X Y : List Int) (hX : Sl .u8 w (.slice a n c) X) (hY : Sl .u8 w (.slice a' n' c') Y) (uX : U8s X) (uY : U8s Y) (q : Bool) (hq : decide (X = Y) = q) :
    Calls Tryz.prog 29 #[.slice a n c, .slice a' n' c'] w fun e w' => e = .returned (.bool q) ∧ w = w' := by
  have h1 := conv_str hX
  have h2 := conv_str hY
  have h3 := st_beq X Y uX uY
  rw [hq] at h3
  clear hX hY uX uY hq
  go_enter Tryz.func29, Tryz.ntmps29
  go_wp2
  go_ret
  exact ⟨rfl, rfl⟩
set_option maxHeartbeats 2000000 in
theorem Same8_any {w : World} (v u : Value) (X Y : List Int) (hx : Sl .u8 w v X) (hy : Sl .u8 w u Y) (lx : X.length ≤ 1152921504606846976) (ly : Y.length ≤ 1152921504606846976) (q : Bool) (hq : decide (X = Y) = q) :
    Calls Tryz.prog 13 #[v, u] w fun e w' => e = .returned (.bool q) ∧ Below w.heap.size w w' := by
  obtain ⟨a1, c1, rfl, hc1, h1⟩ := hx
  obtain ⟨a2, c2, rfl, hc2, h2⟩ := hy
  by_cases hl : X.length = Y.length
  · by_cases hne : X = []
    · have hYn : Y = [] := List.eq_nil_of_length_eq_zero (by rw [← hl, hne]; rfl)
      subst hne; subst hYn
      have HQ : Hid (q = true) := by show _ = _; rw [← hq]; rfl
      clear hq
      simp only [List.length_nil]
      go_enter Tryz.func13, Tryz.ntmps13
      go_wp2
      go_loop [5] (fun i => i = .int .i64 0) (fun _ => 0)
      case atStart => rfl
      case round =>
        subst hrel
        go_wp2
        go_ret
        exact ⟨by rw [HQ.out]; rfl, Below.refl _ _⟩
    · rcases h1 with h1 | ⟨b1, o1, rfl, hb1, hr1⟩
      · exact absurd h1 hne
      rcases h2 with h2 | ⟨b2, o2, rfl, hb2, hr2⟩
      · exact absurd (List.eq_nil_of_length_eq_zero (by rw [hl, h2]; rfl)) hne
      obtain ⟨n, hn⟩ : ∃ n, X.length = n := ⟨_, rfl⟩
      rw [hn] at hl
      rw [hn] at lx hc1 ⊢
      rw [← hl] at hc2 ⊢
      have HN : Hid (X.length = n ∧ Y.length = n) := ⟨hn, hl.symm⟩
      have HQ : Hid (decide (X = Y) = q) := hq
      clear hn hne hl ly hq
      go_enter Tryz.func13, Tryz.ntmps13
      go_wp2
      go_loopw [5] (fun i wr => ∃ k : Nat, k ≤ n ∧ i = .int .i64 k ∧ Below w.heap.size w wr ∧ Hid (X.take k = Y.take k)) (fun i _ => n - (intOf i).toNat)
      case atStart => exact ⟨0, Nat.zero_le _, rfl, Below.refl _ _, rfl⟩
      case round =>
        obtain ⟨k, hk, rfl, hB, hT⟩ := hrel
        by_cases hkn : k < n
        · obtain ⟨x, hx⟩ : ∃ x, X.getD k 0 = x := ⟨_, rfl⟩
          obtain ⟨y, hy⟩ : ∃ y, Y.getD k 0 = y := ⟨_, rfl⟩
          have hcx : wr.cell? ⟨b1, o1 + k, none⟩ = some (.int .u8 x) := by rw [← hx]; exact (below_rd hB hb1 hr1) k (by rw [HN.out.1]; exact hkn)
          have hcy : wr.cell? ⟨b2, o2 + k, none⟩ = some (.int .u8 y) := by rw [← hy]; exact (below_rd hB hb2 hr2) k (by rw [HN.out.2]; exact hkn)
          have HB : Hid (Below w.heap.size w wr) := hB
          have HXY : Hid (X.getD k 0 = x ∧ Y.getD k 0 = y) := ⟨hx, hy⟩
          clear hx hy hB hr1 hr2
          by_cases hxy : x = y
          · have HT2 : Hid (X.take (k + 1) = Y.take (k + 1)) := by
              show _ = _
              have e1 := HXY.out.1; have e2 := HXY.out.2
              have l1 := HN.out.1; have l2 := HN.out.2
              rw [List.take_succ_eq_append_getElem (by omega), List.take_succ_eq_append_getElem (by omega), hT.out]
              congr 2
              simp [List.getD, List.getElem?_eq_getElem (show k < X.length by omega)] at e1
              simp [List.getD, List.getElem?_eq_getElem (show k < Y.length by omega)] at e2
              rw [e1, e2, hxy]
            subst hxy
            clear hT
            go_wp2
            go_quiet (fail)
            go_wp2
            go_roundw
            case rel => exact ⟨k + 1, by omega, by go_num, HB.out.trans ⟨rfl, rfl, rfl, Nat.le_refl _, fun _ _ => rfl⟩, HT2⟩
            case measure => simp [intOf]; omega
          · have hd : (x != y) = true := by simpa using hxy
            have HF : Hid (q = false) := by
              show _ = _
              rw [← HQ.out]
              simp
              intro h
              apply hxy
              rw [← HXY.out.1, ← HXY.out.2, h]
            clear hxy hT
            go_wp2
            go_quiet (fail)
            go_wp2
            go_ret
            exact ⟨by rw [HF.out]; rfl, HB.out.trans ⟨rfl, rfl, rfl, Nat.le_refl _, fun _ _ => rfl⟩⟩
        · have HB : Hid (Below w.heap.size w wr) := hB
          have HF : Hid (q = true) := by
            show _ = _
            rw [← HQ.out]
            have l1 := HN.out.1; have l2 := HN.out.2
            have hT := hT.out
            rw [List.take_of_length_le (by omega), List.take_of_length_le (by omega)] at hT
            simp [hT]
          clear hB hT
          go_wp2
          go_ret
          exact ⟨by rw [HF.out]; rfl, HB.out⟩
  · have hd : ((X.length : Int) != (Y.length : Int)) = true := by simp; omega
    have HF : Hid (q = false) := by
      show _ = _
      rw [← hq]; simp; intro h; apply hl; rw [h]
    clear hq hl
    go_enter Tryz.func13, Tryz.ntmps13
    go_wp2
    go_ret
    exact ⟨by rw [HF.out]; rfl, Below.refl _ _⟩
end Go.Proofs.YtmfdhfdcokkclaaGreatDoor
/-
  Der: the reference's Head.
-/
namespace Go.Proofs.YtmfdhfdcokkclaaGreatDoor
open Go.RowKit
theorem tp_cons (n k : Nat) : ∀ i, i ≤ k → tp n (k + 1) (i + 1) = gr n (k + 1) :: tp n k i
  | 0, _ => rfl
  | i + 1, h => by
    show tp n (k + 1) (i + 1) ++ [gr n (k + 1 - (i + 1))] = gr n (k + 1) :: (tp n k i ++ [gr n (k - i)])
    rw [tp_cons n k i (by omega), show k + 1 - (i + 1) = k - i by omega]
    rfl
theorem sev_cons (n k : Nat) : sev (k + 1) n = gr n (k + 1) :: sev k n := by
  unfold sev
  rw [tp_cons n k k (Nat.le_refl _)]
  rfl
theorem tb_cons (n k : Nat) : ∀ i, i ≤ k → tb n (k + 1) (i + 1) = by8 n k :: tb n k i
  | 0, _ => rfl
  | i + 1, h => by
    show tb n (k + 1) (i + 1) ++ [by8 n (k + 1 - 1 - (i + 1))] = by8 n k :: (tb n k i ++ [by8 n (k - 1 - i)])
    rw [tb_cons n k i (by omega), show k + 1 - 1 - (i + 1) = k - 1 - i by omega]
    rfl
/-- What the reference has of a number's groups after j rounds. -/
def rs (n : Nat) : Nat → List Int
  | 0 => []
  | j + 1 => sev j n
theorem rs_len (n j : Nat) : (rs n j).length = j := by
  cases j with
  | zero => rfl
  | succ j => show (sev j n).length = _; unfold sev; simp [tp_len]
theorem rs_next (n j : Nat) : rs n (j + 1) = ((n / 128 ^ j % 128 + (if j = 0 then 0 else 128) : Nat) : Int) :: rs n j := by
  cases j with
  | zero => show sev 0 n = _; unfold sev; simp [tp, rs]
  | succ j => show sev (j + 1) n = _ :: sev j n; rw [sev_cons]; simp [gr]
theorem Row.lt {k : IntKind} {e : TypeId} {B : Nat} {w : World} {v : Value} {xs : List Int} (h : Row k e B w v xs) : ∀ b n c, v = .slice (some ⟨b, 0, none⟩) n c → b < w.heap.size := by
  intro b n c hv
  rcases h with ⟨rfl, _⟩ | ⟨b', S, rfl, _, hA, _⟩
  · simp at hv
  · simp only [Value.slice.injEq, Option.some.injEq, Addr.mk.injEq, and_true] at hv
    obtain ⟨rfl, _⟩ := hv
    exact (Array.getElem?_eq_some_iff.1 hA).1
theorem Grew.keep {k k2 : IntKind} {e e2 : TypeId} {C : Nat} {w w' : World} {v u : Value} {ys zs : List Int} (h : Grew k e w w' v ys) (hu : Row k2 e2 C w u zs) (hC : ∀ b n c, v = .slice (some ⟨b, 0, none⟩) n c → b < C) : Row k2 e2 C w' u zs := by
  rcases h with h | ⟨b, n, S, rfl, hA, hU, _, _⟩
  · exact hu.below h
  · rcases hu with hu | ⟨b', S', rfl, hB', hA', h2⟩
    · exact .inl hu
    · exact .inr ⟨b', S', rfl, hB', hU.arr hA' (by have := hC b _ _ rfl; omega), h2⟩
abbrev el (c t : Int) (cons : Bool) : Array Value := #[.int .i64 0, .int .i64 c, .int .i64 t, .bool cons, .slice none 0 0]
set_option maxRecDepth 20000 in
set_option maxHeartbeats 4000000 in
theorem RHead_short {w : World} (c : Int) (cons : Bool) (t k n l : Nat) (h0 : 0 ≤ c) (h3 : c ≤ 3) (hk : t / 128 ^ k < 128) (hk1 : ∀ j, j < k → 128 ≤ t / 128 ^ j) (ht : t ≤ 268435455) (hl : n / 256 ^ l = 0) (hl1 : ∀ j, j < l → 0 < n / 256 ^ j) (hl8 : l ≤ 7) (hn : n ≤ 16777216) (hlt : t < 31) :
    Calls Tryz.prog 104 #[.agg (el c t cons), .int .i64 n] w fun e w' => ∃ r, e = .returned r ∧ Row .u8 5 w.heap.size w' r (headB c cons t k ++ lenB n l) ∧ Below w.heap.size w w' := by
  have HK : Hid ((t / 128 ^ k < 128 ∧ ∀ j, j < k → 128 ≤ t / 128 ^ j) ∧ (n / 256 ^ l = 0 ∧ ∀ j, j < l → 0 < n / 256 ^ j)) := ⟨⟨hk, hk1⟩, ⟨hl, hl1⟩⟩
  clear hk hk1 hl hl1
  have hc : c = 0 ∨ c = 1 ∨ c = 2 ∨ c = 3 := by omega
  · have HB : Hid (headB c cons t k = [frst c cons + t]) := by show _ = _; unfold headB; rw [if_pos hlt]
    have w1 : IntKind.u8.wrap (t : Int) = (t : Int) := wrapU8 _ (by omega) (by omega)
    have l1 : (t : Int) < 31 := by omega
    obtain ⟨y, hy⟩ : ∃ y, frst c cons + t = y := ⟨_, rfl⟩
    rw [hy] at HB
    rcases hc with rfl | rfl | rfl | rfl <;> cases cons
    all_goals
      have hf := hy
      unfold frst at hf
      simp at hf
      have hfw : IntKind.u8.wrap y = y := wrapU8 _ (by omega) (by omega)
      go_enter Tryz.func104, Tryz.ntmps104
      go_upto_region 16 with (fail)
      refine wp_gen (fun W => Row .u8 5 w.heap.size W (.slice (some ⟨w.heap.size + 1, 0, none⟩) 1 1) [y] ∧ Below w.heap.size w W) ⟨Row.arr (S := [y]) (arr_nw (by simp) rfl) (by omega) (by simp [maxLen]), al2' (al1 _)⟩ ?_
      rintro W ⟨hrX, hbX⟩
      obtain ⟨X, hX⟩ : ∃ X, [y] = X := ⟨_, rfl⟩
      have HX : Hid (Row .u8 5 w.heap.size W (.slice (some ⟨w.heap.size + 1, 0, none⟩) 1 1) X ∧ Below w.heap.size w W ∧ X.length ≤ 20) := ⟨hX ▸ hrX, hbX, by rw [← hX]; simp⟩
      have HXe : Hid (headB _ _ t k = X) := HB.out.trans hX
      clear hrX hbX hX
      by_cases hs : n < 128
      · have HLn : Hid (lenB n l = [(n : Int)]) := by show _ = _; unfold lenB; rw [if_pos hs]
        have s1 : (n : Int) < 128 := by omega
        have s2 : IntKind.u8.wrap (n : Int) = (n : Int) := wrapU8 _ (by omega) (by omega)
        go_wp2_with (at_builtin; refine wpList_ap rfl (.tmp 53) (.tmp 56) 22 22 rfl .u8 5 1 Tryz.und8 Tryz.info8 (by decide) w.heap.size _ X rfl (HX.out.1.alloc _) _ [(n : Int)] rfl (src_sl Tryz.und8 (new1 _)) (by have := HX.out.2.2; simp; omega) (by have := HX.out.2.1.size; simp; omega) ?_; intro v4 w4 hr4 hg4)
        have hb4 : Below w.heap.size w w4 := (al2' HX.out.2.1).trans (hg4.below (HX.out.1.alloc _) (by have := HX.out.2.1.size; simp; omega))
        go_ret
        exact ⟨_, rfl, by rw [HLn.out, HXe.out]; exact hr4, hb4⟩
      · have HLn : Hid (lenB n l = (128 + (l : Int)) :: tb n l l) := by show _ = _; unfold lenB; rw [if_neg hs]
        have s1 : ¬ (n : Int) < 128 := by omega
        go_wp2_with fail
        go_loopw [1, 10] (fun nv bv wr => ∃ (j q : Nat) (b0 : Value), b0 = bv ∧ nv = .int .i64 q ∧ j ≤ l ∧ n / 256 ^ j = q ∧ q ≤ n ∧ Row .u8 5 W.heap.size wr b0 (tb n j j) ∧ Below W.heap.size W wr) (fun nv _ _ => (intOf nv).toNat)
        case atStart => exact ⟨0, n, _, rfl, rfl, by omega, by simp, Nat.le_refl _, Row.nil _ _ _ _, Below.refl _ _⟩
        case round =>
          obtain ⟨j, q, b0, rfl, rfl, hj, hq, hqn, hr5, hb5⟩ := hrel
          have H5 : Hid (Row .u8 5 W.heap.size wr b0 (tb n j j) ∧ Below W.heap.size W wr ∧ n / 256 ^ j = q) := ⟨hr5, hb5, hq⟩
          clear hb5 hq
          by_cases hlt2 : j < l
          · have g1 : (0 : Int) < (q : Int) := by have := HK.out.2.2 j hlt2; rw [H5.out.2.2] at this; omega
            obtain ⟨z, hz⟩ : ∃ z : Int, (q : Int) % 256 = z := ⟨_, rfl⟩
            have z2 : IntKind.u8.wrap z = z := wrapU8 _ (by omega) (by omega)
            have HZ : Hid (by8 n j = z ∧ (q : Int) % 256 = z) := ⟨by unfold by8; rw [H5.out.2.2]; omega, hz⟩
            have hq2 : q / 256 < q := by omega
            clear hr5
            go_wp2_with (at_builtin; refine wpList_ap rfl (.tmp 65) (.tmp 66) 22 22 rfl .u8 5 1 Tryz.und8 Tryz.info8 (by decide) W.heap.size _ [z] rfl (Row.arr (S := [z]) (arr_nw rfl rfl) H5.out.2.1.size (by simp [maxLen])) _ (tb n j j) rfl (src_sl Tryz.und8 (H5.out.1.alloc _).sl) (by have := tb_len n j j; simp; omega) (by have := H5.out.2.1.size; simp; omega) ?_; intro v6 w6 hr6 hg6)
            have hb6 : Below W.heap.size W w6 := (al2' H5.out.2.1).trans (hg6.below (Row.arr (S := [z]) (arr_nw rfl rfl) H5.out.2.1.size (by simp [maxLen])) (by have := H5.out.2.1.size; simp; omega))
            have H6 : Hid (Row .u8 5 W.heap.size w6 v6 (tb n (j + 1) (j + 1)) ∧ Below W.heap.size W w6) := ⟨by rw [tb_cons n j j (Nat.le_refl _), HZ.out.1]; exact hr6, hb6⟩
            clear hr6 hg6 hb6
            go_roundw
            case rel => exact ⟨j + 1, q / 256, _, rfl, by go_num, by omega, by rw [Nat.pow_succ, ← Nat.div_div_eq_div_mul, H5.out.2.2], by omega, H6.out.1, H6.out.2⟩
            case measure => simp [intOf]; omega
          · obtain rfl : j = l := by omega
            have g1 : ¬ (0 : Int) < (q : Int) := by have := HK.out.2.1; rw [H5.out.2.2] at this; omega
            obtain ⟨a5, c5, hv5⟩ := hr5.ne
            rw [tb_len] at hv5
            subst hv5
            have s3 : IntKind.u8.wrap (128 + (j : Int)) = 128 + (j : Int) := wrapU8 _ (by omega) (by omega)
            clear hr5
            go_wp2_with (first
              | (at_builtin; refine wpList_ap rfl (.tmp 68) (.tmp 73) 22 22 rfl .u8 5 1 Tryz.und8 Tryz.info8 (by decide) w.heap.size _ X rfl ((HX.out.1.below H5.out.2.1).alloc _) _ [128 + (j : Int)] rfl (src_sl Tryz.und8 (new1 _)) (by have := HX.out.2.2; simp; omega) (by have := HX.out.2.1.size; have := H5.out.2.1.size; simp; omega) ?_; intro v7 w7 hr7 hg7; have H7 : Hid (Row .u8 5 w.heap.size w7 v7 (X ++ [128 + (j : Int)]) ∧ Row .u8 5 W.heap.size w7 (.slice a5 j c5) (tb n j j) ∧ Below w.heap.size w w7) := ⟨hr7, hg7.keep (H5.out.1.alloc _) HX.out.1.lt, ((HX.out.2.1.trans (H5.out.2.1.mono HX.out.2.1.size)).trans ((al1 _).mono (by have := HX.out.2.1.size; have := H5.out.2.1.size; omega))).trans (hg7.below ((HX.out.1.below H5.out.2.1).alloc _) (by have := HX.out.2.1.size; have := H5.out.2.1.size; simp; omega))⟩; clear hr7 hg7)
              | (at_builtin; refine wpList_ap rfl (.tmp 74) (.tmp 75) 22 22 rfl .u8 5 1 Tryz.und8 Tryz.info8 (by decide) w.heap.size _ (X ++ [128 + (j : Int)]) rfl H7.out.1 _ (tb n j j) rfl (src_sl Tryz.und8 H7.out.2.1.sl) (by have := HX.out.2.2; have := tb_len n j j; simp; omega) H7.out.2.2.size ?_; intro v8 w8 hr8 hg8))
            have hb8 : Below w.heap.size w w8 := H7.out.2.2.trans (hg8.below H7.out.1 H7.out.2.2.size)
            go_ret
            refine ⟨_, rfl, ?_, hb8⟩
            rw [HLn.out, HXe.out]
            rw [List.append_assoc] at hr8
            exact hr8
end Go.Proofs.YtmfdhfdcokkclaaGreatDoor
/-
  Der: the reference's Head at a long tag.
-/
namespace Go.Proofs.YtmfdhfdcokkclaaGreatDoor
open Go.RowKit
theorem sev_pos {t k : Nat} (hk1 : ∀ j, j < k → 128 ≤ t / 128 ^ j) (ht : 0 < t) : ∀ j, j ≤ k → 0 < t / 128 ^ j := by
  intro j hj
  cases j with
  | zero => simpa using ht
  | succ j =>
    have := hk1 j (by omega)
    rw [Nat.pow_succ, ← Nat.div_div_eq_div_mul]
    omega
theorem sev_end {t k : Nat} (hk : t / 128 ^ k < 128) : t / 128 ^ (k + 1) = 0 := by
  rw [Nat.pow_succ, ← Nat.div_div_eq_div_mul]
  exact Nat.div_eq_of_lt hk
set_option maxRecDepth 20000 in
set_option maxHeartbeats 4000000 in
theorem RHead_long {w : World} (c : Int) (cons : Bool) (t k n l : Nat) (h0 : 0 ≤ c) (h3 : c ≤ 3) (hk : t / 128 ^ k < 128) (hk1 : ∀ j, j < k → 128 ≤ t / 128 ^ j) (hk8 : k ≤ 8) (ht : t ≤ 268435455) (hl : n / 256 ^ l = 0) (hl1 : ∀ j, j < l → 0 < n / 256 ^ j) (hl8 : l ≤ 7) (hn : n ≤ 16777216) (hlt : ¬ t < 31) :
    Calls Tryz.prog 104 #[.agg (el c t cons), .int .i64 n] w fun e w' => ∃ r, e = .returned r ∧ Row .u8 5 w.heap.size w' r (headB c cons t k ++ lenB n l) ∧ Below w.heap.size w w' := by
  have HK : Hid ((t / 128 ^ k < 128 ∧ ∀ j, j < k → 128 ≤ t / 128 ^ j) ∧ (n / 256 ^ l = 0 ∧ ∀ j, j < l → 0 < n / 256 ^ j)) := ⟨⟨hk, hk1⟩, ⟨hl, hl1⟩⟩
  clear hk hk1 hl hl1
  have hc : c = 0 ∨ c = 1 ∨ c = 2 ∨ c = 3 := by omega
  have HB : Hid (headB c cons t k = (frst c cons + 31) :: rs t (k + 1)) := by show _ = _; unfold headB; rw [if_neg hlt]; rfl
  obtain ⟨X, hX⟩ : ∃ X, headB c cons t k = X := ⟨_, rfl⟩
  have HX0 : Hid (headB c cons t k = X ∧ X = (frst c cons + 31) :: rs t (k + 1)) := ⟨hX, by rw [← hX, HB.out]⟩
  clear hX HB
  have HP : Hid ((∀ j, j ≤ k → 0 < t / 128 ^ j) ∧ t / 128 ^ (k + 1) = 0) := ⟨sev_pos HK.out.1.2 (by omega), sev_end HK.out.1.1⟩
  have l1 : ¬ (t : Int) < 31 := by omega
  rcases hc with rfl | rfl | rfl | rfl <;> cases cons
  all_goals
    go_enter Tryz.func104, Tryz.ntmps104
    go_wp2_with fail
    go_loopw [7, 8] (fun bv vv wr => ∃ (j q : Nat) (b0 : Value), b0 = bv ∧ vv = .int .i64 q ∧ j ≤ k + 1 ∧ t / 128 ^ j = q ∧ q ≤ t ∧ Row .u8 5 w.heap.size wr b0 (rs t j) ∧ Below w.heap.size w wr) (fun _ vv _ => (intOf vv).toNat)
    case atStart => exact ⟨0, t, _, rfl, rfl, by omega, by simp, Nat.le_refl _, Row.nil _ _ _ _, al1 _⟩
    case round =>
      obtain ⟨j, q, b0, rfl, rfl, hj, hq, hqt, hr5, hb5⟩ := hrel
      obtain ⟨a5, c5, hv5⟩ := hr5.ne
      rw [rs_len] at hv5
      subst hv5
      have H5 : Hid (Row .u8 5 w.heap.size wr (.slice a5 j c5) (rs t j) ∧ Below w.heap.size w wr ∧ t / 128 ^ j = q) := ⟨hr5, hb5, hq⟩
      clear hb5 hq hr5
      by_cases hjk : j ≤ k
      · have g1 : (0 : Int) < (q : Int) := by have := HP.out.1 j hjk; rw [H5.out.2.2] at this; omega
        have hq2 : q / 128 < q := by omega
        obtain ⟨z, hz⟩ : ∃ z : Int, (q : Int) % 128 = z := ⟨_, rfl⟩
        have z2 : IntKind.u8.wrap z = z := wrapU8 _ (by omega) (by omega)
        have z3 : IntKind.u8.wrap (z + 128) = z + 128 := wrapU8 _ (by omega) (by omega)
        by_cases hj0 : j = 0
        · have HZ : Hid (rs t (j + 1) = z :: rs t j ∧ (q : Int) % 128 = z) := ⟨by rw [rs_next, if_pos hj0, H5.out.2.2]; congr 1 <;> omega, hz⟩
          have j0 : ¬ (0 : Int) < (j : Int) := by omega
          go_wp2_with (at_builtin; refine wpList_ap rfl (.tmp 43) (.tmp 44) 22 22 rfl .u8 5 1 Tryz.und8 Tryz.info8 (by decide) w.heap.size _ [z] rfl (Row.arr (S := [z]) (arr_nw rfl rfl) H5.out.2.1.size (by simp [maxLen])) _ (rs t j) rfl (src_sl Tryz.und8 (H5.out.1.alloc _).sl) (by have := rs_len t j; simp; omega) (by have := H5.out.2.1.size; simp; omega) ?_; intro v6 w6 hr6 hg6)
          have hb6 : Below w.heap.size w w6 := (al2' H5.out.2.1).trans (hg6.below (Row.arr (S := [z]) (arr_nw rfl rfl) H5.out.2.1.size (by simp [maxLen])) (by have := H5.out.2.1.size; simp; omega))
          have H6 : Hid (Row .u8 5 w.heap.size w6 v6 (rs t (j + 1)) ∧ Below w.heap.size w w6) := ⟨by rw [HZ.out.1]; exact hr6, hb6⟩
          clear hr6 hg6 hb6
          go_roundw
          case rel => exact ⟨j + 1, q / 128, _, rfl, by go_num, by omega, by rw [Nat.pow_succ, ← Nat.div_div_eq_div_mul, H5.out.2.2], by omega, H6.out.1, H6.out.2⟩
          case measure => simp [intOf]; omega
        · have HZ : Hid (rs t (j + 1) = (z + 128) :: rs t j ∧ (q : Int) % 128 = z) := ⟨by rw [rs_next, if_neg hj0, H5.out.2.2]; congr 1 <;> omega, hz⟩
          have j0 : (0 : Int) < (j : Int) := by omega
          go_wp2_with (at_builtin; refine wpList_ap rfl (.tmp 43) (.tmp 44) 22 22 rfl .u8 5 1 Tryz.und8 Tryz.info8 (by decide) w.heap.size _ [z + 128] rfl (Row.arr (S := [z + 128]) (arr_nw rfl rfl) H5.out.2.1.size (by simp [maxLen])) _ (rs t j) rfl (src_sl Tryz.und8 (H5.out.1.alloc _).sl) (by have := rs_len t j; simp; omega) (by have := H5.out.2.1.size; simp; omega) ?_; intro v6 w6 hr6 hg6)
          have hb6 : Below w.heap.size w w6 := (al2' H5.out.2.1).trans (hg6.below (Row.arr (S := [z + 128]) (arr_nw rfl rfl) H5.out.2.1.size (by simp [maxLen])) (by have := H5.out.2.1.size; simp; omega))
          have H6 : Hid (Row .u8 5 w.heap.size w6 v6 (rs t (j + 1)) ∧ Below w.heap.size w w6) := ⟨by rw [HZ.out.1]; exact hr6, hb6⟩
          clear hr6 hg6 hb6
          go_roundw
          case rel => exact ⟨j + 1, q / 128, _, rfl, by go_num, by omega, by rw [Nat.pow_succ, ← Nat.div_div_eq_div_mul, H5.out.2.2], by omega, H6.out.1, H6.out.2⟩
          case measure => simp [intOf]; omega
      · obtain rfl : j = k + 1 := by omega
        have g1 : ¬ (0 : Int) < (q : Int) := by have := HP.out.2; rw [H5.out.2.2] at this; omega
        go_upto_region 16 with ((at_builtin; refine wpList_ap rfl (.tmp 48) (.tmp 49) 22 22 rfl .u8 5 1 Tryz.und8 Tryz.info8 (by decide) w.heap.size _ [_] rfl (Row.arr (S := [_]) (arr_nw rfl rfl) H5.out.2.1.size (by simp [maxLen])) _ (rs t (k + 1)) rfl (src_sl Tryz.und8 (H5.out.1.alloc _).sl) (by have := rs_len t (k + 1); simp; omega) (by have := H5.out.2.1.size; simp; omega) ?_; intro v3 W hr3 hg3))
        have hb3 : Below w.heap.size w W := (al2' H5.out.2.1).trans (hg3.below (Row.arr (S := [_]) (arr_nw rfl rfl) H5.out.2.1.size (by simp [maxLen])) (by have := H5.out.2.1.size; simp; omega))
        have HX : Hid (Row .u8 5 w.heap.size W v3 X ∧ Below w.heap.size w W ∧ X.length ≤ 20) := ⟨by rw [HX0.out.2]; exact hr3, hb3, by rw [HX0.out.2, List.length_cons, rs_len]; omega⟩
        have HXe : Hid (headB _ _ t k = X) := HX0.out.1
        clear hr3 hg3 hb3
        by_cases hs : n < 128
        · have HLn : Hid (lenB n l = [(n : Int)]) := by show _ = _; unfold lenB; rw [if_pos hs]
          have s1 : (n : Int) < 128 := by omega
          have s2 : IntKind.u8.wrap (n : Int) = (n : Int) := wrapU8 _ (by omega) (by omega)
          go_wp2_with (at_builtin; refine wpList_ap rfl (.tmp 53) (.tmp 56) 22 22 rfl .u8 5 1 Tryz.und8 Tryz.info8 (by decide) w.heap.size _ X rfl (HX.out.1.alloc _) _ [(n : Int)] rfl (src_sl Tryz.und8 (new1 _)) (by have := HX.out.2.2; simp; omega) (by have := HX.out.2.1.size; simp; omega) ?_; intro v4 w4 hr4 hg4)
          have hb4 : Below w.heap.size w w4 := (al2' HX.out.2.1).trans (hg4.below (HX.out.1.alloc _) (by have := HX.out.2.1.size; simp; omega))
          go_ret
          exact ⟨_, rfl, by rw [HLn.out, HXe.out]; exact hr4, hb4⟩
        · have HLn : Hid (lenB n l = (128 + (l : Int)) :: tb n l l) := by show _ = _; unfold lenB; rw [if_neg hs]
          have s1 : ¬ (n : Int) < 128 := by omega
          go_wp2_with fail
          go_loopw [1, 10] (fun nv bv wr => ∃ (j q : Nat) (b0 : Value), b0 = bv ∧ nv = .int .i64 q ∧ j ≤ l ∧ n / 256 ^ j = q ∧ q ≤ n ∧ Row .u8 5 W.heap.size wr b0 (tb n j j) ∧ Below W.heap.size W wr) (fun nv _ _ => (intOf nv).toNat)
          case atStart => exact ⟨0, n, _, rfl, rfl, by omega, by simp, Nat.le_refl _, Row.nil _ _ _ _, Below.refl _ _⟩
          case round =>
            obtain ⟨j, q, b0, rfl, rfl, hj, hq, hqn, hr5, hb5⟩ := hrel
            have H5 : Hid (Row .u8 5 W.heap.size wr b0 (tb n j j) ∧ Below W.heap.size W wr ∧ n / 256 ^ j = q) := ⟨hr5, hb5, hq⟩
            clear hb5 hq
            by_cases hlt2 : j < l
            · have g1 : (0 : Int) < (q : Int) := by have := HK.out.2.2 j hlt2; rw [H5.out.2.2] at this; omega
              obtain ⟨z, hz⟩ : ∃ z : Int, (q : Int) % 256 = z := ⟨_, rfl⟩
              have z2 : IntKind.u8.wrap z = z := wrapU8 _ (by omega) (by omega)
              have HZ : Hid (by8 n j = z ∧ (q : Int) % 256 = z) := ⟨by unfold by8; rw [H5.out.2.2]; omega, hz⟩
              have hq2 : q / 256 < q := by omega
              clear hr5
              go_wp2_with (at_builtin; refine wpList_ap rfl (.tmp 65) (.tmp 66) 22 22 rfl .u8 5 1 Tryz.und8 Tryz.info8 (by decide) W.heap.size _ [z] rfl (Row.arr (S := [z]) (arr_nw rfl rfl) H5.out.2.1.size (by simp [maxLen])) _ (tb n j j) rfl (src_sl Tryz.und8 (H5.out.1.alloc _).sl) (by have := tb_len n j j; simp; omega) (by have := H5.out.2.1.size; simp; omega) ?_; intro v6 w6 hr6 hg6)
              have hb6 : Below W.heap.size W w6 := (al2' H5.out.2.1).trans (hg6.below (Row.arr (S := [z]) (arr_nw rfl rfl) H5.out.2.1.size (by simp [maxLen])) (by have := H5.out.2.1.size; simp; omega))
              have H6 : Hid (Row .u8 5 W.heap.size w6 v6 (tb n (j + 1) (j + 1)) ∧ Below W.heap.size W w6) := ⟨by rw [tb_cons n j j (Nat.le_refl _), HZ.out.1]; exact hr6, hb6⟩
              clear hr6 hg6 hb6
              go_roundw
              case rel => exact ⟨j + 1, q / 256, _, rfl, by go_num, by omega, by rw [Nat.pow_succ, ← Nat.div_div_eq_div_mul, H5.out.2.2], by omega, H6.out.1, H6.out.2⟩
              case measure => simp [intOf]; omega
            · obtain rfl : j = l := by omega
              have g1 : ¬ (0 : Int) < (q : Int) := by have := HK.out.2.1; rw [H5.out.2.2] at this; omega
              obtain ⟨a5, c5, hv5⟩ := hr5.ne
              rw [tb_len] at hv5
              subst hv5
              have s3 : IntKind.u8.wrap (128 + (j : Int)) = 128 + (j : Int) := wrapU8 _ (by omega) (by omega)
              clear hr5
              go_wp2_with (first
                | (at_builtin; refine wpList_ap rfl (.tmp 68) (.tmp 73) 22 22 rfl .u8 5 1 Tryz.und8 Tryz.info8 (by decide) w.heap.size _ X rfl ((HX.out.1.below H5.out.2.1).alloc _) _ [128 + (j : Int)] rfl (src_sl Tryz.und8 (new1 _)) (by have := HX.out.2.2; simp; omega) (by have := HX.out.2.1.size; have := H5.out.2.1.size; simp; omega) ?_; intro v7 w7 hr7 hg7; have H7 : Hid (Row .u8 5 w.heap.size w7 v7 (X ++ [128 + (j : Int)]) ∧ Row .u8 5 W.heap.size w7 (.slice a5 j c5) (tb n j j) ∧ Below w.heap.size w w7) := ⟨hr7, hg7.keep (H5.out.1.alloc _) HX.out.1.lt, ((HX.out.2.1.trans (H5.out.2.1.mono HX.out.2.1.size)).trans ((al1 _).mono (by have := HX.out.2.1.size; have := H5.out.2.1.size; omega))).trans (hg7.below ((HX.out.1.below H5.out.2.1).alloc _) (by have := HX.out.2.1.size; have := H5.out.2.1.size; simp; omega))⟩; clear hr7 hg7)
                | (at_builtin; refine wpList_ap rfl (.tmp 74) (.tmp 75) 22 22 rfl .u8 5 1 Tryz.und8 Tryz.info8 (by decide) w.heap.size _ (X ++ [128 + (j : Int)]) rfl H7.out.1 _ (tb n j j) rfl (src_sl Tryz.und8 H7.out.2.1.sl) (by have := HX.out.2.2; have := tb_len n j j; simp; omega) H7.out.2.2.size ?_; intro v8 w8 hr8 hg8))
              have hb8 : Below w.heap.size w w8 := H7.out.2.2.trans (hg8.below H7.out.1 H7.out.2.2.size)
              go_ret
              refine ⟨_, rfl, ?_, hb8⟩
              rw [HLn.out, HXe.out]
              rw [List.append_assoc] at hr8
              exact hr8
end Go.Proofs.YtmfdhfdcokkclaaGreatDoor
