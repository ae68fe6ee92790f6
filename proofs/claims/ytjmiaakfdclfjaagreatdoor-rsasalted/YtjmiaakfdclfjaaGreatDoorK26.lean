/-
  Rsa: what a signature says (Raw), by the program and by the reference.
-/
import Derived.Laws.BytesArg
import Derived.Lib.Strings
import Derived.Test.YtjmiaakfdclfjaaGreatDoorK25
namespace Go.Proofs.YtjmiaakfdclfjaaGreatDoor
open Go.RowKit
set_option maxRecDepth 20000
/-- What Raw tells: the bytes, the error. -/
def rawS (ns es sg : List Int) : List Int × Int :=
  if keyOk ns es = false then ([], 80) else if sg.length ≠ keySz ns es then ([], 112) else if val ns ≤ Nt.bv sg.reverse then ([], 112)
  else Nt.bytS (lim (Nt.bv sg.reverse ^ (val es).toNat % val ns).toNat) (keySz ns es)
theorem bits_len {X : List Int} (uX : U32s X) : bts X ≤ 32 * X.length := Nt.bitLen_val uX
theorem key_facts {ns es : List Int} (un : U32s ns) (h : keyOk ns es = true) : ns.length ≤ 256 ∧ es.length ≤ 256 ∧ 0 < val ns ∧ keySz ns es = (bts ns + 7) / 8 ∧ keySz ns es ≤ 1024 ∧ 512 ≤ bts ns := by
  have e : keySz ns es = (bts ns + 7) / 8 := by unfold keySz; rw [h]; rfl
  have hb := bits_len un
  unfold keyOk modOk expOk at h
  simp at h
  obtain ⟨⟨h1, h2, _⟩, h3, _⟩ := h
  refine ⟨h1, h3, ?_, e, by rw [e]; omega, h2⟩
  have h0 := val_nonneg un
  rcases Int.lt_or_eq_of_le h0 with h | h
  · exact h
  · exfalso; unfold bts at h2; rw [← h] at h2; revert h2; decide
theorem u8_rev {sg : List Int} (us : U8s sg) : Nt.U8s sg.reverse := fun x hx => us x (List.mem_reverse.1 hx)
theorem bv_len {sg : List Int} (us : U8s sg) (h : sg.length ≤ 2048) : (lim (Nt.bv sg.reverse).toNat).length ≤ 512 := by
  refine lim_len_le ?_
  have h1 := Nt.bv_bound (u8_rev us)
  rw [Int.toNat_of_nonneg h1.1]
  refine Int.lt_of_lt_of_le h1.2 ?_
  rw [List.length_reverse]
  have e : ∀ k : Nat, (4294967296 : Int) ^ k = 256 ^ (4 * k) := fun k => by rw [Int.pow_mul]; rfl
  rw [e]
  obtain ⟨t, ht⟩ : ∃ t, 4 * 512 = t := ⟨_, rfl⟩
  rw [ht]
  have h2 : (256 : Nat) ^ sg.length ≤ 256 ^ t := Nat.pow_le_pow_right (by decide) (by omega)
  have h3 := Int.ofNat_le.2 h2
  rw [Int.natCast_pow, Int.natCast_pow] at h3
  exact h3
theorem exp_ok {ns es : List Int} (un : U32s ns) (h : keyOk ns es = true) {sg : List Int} (us : U8s sg) (hs : sg.length ≤ 2048) :
    Nt.expS (lim (Nt.bv sg.reverse).toNat) es ns = (lim (Nt.bv sg.reverse ^ (val es).toNat % val ns).toNat, 0) := by
  have h1 := key_facts un h
  have h2 := bv_len us hs
  unfold Nt.expS Nt.expLong
  rw [if_neg (by omega), if_neg (by omega), val_lim, Int.toNat_of_nonneg (Nt.bv_bound (u8_rev us)).1]
theorem from_ok {sg : List Int} (hs : sg.length ≤ 2048) : Nt.fromS sg = (lim (Nt.bv sg.reverse).toNat, 0) := by
  unfold Nt.fromS; rw [if_neg (by omega)]
set_option maxHeartbeats 4000000 in
theorem Raw_any {w : World} (a a' : Option Addr) (n c n' c' : Nat) (ns es : List Int) (hn : Sl .u32 w (.slice a n c) ns) (un : U32s ns) (ln : ns.length = n) (he : Sl .u32 w (.slice a' n' c') es) (ue : U32s es) (le : es.length = n') (hb : n ≤ 600) (hb' : n' ≤ 600)
    (b : Option Addr) (m d : Nat) (sg : List Int) (hs : Sl .u8 w (.slice b m d) sg) (us : U8s sg) (ls : sg.length = m) :
    Calls Tryz.prog 24 #[.agg #[.slice a n c, .slice a' n' c'], .slice b m d] w fun e w' => ∃ r, e = .returned (.tuple #[r, .int .i64 (rawS ns es sg).2]) ∧ Sl .u8 w' r (rawS ns es sg).1 ∧ Below w.heap.size w w' := by
  have HC0 : Hid (∀ W, Below w.heap.size w W → Calls Tryz.prog 12 #[.agg #[.slice a n c, .slice a' n' c']] W fun e w'' => e = .returned (.int .i64 (if keyOk ns es then 0 else 80)) ∧ Below W.heap.size W w'') := fun W hw => Check_any a a' n c n' c' ns es (below_sl hw hn) un ln (below_sl hw he) ue le (by omega) (by omega)
  have HS : Hid (∀ W, Below w.heap.size w W → Calls Tryz.prog 13 #[.agg #[.slice a n c, .slice a' n' c']] W fun e w'' => e = .returned (.int .i64 (keySz ns es)) ∧ Below W.heap.size W w'') := fun W hw => Size_key a a' n c n' c' ns es (below_sl hw hn) un ln (below_sl hw he) ue le (by omega) (by omega) (bts_le un (by omega))
  have HFb : Hid (m ≤ 2048 → ∀ W, Below w.heap.size w W → Calls Tryz.prog 49 #[.slice b m d] W fun e w'' => ∃ r, e = .returned (.tuple #[r, .int .i64 0]) ∧ Sl .u32 w'' r (lim (Nt.bv sg.reverse).toNat) ∧ Below W.heap.size W w'') := fun hm W hw => by
    refine (Nt.FromBytes_any sg _ W (below_sl hw hs) us).mono ?_
    rintro e w'' ⟨⟨r, rfl, ho⟩, hB⟩
    rw [from_ok (by omega)] at ho ⊢
    exact ⟨r, rfl, ho.sl, hB⟩
  have HCm : Hid (m ≤ 2048 → ∀ W r, Below w.heap.size w W → Sl .u32 W r (lim (Nt.bv sg.reverse).toNat) → Calls Tryz.prog 50 #[r, .slice a n c] W fun e w'' => e = .returned (.int .i64 (Nt.cmpI (Nt.bv sg.reverse) (val ns))) ∧ Below W.heap.size W w'') := fun hm W r hw hr => by
    refine (Nt.Cmp_any _ ns _ _ W hr (below_sl hw hn) (lim_u32 _) un (by have := bv_len us (by omega); omega) (by omega)).mono ?_
    rintro e w'' ⟨rfl, hB⟩
    rw [val_lim, Int.toNat_of_nonneg (Nt.bv_bound (u8_rev us)).1]
    exact ⟨rfl, hB⟩
  have HEx : Hid (m ≤ 2048 → keyOk ns es = true → ∀ W r, Below w.heap.size w W → Sl .u32 W r (lim (Nt.bv sg.reverse).toNat) → Calls Tryz.prog 51 #[r, .slice a' n' c', .slice a n c] W fun e w'' => ∃ q, e = .returned (.tuple #[q, .int .i64 0]) ∧ Sl .u32 w'' q (lim (Nt.bv sg.reverse ^ (val es).toNat % val ns).toNat) ∧ Below W.heap.size W w'') := fun hm hk W r hw hr => by
    refine (Nt.ExpMod_any _ es ns _ _ _ W hr (below_sl hw he) (below_sl hw hn) (lim_u32 _) ue un (.inr Nt.long_ok)).mono ?_
    rintro e w'' ⟨⟨q, rfl, ho⟩, hB⟩
    rw [exp_ok un hk us (by omega)] at ho ⊢
    exact ⟨q, rfl, ho.sl, hB⟩
  have HBy : Hid (∀ W q, keySz ns es ≤ 1024 → Sl .u32 W q (lim (Nt.bv sg.reverse ^ (val es).toNat % val ns).toNat) → Calls Tryz.prog 52 #[q, .int .i64 (keySz ns es)] W fun e w'' => ∃ t, e = .returned (.tuple #[t, .int .i64 (Nt.bytS (lim (Nt.bv sg.reverse ^ (val es).toNat % val ns).toNat) (keySz ns es)).2]) ∧ Sl .u8 w'' t (Nt.bytS (lim (Nt.bv sg.reverse ^ (val es).toNat % val ns).toNat) (keySz ns es)).1 ∧ Below W.heap.size W w'') := fun W q hk hq => by
    refine (Nt.Bytes_any _ _ _ W hq (lim_u32 _) (by omega) (by omega)).mono ?_
    rintro e w'' ⟨⟨t, rfl, ho, _⟩, hB⟩
    exact ⟨t, rfl, ho.sl, hB⟩
  have HK : Hid (keyOk ns es = true → keySz ns es ≤ 1024) := fun h => (key_facts un h).2.2.2.2.1
  have HR : Hid (rawS ns es sg = if keyOk ns es = false then ([], 80) else if m ≠ keySz ns es then ([], 112) else if val ns ≤ Nt.bv sg.reverse then ([], 112)
    else Nt.bytS (lim (Nt.bv sg.reverse ^ (val es).toNat % val ns).toNat) (keySz ns es)) := by show _ = _; rw [← ls]; rfl
  obtain ⟨RS, hRS⟩ : ∃ RS, rawS ns es sg = RS := ⟨_, rfl⟩
  obtain ⟨Z, hZ⟩ : ∃ Z, keySz ns es = Z := ⟨_, rfl⟩
  obtain ⟨x, hx⟩ : ∃ x, Nt.bv sg.reverse = x := ⟨_, rfl⟩
  rw [hx] at HFb HCm HEx HBy HR
  obtain ⟨y, hy⟩ : ∃ y, lim (x ^ (val es).toNat % val ns).toNat = y := ⟨_, rfl⟩
  rw [hy] at HEx HBy HR
  rw [hRS] at HR ⊢
  rw [hZ] at HS HBy HK HR
  obtain ⟨u, hu⟩ : ∃ u, lim x.toNat = u := ⟨_, rfl⟩
  rw [hu] at HFb HCm HEx
  obtain ⟨N, hN⟩ : ∃ N, val ns = N := ⟨_, rfl⟩
  rw [hN] at HCm HR
  clear hn un ln he ue le hs us ls hRS hZ hx hy hu hN
  go_enter Tryz.func24, Tryz.ntmps24
  go_upto_region 1 with (refine Sh.wpList_boxR rfl 26 (.tmp 0) rfl #[.slice a n c, .slice a' n' c'] rfl ?_)
  refine Sh.wp_gen (fun W => Blk 26 W w.heap.size [.slice a n c, .slice a' n' c'] ∧ Below w.heap.size w W) ⟨Blk.new _ w _, al1 _⟩ ?_
  rintro W2 ⟨hB, hBw⟩
  have H2 : Hid (Below w.heap.size w W2 ∧ W2.rangeAt w.heap.size 0 [.slice a n c, .slice a' n' c'] ∧ ∀ W3, Below W2.heap.size W2 W3 → W3.rangeAt w.heap.size 0 [.slice a n c, .slice a' n' c'] ∧ W3.cell? ⟨w.heap.size, 0, none⟩ = some (.slice a n c) ∧ W3.cell? ⟨w.heap.size, 1, none⟩ = some (.slice a' n' c') ∧ Below w.heap.size w W3) := ⟨hBw, hB.whole, fun W3 h3 => ⟨(below_blk h3 hB.lt hB).whole, (below_blk h3 hB.lt hB).cell 0, (below_blk h3 hB.lt hB).cell 1, below_via hBw h3 (Nat.le_refl _)⟩⟩
  clear hB hBw
  cases hk : keyOk ns es with
  | false =>
    have HC : Hid (∀ W, Below w.heap.size w W → Calls Tryz.prog 12 #[.agg #[.slice a n c, .slice a' n' c']] W fun e w'' => e = .returned (.int .i64 80) ∧ Below W.heap.size W w'') := fun W hw => (HC0.out W hw).mono fun _ _ h => ⟨by rw [h.1, hk]; rfl, h.2⟩
    have HQ : Hid (RS = ([], 80)) := by show _ = _; rw [HR.out, if_pos hk]
    clear hk HC0
    go_wp2_with (first
      | (refine wpList_load_mid rfl 26 (.tmp 2) rfl w.heap.size 0 rfl [.slice a n c, .slice a' n' c'] _ H2.out.2.1 Tryz.underlying26 rfl (by kernel_rfl) ?_)
      | (go_at_call 12; refine (HC.out _ H2.out.1).mono ?_; rintro e w3 ⟨rfl, hb3⟩; have H3 : Hid (Below w.heap.size w w3) := (H2.out.2.2 w3 hb3).2.2.2; clear hb3))
    go_ret2
    exact ⟨_, by rw [HQ.out]; rfl, by rw [HQ.out]; exact nil_sl _, H3.out⟩
  | true =>
    have HC : Hid (∀ W, Below w.heap.size w W → Calls Tryz.prog 12 #[.agg #[.slice a n c, .slice a' n' c']] W fun e w'' => e = .returned (.int .i64 0) ∧ Below W.heap.size W w'') := fun W hw => (HC0.out W hw).mono fun _ _ h => ⟨by rw [h.1, hk]; rfl, h.2⟩
    have hZ := HK.out hk
    have HQ : Hid (RS = if m ≠ Z then ([], 112) else if N ≤ x then ([], 112) else Nt.bytS y Z) := by show _ = _; rw [HR.out, if_neg (by rw [hk]; decide)]
    have HEx2 := fun hm => HEx.out hm hk
    have HX : Hid (m ≤ 2048 → ∀ W r, Below w.heap.size w W → Sl .u32 W r u → Calls Tryz.prog 51 #[r, .slice a' n' c', .slice a n c] W fun e w'' => ∃ q, e = .returned (.tuple #[q, .int .i64 0]) ∧ Sl .u32 w'' q y ∧ Below W.heap.size W w'') := HEx2
    clear hk HC0 HEx HEx2 HK HR
    go_upto_region 5 with (first
      | (refine wpList_load_mid rfl 26 (.tmp 2) rfl w.heap.size 0 rfl [.slice a n c, .slice a' n' c'] _ H2.out.2.1 Tryz.underlying26 rfl (by kernel_rfl) ?_)
      | (go_at_call 12; refine (HC.out _ H2.out.1).mono ?_; rintro e w3 ⟨rfl, hb3⟩; have H3 : Hid (Below w.heap.size w w3 ∧ w3.rangeAt w.heap.size 0 [.slice a n c, .slice a' n' c'] ∧ Below W2.heap.size W2 w3) := ⟨(H2.out.2.2 w3 hb3).2.2.2, (H2.out.2.2 w3 hb3).1, hb3⟩; clear hb3)
      | (refine wpList_load_mid rfl 26 (.tmp 2) rfl w.heap.size 0 rfl [.slice a n c, .slice a' n' c'] _ H3.out.2.1 Tryz.underlying26 rfl (by kernel_rfl) ?_)
      | (go_at_call 13; refine (HS.out _ H3.out.1).mono ?_; rintro e w4 ⟨rfl, hb4⟩; have H4 : Hid (Below W2.heap.size W2 w4) := below_via H3.out.2.2 hb4 (Nat.le_refl _); clear hb4))
    by_cases hm : m = Z
    · have d1 : ((m : Int) != (Z : Int)) = false := by simp [hm]
      have hmb : m ≤ 2048 := by omega
      have HQ2 : Hid (RS = if N ≤ x then ([], 112) else Nt.bytS y Z) := by show _ = _; rw [HQ.out, if_neg (by simpa using hm)]
      have HZ : Hid (Z ≤ 1024) := hZ
      clear hm HQ hZ
      by_cases hlt : N ≤ x
      · have HC2 : Hid (∃ cc : Int, Nt.cmpI x N = cc ∧ decide (cc ≥ 0) = true) := ⟨_, rfl, by unfold Nt.cmpI; rw [if_neg (by omega)]; split <;> decide⟩
        obtain ⟨cc, hcc, dd⟩ := HC2.out
        rw [hcc] at HCm
        have HQ3 : Hid (RS = ([], 112)) := by show _ = _; rw [HQ2.out, if_pos hlt]
        clear hcc HC2 HQ2 hlt
        go_wp2_with (first
          | (go_at_call 49; refine (HFb.out hmb _ (H2.out.2.2 _ H4.out).2.2.2).mono ?_; rintro e w5 ⟨r5, rfl, hr5, hb5⟩; have hc5 := (H2.out.2.2 w5 (below_via H4.out hb5 (Nat.le_refl _))).2.1; have H5 : Hid (Sl .u32 w5 r5 u ∧ Below W2.heap.size W2 w5) := ⟨hr5, below_via H4.out hb5 (Nat.le_refl _)⟩; clear hr5 hb5)
          | (go_at_call 50; refine (HCm.out hmb _ _ (H2.out.2.2 _ H5.out.2).2.2.2 H5.out.1).mono ?_; rintro e w6 ⟨rfl, hb6⟩; have H6 : Hid (Below w.heap.size w w6) := (H2.out.2.2 _ (below_via H5.out.2 hb6 (Nat.le_refl _))).2.2.2; clear hb6))
        go_ret2
        exact ⟨_, by rw [HQ3.out]; rfl, by rw [HQ3.out]; exact nil_sl _, H6.out⟩
      · have HC2 : Hid (Nt.cmpI x N = -1) := by show _ = _; unfold Nt.cmpI; rw [if_pos (by omega)]
        rw [HC2.out] at HCm
        have HQ3 : Hid (RS = Nt.bytS y Z) := by show _ = _; rw [HQ2.out, if_neg hlt]
        clear HC2 HQ2 hlt
        obtain ⟨bs, ee, hbs⟩ : ∃ bs ee, Nt.bytS y Z = (bs, ee) := ⟨_, _, rfl⟩
        rw [hbs] at HBy HQ3
        clear hbs
        go_wp2_with (first
          | (go_at_call 49; refine (HFb.out hmb _ (H2.out.2.2 _ H4.out).2.2.2).mono ?_; rintro e w5 ⟨r5, rfl, hr5, hb5⟩; have hc5 := (H2.out.2.2 w5 (below_via H4.out hb5 (Nat.le_refl _))).2.1; have H5 : Hid (Sl .u32 w5 r5 u ∧ Below W2.heap.size W2 w5) := ⟨hr5, below_via H4.out hb5 (Nat.le_refl _)⟩; clear hr5 hb5)
          | (go_at_call 50; refine (HCm.out hmb _ _ (H2.out.2.2 _ H5.out.2).2.2.2 H5.out.1).mono ?_; rintro e w6 ⟨rfl, hb6⟩; have hc6 := (H2.out.2.2 w6 (below_via H5.out.2 hb6 (Nat.le_refl _))).2.1; have he6 := (H2.out.2.2 w6 (below_via H5.out.2 hb6 (Nat.le_refl _))).2.2.1; have H6 : Hid (Sl .u32 w6 r5 u ∧ Below W2.heap.size W2 w6) := ⟨below_sl hb6 H5.out.1, below_via H5.out.2 hb6 (Nat.le_refl _)⟩; clear hb6 hc5)
          | (go_at_call 51; refine (HX.out hmb _ _ (H2.out.2.2 _ H6.out.2).2.2.2 H6.out.1).mono ?_; rintro e w7 ⟨r7, rfl, hr7, hb7⟩; have H7 : Hid (Sl .u32 w7 r7 y ∧ Below W2.heap.size W2 w7) := ⟨hr7, below_via H6.out.2 hb7 (Nat.le_refl _)⟩; clear hr7 hb7 hc6 he6)
          | (go_at_call 52; refine (HBy.out _ _ HZ.out H7.out.1).mono ?_; rintro e w8 ⟨r8, rfl, hr8, hb8⟩; have H8 : Hid (Sl .u8 w8 r8 bs ∧ Below w.heap.size w w8) := ⟨hr8, (H2.out.2.2 _ (below_via H7.out.2 hb8 (Nat.le_refl _))).2.2.2⟩; clear hr8 hb8))
        go_ret2
        exact ⟨_, by rw [HQ3.out]; rfl, by rw [HQ3.out]; exact H8.out.1, H8.out.2⟩
    · have d1 : ((m : Int) != (Z : Int)) = true := by simp; omega
      have HQ2 : Hid (RS = ([], 112)) := by show _ = _; rw [HQ.out, if_pos hm]
      clear hm HQ
      go_wp2
      go_ret2
      exact ⟨_, by rw [HQ2.out]; rfl, by rw [HQ2.out]; exact nil_sl _, (H2.out.2.2 _ H4.out).2.2.2⟩
end Go.Proofs.YtjmiaakfdclfjaaGreatDoor
/-
  Rsa: the reference's Raw.
-/
namespace Go.Proofs.YtjmiaakfdclfjaaGreatDoor
open Go.RowKit
set_option maxRecDepth 20000
end Go.Proofs.YtjmiaakfdclfjaaGreatDoor
/-
  Rsa: the law RsaRaws.
-/
namespace Go.Proofs.YtjmiaakfdclfjaaGreatDoor
open Go.RowKit
set_option maxRecDepth 20000
end Go.Proofs.YtjmiaakfdclfjaaGreatDoor
/-
  Rsa: whether two rows of bytes are the same (bytes.Equal; the reference's SameBytes), whatever they are.
-/
namespace Go.Proofs.YtjmiaakfdclfjaaGreatDoor
open Go.RowKit
set_option maxRecDepth 20000
theorem u8_toNat {x : Int} (h : U8 x) : ((UInt8.ofNat x.toNat).toNat : Int) = x := by
  have := h.1; have := h.2
  simp; omega
theorem st_inj {X Y : List Int} (hX : U8s X) (hY : U8s Y) (h : strOfNums X = strOfNums Y) : X = Y := by
  have e := congrArg (fun s => s.data.toList.map (fun b => (b.toNat : Int))) h
  simp only [strOfNums_data, List.map_map] at e
  have f : ∀ Z : List Int, U8s Z → Z.map ((fun b : UInt8 => (b.toNat : Int)) ∘ fun n => UInt8.ofNat n.toNat) = Z := by
    intro Z hZ
    induction Z with
    | nil => rfl
    | cons z Z ih =>
      rw [List.map_cons, ih (fun x hx => hZ x (List.mem_cons_of_mem _ hx))]
      congr 1
      exact u8_toNat (hZ z (List.mem_cons_self ..))
  rw [f X hX, f Y hY] at e
  exact e
theorem st_beq (X Y : List Int) (hX : U8s X) (hY : U8s Y) : ((strOfNums X).toList == (strOfNums Y).toList) = decide (X = Y) := by
  rw [Bool.eq_iff_iff, beq_iff_eq, decide_eq_true_eq]
  constructor
  · intro h
    refine st_inj hX hY ?_
    apply ByteArray.ext
    rw [Lib.toList_data, Lib.toList_data] at h
    exact Array.toList_inj.1 h
  · intro h; rw [h]

theorem conv_str {w : World} {a : Option Addr} {n c : Nat} {X : List Int} (h : Sl .u8 w (.slice a n c) X) : Sem.run Tryz.prog (convert 22 9 (.slice a n c)) w = .ok (.string (strOfNums X)) w := by
  obtain ⟨a', c', he, _, h⟩ := h
  cases he
  cases a with
  | none =>
    rcases h with h | ⟨b, off, hb, _⟩
    · subst h; exact run_convert_bytes_nil w _ _ Tryz.und8 Tryz.e8 _ c _ Tryz.str
    · cases hb
  | some x =>
    rcases h with h | ⟨b, off, hb, _, hr⟩
    · subst h
      obtain ⟨b, off, sp⟩ := x
      have : Sem.run Tryz.prog (convert 22 9 (.slice (some ⟨b, off, sp⟩) 0 c)) w = .ok (.string (strOfNums [])) w := by
        rw [run_convert_bytes_string w _ _ _ _ 0 c Tryz.und8 Tryz.e8 Tryz.str]
        simp [strOfNums]
        rfl
      exact this
    · cases hb
      exact run_convert_bytes_arg w _ _ Tryz.und8 Tryz.e8 b off _ c X rfl (fun i hi => hr i hi) _ Tryz.str
set_option maxHeartbeats 1000000 in
theorem BEq_any {w : World} (a a' : Option Addr) (n c n' c' : Nat) (X Y : List Int) (hX : Sl .u8 w (.slice a n c) X) (hY : Sl .u8 w (.slice a' n' c') Y) (uX : U8s X) (uY : U8s Y) (q : Bool) (hq : decide (X = Y) = q) :
    Calls Tryz.prog 32 #[.slice a n c, .slice a' n' c'] w fun e w' => e = .returned (.bool q) ∧ w = w' := by
  have h1 := conv_str hX
  have h2 := conv_str hY
  have h3 := st_beq X Y uX uY
  rw [hq] at h3
  clear hX hY uX uY hq
  go_enter Tryz.func32, Tryz.ntmps32
  go_wp2
  go_ret
  exact ⟨rfl, rfl⟩
end Go.Proofs.YtjmiaakfdclfjaaGreatDoor
/-
  Der: the reference's Head.
-/
namespace Go.Proofs.YtjmiaakfdclfjaaGreatDoor
open Go.RowKit
/-- What the reference has of a number's groups after j rounds. -/
def rs (n : Nat) : Nat → List Int
  | 0 => []
  | j + 1 => sev j n
theorem Row.lt {k : IntKind} {e : TypeId} {B : Nat} {w : World} {v : Value} {xs : List Int} (h : Row k e B w v xs) : ∀ b n c, v = .slice (some ⟨b, 0, none⟩) n c → b < w.heap.size := by
  intro b n c hv
  rcases h with ⟨rfl, _⟩ | ⟨b', S, rfl, _, hA, _⟩
  · simp at hv
  · simp only [Value.slice.injEq, Option.some.injEq, Addr.mk.injEq, and_true] at hv
    obtain ⟨rfl, _⟩ := hv
    exact (Array.getElem?_eq_some_iff.1 hA).1
end Go.Proofs.YtjmiaakfdclfjaaGreatDoor
/-
  Der: the reference's Head at a long tag.
-/
namespace Go.Proofs.YtjmiaakfdclfjaaGreatDoor
open Go.RowKit
end Go.Proofs.YtjmiaakfdclfjaaGreatDoor
/-
  Der: the reference's Put.
-/
namespace Go.Proofs.YtjmiaakfdclfjaaGreatDoor
open Go.RowKit
end Go.Proofs.YtjmiaakfdclfjaaGreatDoor
/-
  Der: the reference's numbers of a text.
-/
namespace Go.Proofs.YtjmiaakfdclfjaaGreatDoor
open Go.RowKit
/-- The value of k digits from place f on. -/
def dv (Y : List Int) (f : Nat) : Nat → Nat
  | 0 => 0
  | k + 1 => 10 * dv Y f k + (Y.getD (f + k) 0 - 48).toNat
end Go.Proofs.YtjmiaakfdclfjaaGreatDoor
/-
  Der: the reference's arcs.
-/
namespace Go.Proofs.YtjmiaakfdclfjaaGreatDoor
open Go.RowKit
end Go.Proofs.YtjmiaakfdclfjaaGreatDoor
/-
  Der: the reference's PutOid of any text.
-/
namespace Go.Proofs.YtjmiaakfdclfjaaGreatDoor
open Go.RowKit
end Go.Proofs.YtjmiaakfdclfjaaGreatDoor
/-
  Rsa: the reference's Pad.
-/
namespace Go.Proofs.YtjmiaakfdclfjaaGreatDoor
open Go.RowKit
set_option maxRecDepth 20000
theorem Tryz.one_int : (Tryz.prog.info? 3).map (·.size) = some 1 := by kernel_rfl
theorem RSize8 {w : World} (alg : Int) : Calls Tryz.prog 19 #[.int .i64 alg] w fun e w' => e = .returned (.int .i64 (Sh.siz alg)) ∧ w = w' := by
  unfold Sh.siz
  by_cases h1 : alg = 1
  · subst h1
    have hx : ∀ w' : World, Sem.run Tryz.prog (Instr.index 75 (.agg #[.int .i64 20, .int .i64 32, .int .i64 48, .int .i64 64]) (.int .i64 0)) w' = .ok (.int .i64 20) w' := fun w' => run_index_row w' _ _ 4 .i64 [20, 32, 48, 64] 0 Tryz.underlying75 Tryz.underlying3 Tryz.one_int rfl (by decide)
    go_enter Tryz.func19, Tryz.ntmps19; go_wp2; go_ret; exact ⟨rfl, rfl⟩
  by_cases h2 : alg = 2
  · subst h2
    have hx : ∀ w' : World, Sem.run Tryz.prog (Instr.index 75 (.agg #[.int .i64 20, .int .i64 32, .int .i64 48, .int .i64 64]) (.int .i64 1)) w' = .ok (.int .i64 32) w' := fun w' => run_index_row w' _ _ 4 .i64 [20, 32, 48, 64] 1 Tryz.underlying75 Tryz.underlying3 Tryz.one_int rfl (by decide)
    go_enter Tryz.func19, Tryz.ntmps19; go_wp2; go_ret; exact ⟨rfl, rfl⟩
  by_cases h3 : alg = 3
  · subst h3
    have hx : ∀ w' : World, Sem.run Tryz.prog (Instr.index 75 (.agg #[.int .i64 20, .int .i64 32, .int .i64 48, .int .i64 64]) (.int .i64 2)) w' = .ok (.int .i64 48) w' := fun w' => run_index_row w' _ _ 4 .i64 [20, 32, 48, 64] 2 Tryz.underlying75 Tryz.underlying3 Tryz.one_int rfl (by decide)
    go_enter Tryz.func19, Tryz.ntmps19; go_wp2; go_ret; exact ⟨rfl, rfl⟩
  by_cases h4 : alg = 4
  · subst h4
    have hx : ∀ w' : World, Sem.run Tryz.prog (Instr.index 75 (.agg #[.int .i64 20, .int .i64 32, .int .i64 48, .int .i64 64]) (.int .i64 3)) w' = .ok (.int .i64 64) w' := fun w' => run_index_row w' _ _ 4 .i64 [20, 32, 48, 64] 3 Tryz.underlying75 Tryz.underlying3 Tryz.one_int rfl (by decide)
    go_enter Tryz.func19, Tryz.ntmps19; go_wp2; go_ret; exact ⟨rfl, rfl⟩
  rw [if_neg h1, if_neg h2, if_neg h3, if_neg h4]
  by_cases h5 : alg < 1
  · go_enter Tryz.func19, Tryz.ntmps19; go_wp2; go_ret; exact ⟨rfl, rfl⟩
  · have h6 : 4 < alg := by omega
    go_enter Tryz.func19, Tryz.ntmps19; go_wp2; go_ret; exact ⟨rfl, rfl⟩
end Go.Proofs.YtjmiaakfdclfjaaGreatDoor
/-
  Rsa: the reference's Pad, walked.
-/
namespace Go.Proofs.YtjmiaakfdclfjaaGreatDoor
open Go.RowKit
set_option maxRecDepth 20000
end Go.Proofs.YtjmiaakfdclfjaaGreatDoor
/-
  Rsa: the reference's Pad, where the digest is one.
-/
namespace Go.Proofs.YtjmiaakfdclfjaaGreatDoor
open Go.RowKit
set_option maxRecDepth 20000
end Go.Proofs.YtjmiaakfdclfjaaGreatDoor
/-
  Rsa: the law RsaPads.
-/
namespace Go.Proofs.YtjmiaakfdclfjaaGreatDoor
open Go.RowKit
set_option maxRecDepth 20000
end Go.Proofs.YtjmiaakfdclfjaaGreatDoor
/-
  Rsa: signatures in the first way: Verify of the program and of the reference.
-/
namespace Go.Proofs.YtjmiaakfdclfjaaGreatDoor
open Go.RowKit
set_option maxRecDepth 20000
theorem raw_u8 {ns es sg : List Int} : U8s (rawS ns es sg).1 := by
  unfold rawS
  split
  · intro x hx; simp at hx
  · split
    · intro x hx; simp at hx
    · split
      · intro x hx; simp at hx
      · unfold Nt.bytS
        split
        · intro x hx; simp at hx
        · split
          · intro x hx; simp at hx
          · split
            · intro x hx; simp at hx
            · exact Nt.beb_u8 _ _
end Go.Proofs.YtjmiaakfdclfjaaGreatDoor
/-
  Primes: Fermat, Pocklington (pure).
-/
namespace Go.Proofs.YtjmiaakfdclfjaaGreatDoor.Pm
/-- A prime number. -/
def Pr (p : Nat) : Prop := 2 ≤ p ∧ ∀ m, m ∣ p → m = 1 ∨ m = p
theorem Pr.cop {p k : Nat} (hp : Pr p) (h : ¬ p ∣ k) : Nat.Coprime p k := by
  rcases hp.2 _ (Nat.gcd_dvd_left p k) with h1 | h1
  · exact h1
  · exact absurd (h1 ▸ Nat.gcd_dvd_right p k) h
theorem Pr.mul {p a b : Nat} (hp : Pr p) (h : p ∣ a * b) : p ∣ a ∨ p ∣ b := by
  by_cases ha : p ∣ a
  · exact .inl ha
  · exact .inr ((hp.cop ha).dvd_of_dvd_mul_left h)
/-- Every number above 1 has a prime divisor. -/
theorem hasPr (n : Nat) (h : 2 ≤ n) : ∃ p, Pr p ∧ p ∣ n := by
  induction n using Nat.strongRecOn with
  | ind n ih =>
    by_cases hp : Pr n
    · exact ⟨n, hp, Nat.dvd_refl n⟩
    · have : ∃ m, m ∣ n ∧ m ≠ 1 ∧ m ≠ n := by
        refine Classical.byContradiction fun hc => hp ⟨h, fun m hm => ?_⟩
        by_cases h1 : m = 1
        · exact .inl h1
        · by_cases h2 : m = n
          · exact .inr h2
          · exact absurd ⟨m, hm, h1, h2⟩ hc
      obtain ⟨m, hm, h1, h2⟩ := this
      have hle := Nat.le_of_dvd (by omega) hm
      have h0 : m ≠ 0 := by rintro rfl; have := Nat.eq_zero_of_zero_dvd hm; omega
      obtain ⟨p, hp, hd⟩ := ih m (by omega) (by omega)
      exact ⟨p, hp, Nat.dvd_trans hd hm⟩
/-- Binomials. -/
def C : Nat → Nat → Nat
  | _, 0 => 1
  | 0, _ + 1 => 0
  | n + 1, k + 1 => C n k + C n (k + 1)
theorem C_zero (n : Nat) : C n 0 = 1 := by cases n <;> rfl
theorem C_succ (n k : Nat) : C (n + 1) (k + 1) = C n k + C n (k + 1) := rfl
theorem C_big (n k : Nat) (h : n < k) : C n k = 0 := by
  induction n generalizing k with
  | zero => obtain ⟨k, rfl⟩ : ∃ j, k = j + 1 := ⟨k - 1, by omega⟩; rfl
  | succ n ih => obtain ⟨k, rfl⟩ : ∃ j, k = j + 1 := ⟨k - 1, by omega⟩; rw [C_succ, ih k (by omega), ih (k + 1) (by omega)]
theorem C_self (n : Nat) : C n n = 1 := by
  induction n with
  | zero => rfl
  | succ n ih => rw [C_succ, ih, C_big n (n + 1) (by omega)]
theorem C_abs (n k : Nat) : (k + 1) * C (n + 1) (k + 1) = (n + 1) * C n k := by
  induction n generalizing k with
  | zero => cases k with
    | zero => rfl
    | succ k => rw [C_big _ _ (by omega), C_big _ _ (by omega)]; simp
  | succ n ih =>
    cases k with
    | zero =>
      have h := ih 0
      rw [C_zero] at h
      rw [C_succ, C_zero, Nat.mul_add, h]
      omega
    | succ k =>
      have h1 := ih k
      have h2 := ih (k + 1)
      rw [C_succ (n + 1) (k + 1), C_succ n k]
      rw [C_succ n k] at h1
      rw [Nat.mul_add, h2]
      have e : (k + 1 + 1) * (C n k + C n (k + 1)) = (k + 1) * (C n k + C n (k + 1)) + (C n k + C n (k + 1)) := by rw [Nat.succ_mul]
      rw [e, h1]
      simp only [Nat.mul_add, Nat.add_mul]
      omega
theorem C_prime {p k : Nat} (hp : Pr p) (h0 : 0 < k) (h1 : k < p) : p ∣ C p k := by
  obtain ⟨k, rfl⟩ : ∃ j, k = j + 1 := ⟨k - 1, by omega⟩
  obtain ⟨n, rfl⟩ : ∃ j, p = j + 1 := ⟨p - 1, by omega⟩
  have h := C_abs n k
  have hd : n + 1 ∣ (k + 1) * C (n + 1) (k + 1) := ⟨_, h⟩
  rcases hp.mul hd with h | h
  · exact absurd (Nat.le_of_dvd (by omega) h) (by omega)
  · exact h
/-- The terms below j of (a + 1) ^ n. -/
def Sm (n a : Nat) : Nat → Nat
  | 0 => 0
  | j + 1 => Sm n a j + C n j * a ^ j
theorem Sm_succ (n a j : Nat) : Sm (n + 1) a (j + 1) = a * Sm n a j + Sm n a (j + 1) := by
  induction j with
  | zero => simp [Sm, C_zero]
  | succ j ih =>
    have e : Sm (n + 1) a (j + 2) = Sm (n + 1) a (j + 1) + C (n + 1) (j + 1) * a ^ (j + 1) := rfl
    have e2 : Sm n a (j + 2) = Sm n a (j + 1) + C n (j + 1) * a ^ (j + 1) := rfl
    have e3 : Sm n a (j + 1) = Sm n a j + C n j * a ^ j := rfl
    have e4 : a * Sm n a (j + 1) = a * Sm n a j + a * (C n j * a ^ j) := by rw [e3, Nat.mul_add]
    have e5 : a * (C n j * a ^ j) = C n j * a ^ (j + 1) := by rw [Nat.pow_succ, Nat.mul_comm a, Nat.mul_assoc]
    rw [e, ih, e2, e4, e5, C_succ, Nat.add_mul]
    omega
theorem binom (n a : Nat) : (a + 1) ^ n = Sm n a (n + 1) := by
  induction n with
  | zero => simp [Sm, C]
  | succ n ih =>
    have e : Sm n a (n + 2) = Sm n a (n + 1) := by
      show Sm n a (n + 1) + C n (n + 1) * a ^ (n + 1) = _
      rw [C_big n (n + 1) (by omega)]; simp
    rw [Sm_succ, e, ← ih, Nat.pow_succ, Nat.mul_add, Nat.mul_one, Nat.mul_comm]
theorem Sm_mod {p : Nat} (hp : Pr p) (a j : Nat) (h0 : 0 < j) (h : j ≤ p) : Sm p a j % p = 1 % p := by
  induction j with
  | zero => omega
  | succ j ih =>
    by_cases hj : j = 0
    · subst hj; simp [Sm, C_zero]
    · show (Sm p a j + C p j * a ^ j) % p = _
      have hd : p ∣ C p j * a ^ j := Nat.dvd_trans (C_prime hp (by omega) (by omega)) (Nat.dvd_mul_right _ _)
      rw [Nat.add_mod, Nat.mod_eq_zero_of_dvd hd, Nat.add_zero, Nat.mod_mod, ih (by omega) (by omega)]
theorem dvd_of_mod {a b n : Nat} (h : a % n = b % n) : n ∣ a - b := Nat.dvd_of_mod_eq_zero (Nat.sub_mod_eq_zero_of_mod_eq h)
theorem mod_of_dvd {a b n : Nat} (hb : b ≤ a) (h : n ∣ a - b) : a % n = b % n := by
  obtain ⟨c, hc⟩ := h
  have : a = b + n * c := by omega
  rw [this, Nat.add_mul_mod_self_left]
/-- Fermat's little theorem. -/
theorem fermat {p : Nat} (hp : Pr p) (a : Nat) : a ^ p % p = a % p := by
  induction a with
  | zero => have := hp.1; rw [Nat.zero_pow (by omega)]
  | succ a ih =>
    rw [binom]
    show (Sm p a p + C p p * a ^ p) % p = _
    rw [C_self, Nat.one_mul, Nat.add_mod, Sm_mod hp a p (by have := hp.1; omega) (Nat.le_refl _), ih, ← Nat.add_mod, Nat.add_comm]
theorem fermat1 {p : Nat} (hp : Pr p) (a : Nat) (ha : ¬ p ∣ a) : a ^ (p - 1) % p = 1 % p := by
  have h := fermat hp a
  obtain ⟨n, rfl⟩ : ∃ j, p = j + 1 := ⟨p - 1, by have := hp.1; omega⟩
  show a ^ n % (n + 1) = _
  have hc := hp.cop ha
  by_cases h1 : 1 ≤ a ^ n
  · have hd : n + 1 ∣ a * (a ^ n - 1) := by
      have e : a * (a ^ n - 1) = a ^ (n + 1) - a := by rw [Nat.mul_sub, Nat.mul_one, Nat.pow_succ, Nat.mul_comm]
      rw [e]
      exact dvd_of_mod h
    have := hc.dvd_of_dvd_mul_left hd
    exact mod_of_dvd h1 this
  · have : a ^ n = 0 := by omega
    have ha0 : a = 0 := by
      by_cases h0 : a = 0
      · exact h0
      · have := Nat.pow_pos (n := n) (Nat.pos_of_ne_zero h0); omega
    subst ha0
    exact absurd (Nat.dvd_zero _) ha
/-- a ^ k leaves 1. -/
def U1 (r a k : Nat) : Prop := a ^ k % r = 1 % r
theorem U1.add {r a k l : Nat} (h : U1 r a k) (g : U1 r a l) : U1 r a (k + l) := by
  unfold U1 at *
  rw [Nat.pow_add, Nat.mul_mod, h, g, ← Nat.mul_mod]
theorem U1.mul {r a k : Nat} (h : U1 r a k) (m : Nat) : U1 r a (k * m) := by
  induction m with
  | zero => unfold U1; simp
  | succ m ih => rw [Nat.mul_succ]; exact ih.add h
theorem U1.sub {r a k l : Nat} (h : U1 r a (k + l)) (g : U1 r a k) : U1 r a l := by
  unfold U1 at *
  rw [Nat.pow_add, Nat.mul_mod, g, ← Nat.mul_mod, Nat.one_mul] at h
  exact h
/-- The least exponent divides every one. -/
theorem ord_dvd {r a t k : Nat} (h0 : 0 < t) (ht : U1 r a t) (hm : ∀ j, 0 < j → j < t → ¬ U1 r a j) (hk : U1 r a k) : t ∣ k := by
  have h := Nat.div_add_mod k t
  rw [← h] at hk
  have := hk.sub (ht.mul _)
  by_cases hz : k % t = 0
  · exact Nat.dvd_of_mod_eq_zero hz
  · exact absurd this (hm _ (by omega) (Nat.mod_lt _ h0))
theorem least {P : Nat → Prop} (n : Nat) (h : P n) : ∃ t, P t ∧ ∀ j, j < t → ¬ P j := by
  induction n using Nat.strongRecOn with
  | ind n ih =>
    by_cases hc : ∃ j, j < n ∧ P j
    · obtain ⟨j, hj, hp⟩ := hc; exact ih j hj hp
    · exact ⟨n, h, fun j hj hp => hc ⟨j, hj, hp⟩⟩
theorem Pr.copow {q s : Nat} (hq : Pr q) (h : ¬ q ∣ s) (e : Nat) : Nat.Coprime (q ^ e) s := Nat.Coprime.pow_left e (hq.cop h)
theorem pow_in {t n q e : Nat} (hq : Pr q) (htn : t ∣ n) (hne : ¬ t ∣ n / q) (he : q ^ e ∣ n) : q ^ e ∣ t := by
  obtain ⟨s, rfl⟩ := htn
  have hs : ¬ q ∣ s := by
    rintro ⟨c, rfl⟩
    apply hne
    refine ⟨c, ?_⟩
    rw [Nat.mul_left_comm, Nat.mul_div_cancel_left _ (by have := hq.1; omega)]
  exact (hq.copow hs e).dvd_of_dvd_mul_right he
/-- Pocklington: what a witness says of each prime divisor. -/
theorem pock1 {N r a q e : Nat} (hr : Pr r) (hrN : r ∣ N) (hN : 2 ≤ N) (hq : Pr q) (he : q ^ e ∣ N - 1) (h1 : a ^ (N - 1) % N = 1 % N) (h2 : Nat.gcd (a ^ ((N - 1) / q) - 1) N = 1) : q ^ e ∣ r - 1 := by
  have hmod : ∀ k, a ^ k % N = 1 % N → U1 r a k := by
    intro k hk
    unfold U1
    rw [← Nat.mod_mod_of_dvd _ hrN, hk, Nat.mod_mod_of_dvd _ hrN]
  have hu := hmod _ h1
  have hna : ¬ r ∣ a := by
    intro hd
    unfold U1 at hu
    have h0 : a ^ (N - 1) % r = 0 := Nat.mod_eq_zero_of_dvd (Nat.dvd_trans hd (by
      obtain ⟨k, hk⟩ : ∃ k, N - 1 = k + 1 := ⟨N - 2, by omega⟩
      rw [hk, Nat.pow_succ]; exact Nat.dvd_mul_left _ _))
    rw [h0, Nat.mod_eq_of_lt (by have := hr.1; omega)] at hu
    omega
  have hf : U1 r a (r - 1) := fermat1 hr a hna
  obtain ⟨t, ⟨ht0, ht⟩, hl⟩ := least (P := fun t => 0 < t ∧ U1 r a t) (r - 1) ⟨by have := hr.1; omega, hf⟩
  have hm : ∀ j, 0 < j → j < t → ¬ U1 r a j := fun j h0 hj hu => hl j hj ⟨h0, hu⟩
  have d1 := ord_dvd ht0 ht hm hu
  have d2 := ord_dvd ht0 ht hm hf
  have hne : ¬ t ∣ (N - 1) / q := by
    rintro ⟨c, hc⟩
    have hU : U1 r a ((N - 1) / q) := by rw [hc]; exact ht.mul c
    have hd : r ∣ a ^ ((N - 1) / q) - 1 := dvd_of_mod hU
    have := Nat.dvd_gcd hd hrN
    rw [h2] at this
    have := Nat.le_of_dvd (by omega) this
    have := hr.1
    omega
  exact Nat.dvd_trans (pow_in hq d1 hne he) d2
/-- Where each prime divisor leaves 1 by F, each divisor does. -/
theorem all_one {N F : Nat} (hF : ∀ r, Pr r → r ∣ N → F ∣ r - 1) (m : Nat) (hm : m ∣ N) : F ∣ m - 1 := by
  induction m using Nat.strongRecOn with
  | ind m ih =>
    by_cases h2 : 2 ≤ m
    · obtain ⟨p, hp, hd⟩ := hasPr m h2
      obtain ⟨c, rfl⟩ := hd
      have hp2 := hp.1
      have hc0 : 0 < c := by
        rcases Nat.eq_zero_or_pos c with h | h
        · subst h; simp at h2
        · exact h
      have hlt : c < p * c := by
        have : 2 * c ≤ p * c := Nat.mul_le_mul_right c hp2
        omega
      obtain ⟨x, hx⟩ := ih c hlt (Nat.dvd_trans (Nat.dvd_mul_left _ _) hm)
      obtain ⟨y, hy⟩ := hF p hp (Nat.dvd_trans (Nat.dvd_mul_right _ _) hm)
      have e1 : c = F * x + 1 := by omega
      have e2 : p = F * y + 1 := by omega
      refine ⟨y * c + x, ?_⟩
      rw [e2, Nat.add_mul, Nat.one_mul, Nat.mul_add, Nat.mul_assoc]
      omega
    · have : m - 1 = 0 := by omega
      rw [this]; exact Nat.dvd_zero _
theorem two_of_not {N : Nat} (hN : 2 ≤ N) (h : ¬ Pr N) : ∃ m k, N = m * k ∧ 2 ≤ m ∧ 2 ≤ k := by
  refine Classical.byContradiction fun hc => h ⟨hN, fun m hm => ?_⟩
  obtain ⟨k, rfl⟩ := hm
  by_cases h1 : m = 1
  · exact .inl h1
  · by_cases h2 : k = 1
    · right; rw [h2, Nat.mul_one]
    · exfalso
      apply hc
      refine ⟨m, k, rfl, ?_, ?_⟩
      · rcases Nat.eq_zero_or_pos m with h | h
        · subst h; simp at hN
        · omega
      · rcases Nat.eq_zero_or_pos k with h | h
        · subst h; simp at hN
        · omega
theorem pock2 {N F : Nat} (hN : 2 ≤ N) (hF : ∀ r, Pr r → r ∣ N → F ∣ r - 1) (h : N < (F + 1) * (F + 1)) : Pr N := by
  refine Classical.byContradiction fun hc => ?_
  obtain ⟨m, k, rfl, h1, h2⟩ := two_of_not hN hc
  have d1 := Nat.le_of_dvd (by omega) (all_one hF m (Nat.dvd_mul_right _ _))
  have d2 := Nat.le_of_dvd (by omega) (all_one hF k (Nat.dvd_mul_left _ _))
  exact absurd (Nat.mul_le_mul (show F + 1 ≤ m by omega) (show F + 1 ≤ k by omega)) (by omega)
/-- A third of the digits suffices. -/
theorem pock3 {N F c1 c2 s : Nat} (hN : 2 ≤ N) (hF : ∀ r, Pr r → r ∣ N → F ∣ r - 1) (h3 : N ≤ F * F * F) (hd : N = (c2 * F + c1) * F + 1) (hc : 0 < c1) (hcF : c1 < F) (hs : c1 * c1 < 4 * c2 ∨ (s * s + 4 * c2 < c1 * c1 ∧ c1 * c1 < (s + 1) * (s + 1) + 4 * c2)) : Pr N := by
  refine Classical.byContradiction fun hcn => ?_
  obtain ⟨m, k, hmk, h1, h2⟩ := two_of_not hN hcn
  obtain ⟨a, ha⟩ := all_one hF m (by rw [hmk]; exact Nat.dvd_mul_right _ _)
  obtain ⟨b, hb⟩ := all_one hF k (by rw [hmk]; exact Nat.dvd_mul_left _ _)
  have em : m = F * a + 1 := by omega
  have ek : k = F * b + 1 := by omega
  have a0 : 0 < a := by rcases Nat.eq_zero_or_pos a with h | h; (subst h; simp at em; omega); exact h
  have b0 : 0 < b := by rcases Nat.eq_zero_or_pos b with h | h; (subst h; simp at ek; omega); exact h
  have F0 : 0 < F := by omega
  have eN : N = (a * b * F + (a + b)) * F + 1 := by
    rw [hmk, em, ek]
    simp only [Nat.mul_add, Nat.add_mul, Nat.mul_one, Nat.one_mul]
    have : F * a * (F * b) = a * b * F * F := by simp only [Nat.mul_comm, Nat.mul_left_comm]
    rw [this, Nat.mul_comm a F, Nat.mul_comm b F]
    omega
  have e1 : c2 * F + c1 = a * b * F + (a + b) := by
    have : (c2 * F + c1) * F = (a * b * F + (a + b)) * F := by omega
    exact Nat.eq_of_mul_eq_mul_right F0 this
  have hab : a * b < F := by
    rcases Nat.lt_or_ge (a * b) F with h | h
    · exact h
    · have q1 : F * F * F ≤ a * b * F * F := by
        rw [Nat.mul_assoc (a * b), Nat.mul_assoc F]
        exact Nat.mul_le_mul_right _ h
      have q2 : (a * b * F + (a + b)) * F = a * b * F * F + (a + b) * F := Nat.add_mul _ _ _
      have q3 : 0 < (a + b) * F := Nat.mul_pos (by omega) F0
      omega
  have hle : a + b ≤ a * b + 1 := by
    obtain ⟨a', rfl⟩ : ∃ x, a = x + 1 := ⟨a - 1, by omega⟩
    obtain ⟨b', rfl⟩ : ∃ x, b = x + 1 := ⟨b - 1, by omega⟩
    have : (a' + 1) * (b' + 1) = a' * b' + a' + b' + 1 := by rw [Nat.add_mul, Nat.mul_add]; omega
    have := Nat.zero_le (a' * b')
    omega
  have hlt : a + b < F := by
    rcases Nat.lt_or_ge (a + b) F with h | h
    · exact h
    · exfalso
      have hE : a + b = F := by omega
      rw [hE] at e1
      have : (c2 * F + c1) % F = (a * b * F + F) % F := by rw [e1]
      rw [Nat.mul_comm c2, Nat.mul_add_mod, Nat.add_mod_right, Nat.mul_comm (a * b), Nat.mul_mod_right, Nat.mod_eq_of_lt hcF] at this
      omega
  have r1 : c1 = a + b := by
    have : (c2 * F + c1) % F = (a * b * F + (a + b)) % F := by rw [e1]
    rw [Nat.mul_comm c2, Nat.mul_comm (a * b), Nat.mul_add_mod, Nat.mul_add_mod, Nat.mod_eq_of_lt hcF, Nat.mod_eq_of_lt hlt] at this
    exact this
  have r2 : c2 = a * b := by
    rw [r1] at e1
    exact Nat.eq_of_mul_eq_mul_right F0 (by omega)
  rw [r1, r2] at hs
  have sq : ∀ x y : Nat, x ≤ y → (x + y) * (x + y) = (y - x) * (y - x) + 4 * (x * y) := by
    intro x y h
    obtain ⟨d, rfl⟩ : ∃ d, y = x + d := ⟨y - x, by omega⟩
    have : x + d - x = d := by omega
    rw [this]
    simp only [Nat.mul_add, Nat.add_mul, Nat.mul_comm d x]
    omega
  obtain ⟨d, hdd⟩ : ∃ d, (a + b) * (a + b) = d * d + 4 * (a * b) := by
    rcases Nat.le_total a b with h | h
    · exact ⟨_, sq a b h⟩
    · exact ⟨a - b, by rw [Nat.add_comm a b, Nat.mul_comm a b]; exact sq b a h⟩
  rw [hdd] at hs
  rcases hs with h | ⟨h, g⟩
  · omega
  · have u1 : s * s < d * d := by omega
    have u2 : d * d < (s + 1) * (s + 1) := by omega
    have v1 : s < d := by
      rcases Nat.lt_or_ge s d with h | h
      · exact h
      · exact absurd (Nat.mul_le_mul h h) (by omega)
    have v2 : d < s + 1 := by
      rcases Nat.lt_or_ge d (s + 1) with h | h
      · exact h
      · exact absurd (Nat.mul_le_mul h h) (by omega)
    omega
end Go.Proofs.YtjmiaakfdclfjaaGreatDoor.Pm
/-
  Primes: powers modulo a number, trial division, a witness (pure).
-/
namespace Go.Proofs.YtjmiaakfdclfjaaGreatDoor.Pm
def sqm (N x : Nat) : Nat := x * x % N
/-- a ^ k modulo N, k below 2 ^ f. -/
def pw (N a : Nat) : Nat → Nat → Nat
  | 0, _ => 1 % N
  | f + 1, k => if k % 2 = 0 then sqm N (pw N a f (k / 2)) else sqm N (pw N a f (k / 2)) * a % N
theorem pw_eq (N a f k : Nat) (h : k < 2 ^ f) : pw N a f k = a ^ k % N := by
  induction f generalizing k with
  | zero => have : k = 0 := by simpa using h
            subst this; simp [pw]
  | succ f ih =>
    have e := ih (k / 2) (by rw [Nat.pow_succ] at h; omega)
    unfold pw
    rw [e]
    unfold sqm
    split
    · rename_i h0
      have : k = k / 2 + k / 2 := by omega
      rw [← Nat.mul_mod, ← Nat.pow_add, ← this]
    · rename_i h0
      have : k = k / 2 + k / 2 + 1 := by omega
      rw [← Nat.mul_mod, Nat.mod_mul_mod, ← Nat.pow_add, ← Nat.pow_succ]
      show a ^ (k / 2 + k / 2 + 1) % N = _
      rw [← this]
/-- No divisor from d on, j of them tried. -/
def td (n : Nat) : Nat → Nat → Bool
  | 0, d => decide (n < d * d)
  | j + 1, d => if n < d * d then true else if n % d = 0 then false else td n j (d + 1)
theorem td_ok (n j d : Nat) (h : td n j d = true) (hd : ∀ m, 2 ≤ m → m < d → ¬ m ∣ n) : ∀ m, 2 ≤ m → m * m ≤ n → ¬ m ∣ n := by
  induction j generalizing d with
  | zero =>
    have h : n < d * d := by simpa [td] using h
    intro m h2 hm
    refine hd m h2 ?_
    rcases Nat.lt_or_ge m d with g | g
    · exact g
    · exact absurd (Nat.mul_le_mul g g) (by omega)
  | succ j ih =>
    unfold td at h
    split at h
    · rename_i h
      intro m h2 hm
      refine hd m h2 ?_
      rcases Nat.lt_or_ge m d with g | g
      · exact g
      · exact absurd (Nat.mul_le_mul g g) (by omega)
    · split at h
      · cases h
      · rename_i h0
        refine ih (d + 1) h fun m h2 hm => ?_
        by_cases e : m = d
        · subst e; intro hh; exact h0 (Nat.mod_eq_zero_of_dvd hh)
        · exact hd m h2 (by omega)
theorem pr_td (n j : Nat) (h2 : 2 ≤ n) (h : td n j 2 = true) : Pr n := by
  refine Classical.byContradiction fun hc => ?_
  obtain ⟨m, k, rfl, h1, h2⟩ := two_of_not h2 hc
  have := td_ok _ _ _ h (fun m a b => by omega)
  rcases Nat.le_total m k with g | g
  · exact this m h1 (Nat.mul_le_mul_left m g) (Nat.dvd_mul_right _ _)
  · exact this k h2 (Nat.mul_le_mul_right k g) (Nat.dvd_mul_left _ _)
def wg (N a f q : Nat) : Bool := Nat.gcd (pw N a f ((N - 1) / q) + (N - 1)) N == 1
theorem wg_gcd (N x : Nat) (hN : 2 ≤ N) (hx : 1 ≤ x) (h : Nat.gcd (x % N + (N - 1)) N = 1) : Nat.gcd (x - 1) N = 1 := by
  have e : x % N + (N - 1) + N * (x / N) = x - 1 + N := by have := Nat.mod_add_div x N; omega
  have h1 : Nat.gcd (x % N + (N - 1) + N * (x / N)) N = Nat.gcd (x % N + (N - 1)) N := by rw [Nat.mul_comm N, Nat.gcd_add_mul_right_left]
  have h2 : Nat.gcd (x - 1 + N) N = Nat.gcd (x - 1) N := by simp
  rw [← h2, ← e, h1, h]
theorem pock1' {N r a q e f : Nat} (hf : N < 2 ^ f) (ha : 1 ≤ a) (hr : Pr r) (hrN : r ∣ N) (hN : 2 ≤ N) (hq : Pr q) (he : (N - 1) % q ^ e = 0) (h1 : pw N a f (N - 1) = 1) (h2 : wg N a f q = true) : q ^ e ∣ r - 1 := by
  refine pock1 (a := a) hr hrN hN hq (Nat.dvd_of_mod_eq_zero he) ?_ ?_
  · rw [← pw_eq N a f (N - 1) (by omega), h1, Nat.mod_eq_of_lt (by omega)]
  · unfold wg at h2
    rw [pw_eq N a f _ (Nat.lt_of_le_of_lt (Nat.div_le_self _ _) (by omega))] at h2
    exact wg_gcd N _ hN (Nat.pow_pos ha) (by simpa using h2)
end Go.Proofs.YtjmiaakfdclfjaaGreatDoor.Pm
