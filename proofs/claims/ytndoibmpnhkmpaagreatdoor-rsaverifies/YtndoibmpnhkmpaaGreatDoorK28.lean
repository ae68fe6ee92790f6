/-
  Rsa: what a signature says (Raw), by the program and by the reference.
-/
import Derived.Test.YtndoibmpnhkmpaaGreatDoorK27
namespace Go.Proofs.YtndoibmpnhkmpaaGreatDoor
open Go.RowKit
set_option maxRecDepth 20000
/-- What Raw tells: the bytes, the error. -/
def rawS (ns es sg : List Int) : List Int × Int :=
  if keyOk ns es = false then ([], 80) else if sg.length ≠ keySz ns es then ([], 112) else if val ns ≤ Nt.bv sg.reverse then ([], 112)
  else Nt.bytS (lim (Nt.bv sg.reverse ^ (val es).toNat % val ns).toNat) (keySz ns es)
theorem bits_len {X : List Int} (uX : U32s X) : bts X ≤ 32 * X.length := Nt.bitLen_val uX
theorem key_facts {ns es : List Int} (un : U32s ns) (h : keyOk ns es = true) : ns.length ≤ 256 ∧ es.length ≤ 256 ∧ 0 < val ns ∧ keySz ns es = (bts ns + 7) / 8 ∧ keySz ns es ≤ 1024 ∧ 512 ≤ bts ns := by
  have e : keySz ns es = (bts ns + 7) / 8 := by unfold keySz; rw [h]; rfl
  have hb := bits_len un
  unfold keyOk modOk expOk at h
  simp at h
  obtain ⟨⟨h1, h2, _⟩, h3, _⟩ := h
  refine ⟨h1, h3, ?_, e, by rw [e]; omega, h2⟩
  have h0 := val_nonneg un
  rcases Int.lt_or_eq_of_le h0 with h | h
  · exact h
  · exfalso; unfold bts at h2; rw [← h] at h2; revert h2; decide
theorem u8_rev {sg : List Int} (us : U8s sg) : Nt.U8s sg.reverse := fun x hx => us x (List.mem_reverse.1 hx)
theorem bv_len {sg : List Int} (us : U8s sg) (h : sg.length ≤ 2048) : (lim (Nt.bv sg.reverse).toNat).length ≤ 512 := by
  refine lim_len_le ?_
  have h1 := Nt.bv_bound (u8_rev us)
  rw [Int.toNat_of_nonneg h1.1]
  refine Int.lt_of_lt_of_le h1.2 ?_
  rw [List.length_reverse]
  have e : ∀ k : Nat, (4294967296 : Int) ^ k = 256 ^ (4 * k) := fun k => by rw [Int.pow_mul]; rfl
  rw [e]
  obtain ⟨t, ht⟩ : ∃ t, 4 * 512 = t := ⟨_, rfl⟩
  rw [ht]
  have h2 : (256 : Nat) ^ sg.length ≤ 256 ^ t := Nat.pow_le_pow_right (by decide) (by omega)
  have h3 := Int.ofNat_le.2 h2
  rw [Int.natCast_pow, Int.natCast_pow] at h3
  exact h3
theorem exp_ok {ns es : List Int} (un : U32s ns) (h : keyOk ns es = true) {sg : List Int} (us : U8s sg) (hs : sg.length ≤ 2048) :
    Nt.expS (lim (Nt.bv sg.reverse).toNat) es ns = (lim (Nt.bv sg.reverse ^ (val es).toNat % val ns).toNat, 0) := by
  have h1 := key_facts un h
  have h2 := bv_len us hs
  unfold Nt.expS Nt.expLong
  rw [if_neg (by omega), if_neg (by omega), val_lim, Int.toNat_of_nonneg (Nt.bv_bound (u8_rev us)).1]
theorem from_ok {sg : List Int} (hs : sg.length ≤ 2048) : Nt.fromS sg = (lim (Nt.bv sg.reverse).toNat, 0) := by
  unfold Nt.fromS; rw [if_neg (by omega)]
set_option maxHeartbeats 4000000 in
theorem Raw_any {w : World} (a a' : Option Addr) (n c n' c' : Nat) (ns es : List Int) (hn : Sl .u32 w (.slice a n c) ns) (un : U32s ns) (ln : ns.length = n) (he : Sl .u32 w (.slice a' n' c') es) (ue : U32s es) (le : es.length = n') (hb : n ≤ 600) (hb' : n' ≤ 600)
    (b : Option Addr) (m d : Nat) (sg : List Int) (hs : Sl .u8 w (.slice b m d) sg) (us : U8s sg) (ls : sg.length = m) :
    Calls Tryz.prog 12 #[.agg #[.slice a n c, .slice a' n' c'], .slice b m d] w fun e w' => ∃ r, e = .returned (.tuple #[r, .int .i64 (rawS ns es sg).2]) ∧ Sl .u8 w' r (rawS ns es sg).1 ∧ Below w.heap.size w w' := by
  have HC0 : Hid (∀ W, Below w.heap.size w W → Calls Tryz.prog 29 #[.agg #[.slice a n c, .slice a' n' c']] W fun e w'' => e = .returned (.int .i64 (if keyOk ns es then 0 else 80)) ∧ Below W.heap.size W w'') := fun W hw => Check_any a a' n c n' c' ns es (below_sl hw hn) un ln (below_sl hw he) ue le (by omega) (by omega)
  have HS : Hid (∀ W, Below w.heap.size w W → Calls Tryz.prog 30 #[.agg #[.slice a n c, .slice a' n' c']] W fun e w'' => e = .returned (.int .i64 (keySz ns es)) ∧ Below W.heap.size W w'') := fun W hw => Size_key a a' n c n' c' ns es (below_sl hw hn) un ln (below_sl hw he) ue le (by omega) (by omega) (bts_le un (by omega))
  have HFb : Hid (m ≤ 2048 → ∀ W, Below w.heap.size w W → Calls Tryz.prog 31 #[.slice b m d] W fun e w'' => ∃ r, e = .returned (.tuple #[r, .int .i64 0]) ∧ Sl .u32 w'' r (lim (Nt.bv sg.reverse).toNat) ∧ Below W.heap.size W w'') := fun hm W hw => by
    refine (Nt.FromBytes_any sg _ W (below_sl hw hs) us).mono ?_
    rintro e w'' ⟨⟨r, rfl, ho⟩, hB⟩
    rw [from_ok (by omega)] at ho ⊢
    exact ⟨r, rfl, ho.sl, hB⟩
  have HCm : Hid (m ≤ 2048 → ∀ W r, Below w.heap.size w W → Sl .u32 W r (lim (Nt.bv sg.reverse).toNat) → Calls Tryz.prog 32 #[r, .slice a n c] W fun e w'' => e = .returned (.int .i64 (Nt.cmpI (Nt.bv sg.reverse) (val ns))) ∧ Below W.heap.size W w'') := fun hm W r hw hr => by
    refine (Nt.Cmp_any _ ns _ _ W hr (below_sl hw hn) (lim_u32 _) un (by have := bv_len us (by omega); omega) (by omega)).mono ?_
    rintro e w'' ⟨rfl, hB⟩
    rw [val_lim, Int.toNat_of_nonneg (Nt.bv_bound (u8_rev us)).1]
    exact ⟨rfl, hB⟩
  have HEx : Hid (m ≤ 2048 → keyOk ns es = true → ∀ W r, Below w.heap.size w W → Sl .u32 W r (lim (Nt.bv sg.reverse).toNat) → Calls Tryz.prog 33 #[r, .slice a' n' c', .slice a n c] W fun e w'' => ∃ q, e = .returned (.tuple #[q, .int .i64 0]) ∧ Sl .u32 w'' q (lim (Nt.bv sg.reverse ^ (val es).toNat % val ns).toNat) ∧ Below W.heap.size W w'') := fun hm hk W r hw hr => by
    refine (Nt.ExpMod_any _ es ns _ _ _ W hr (below_sl hw he) (below_sl hw hn) (lim_u32 _) ue un (.inr Nt.long_ok)).mono ?_
    rintro e w'' ⟨⟨q, rfl, ho⟩, hB⟩
    rw [exp_ok un hk us (by omega)] at ho ⊢
    exact ⟨q, rfl, ho.sl, hB⟩
  have HBy : Hid (∀ W q, keySz ns es ≤ 1024 → Sl .u32 W q (lim (Nt.bv sg.reverse ^ (val es).toNat % val ns).toNat) → Calls Tryz.prog 34 #[q, .int .i64 (keySz ns es)] W fun e w'' => ∃ t, e = .returned (.tuple #[t, .int .i64 (Nt.bytS (lim (Nt.bv sg.reverse ^ (val es).toNat % val ns).toNat) (keySz ns es)).2]) ∧ Sl .u8 w'' t (Nt.bytS (lim (Nt.bv sg.reverse ^ (val es).toNat % val ns).toNat) (keySz ns es)).1 ∧ Below W.heap.size W w'') := fun W q hk hq => by
    refine (Nt.Bytes_any _ _ _ W hq (lim_u32 _) (by omega) (by omega)).mono ?_
    rintro e w'' ⟨⟨t, rfl, ho, _⟩, hB⟩
    exact ⟨t, rfl, ho.sl, hB⟩
  have HK : Hid (keyOk ns es = true → keySz ns es ≤ 1024) := fun h => (key_facts un h).2.2.2.2.1
  have HR : Hid (rawS ns es sg = if keyOk ns es = false then ([], 80) else if m ≠ keySz ns es then ([], 112) else if val ns ≤ Nt.bv sg.reverse then ([], 112)
    else Nt.bytS (lim (Nt.bv sg.reverse ^ (val es).toNat % val ns).toNat) (keySz ns es)) := by show _ = _; rw [← ls]; rfl
  obtain ⟨RS, hRS⟩ : ∃ RS, rawS ns es sg = RS := ⟨_, rfl⟩
  obtain ⟨Z, hZ⟩ : ∃ Z, keySz ns es = Z := ⟨_, rfl⟩
  obtain ⟨x, hx⟩ : ∃ x, Nt.bv sg.reverse = x := ⟨_, rfl⟩
  rw [hx] at HFb HCm HEx HBy HR
  obtain ⟨y, hy⟩ : ∃ y, lim (x ^ (val es).toNat % val ns).toNat = y := ⟨_, rfl⟩
  rw [hy] at HEx HBy HR
  rw [hRS] at HR ⊢
  rw [hZ] at HS HBy HK HR
  obtain ⟨u, hu⟩ : ∃ u, lim x.toNat = u := ⟨_, rfl⟩
  rw [hu] at HFb HCm HEx
  obtain ⟨N, hN⟩ : ∃ N, val ns = N := ⟨_, rfl⟩
  rw [hN] at HCm HR
  clear hn un ln he ue le hs us ls hRS hZ hx hy hu hN
  go_enter Tryz.func12, Tryz.ntmps12
  go_upto_region 1 with (refine Sh.wpList_boxR rfl 24 (.tmp 0) rfl #[.slice a n c, .slice a' n' c'] rfl ?_)
  refine Sh.wp_gen (fun W => Blk 24 W w.heap.size [.slice a n c, .slice a' n' c'] ∧ Below w.heap.size w W) ⟨Blk.new _ w _, al1 _⟩ ?_
  rintro W2 ⟨hB, hBw⟩
  have H2 : Hid (Below w.heap.size w W2 ∧ W2.rangeAt w.heap.size 0 [.slice a n c, .slice a' n' c'] ∧ ∀ W3, Below W2.heap.size W2 W3 → W3.rangeAt w.heap.size 0 [.slice a n c, .slice a' n' c'] ∧ W3.cell? ⟨w.heap.size, 0, none⟩ = some (.slice a n c) ∧ W3.cell? ⟨w.heap.size, 1, none⟩ = some (.slice a' n' c') ∧ Below w.heap.size w W3) := ⟨hBw, hB.whole, fun W3 h3 => ⟨(below_blk h3 hB.lt hB).whole, (below_blk h3 hB.lt hB).cell 0, (below_blk h3 hB.lt hB).cell 1, below_via hBw h3 (Nat.le_refl _)⟩⟩
  clear hB hBw
  cases hk : keyOk ns es with
  | false =>
    have HC : Hid (∀ W, Below w.heap.size w W → Calls Tryz.prog 29 #[.agg #[.slice a n c, .slice a' n' c']] W fun e w'' => e = .returned (.int .i64 80) ∧ Below W.heap.size W w'') := fun W hw => (HC0.out W hw).mono fun _ _ h => ⟨by rw [h.1, hk]; rfl, h.2⟩
    have HQ : Hid (RS = ([], 80)) := by show _ = _; rw [HR.out, if_pos hk]
    clear hk HC0
    go_wp2_with (first
      | (refine wpList_load_mid rfl 24 (.tmp 2) rfl w.heap.size 0 rfl [.slice a n c, .slice a' n' c'] _ H2.out.2.1 Tryz.underlying24 rfl (by kernel_rfl) ?_)
      | (go_at_call 29; refine (HC.out _ H2.out.1).mono ?_; rintro e w3 ⟨rfl, hb3⟩; have H3 : Hid (Below w.heap.size w w3) := (H2.out.2.2 w3 hb3).2.2.2; clear hb3))
    go_ret2
    exact ⟨_, by rw [HQ.out]; rfl, by rw [HQ.out]; exact nil_sl _, H3.out⟩
  | true =>
    have HC : Hid (∀ W, Below w.heap.size w W → Calls Tryz.prog 29 #[.agg #[.slice a n c, .slice a' n' c']] W fun e w'' => e = .returned (.int .i64 0) ∧ Below W.heap.size W w'') := fun W hw => (HC0.out W hw).mono fun _ _ h => ⟨by rw [h.1, hk]; rfl, h.2⟩
    have hZ := HK.out hk
    have HQ : Hid (RS = if m ≠ Z then ([], 112) else if N ≤ x then ([], 112) else Nt.bytS y Z) := by show _ = _; rw [HR.out, if_neg (by rw [hk]; decide)]
    have HEx2 := fun hm => HEx.out hm hk
    have HX : Hid (m ≤ 2048 → ∀ W r, Below w.heap.size w W → Sl .u32 W r u → Calls Tryz.prog 33 #[r, .slice a' n' c', .slice a n c] W fun e w'' => ∃ q, e = .returned (.tuple #[q, .int .i64 0]) ∧ Sl .u32 w'' q y ∧ Below W.heap.size W w'') := HEx2
    clear hk HC0 HEx HEx2 HK HR
    go_upto_region 5 with (first
      | (refine wpList_load_mid rfl 24 (.tmp 2) rfl w.heap.size 0 rfl [.slice a n c, .slice a' n' c'] _ H2.out.2.1 Tryz.underlying24 rfl (by kernel_rfl) ?_)
      | (go_at_call 29; refine (HC.out _ H2.out.1).mono ?_; rintro e w3 ⟨rfl, hb3⟩; have H3 : Hid (Below w.heap.size w w3 ∧ w3.rangeAt w.heap.size 0 [.slice a n c, .slice a' n' c'] ∧ Below W2.heap.size W2 w3) := ⟨(H2.out.2.2 w3 hb3).2.2.2, (H2.out.2.2 w3 hb3).1, hb3⟩; clear hb3)
      | (refine wpList_load_mid rfl 24 (.tmp 2) rfl w.heap.size 0 rfl [.slice a n c, .slice a' n' c'] _ H3.out.2.1 Tryz.underlying24 rfl (by kernel_rfl) ?_)
      | (go_at_call 30; refine (HS.out _ H3.out.1).mono ?_; rintro e w4 ⟨rfl, hb4⟩; have H4 : Hid (Below W2.heap.size W2 w4) := below_via H3.out.2.2 hb4 (Nat.le_refl _); clear hb4))
    by_cases hm : m = Z
    · have d1 : ((m : Int) != (Z : Int)) = false := by simp [hm]
      have hmb : m ≤ 2048 := by omega
      have HQ2 : Hid (RS = if N ≤ x then ([], 112) else Nt.bytS y Z) := by show _ = _; rw [HQ.out, if_neg (by simpa using hm)]
      have HZ : Hid (Z ≤ 1024) := hZ
      clear hm HQ hZ
      by_cases hlt : N ≤ x
      · have HC2 : Hid (∃ cc : Int, Nt.cmpI x N = cc ∧ decide (cc ≥ 0) = true) := ⟨_, rfl, by unfold Nt.cmpI; rw [if_neg (by omega)]; split <;> decide⟩
        obtain ⟨cc, hcc, dd⟩ := HC2.out
        rw [hcc] at HCm
        have HQ3 : Hid (RS = ([], 112)) := by show _ = _; rw [HQ2.out, if_pos hlt]
        clear hcc HC2 HQ2 hlt
        go_wp2_with (first
          | (go_at_call 31; refine (HFb.out hmb _ (H2.out.2.2 _ H4.out).2.2.2).mono ?_; rintro e w5 ⟨r5, rfl, hr5, hb5⟩; have hc5 := (H2.out.2.2 w5 (below_via H4.out hb5 (Nat.le_refl _))).2.1; have H5 : Hid (Sl .u32 w5 r5 u ∧ Below W2.heap.size W2 w5) := ⟨hr5, below_via H4.out hb5 (Nat.le_refl _)⟩; clear hr5 hb5)
          | (go_at_call 32; refine (HCm.out hmb _ _ (H2.out.2.2 _ H5.out.2).2.2.2 H5.out.1).mono ?_; rintro e w6 ⟨rfl, hb6⟩; have H6 : Hid (Below w.heap.size w w6) := (H2.out.2.2 _ (below_via H5.out.2 hb6 (Nat.le_refl _))).2.2.2; clear hb6))
        go_ret2
        exact ⟨_, by rw [HQ3.out]; rfl, by rw [HQ3.out]; exact nil_sl _, H6.out⟩
      · have HC2 : Hid (Nt.cmpI x N = -1) := by show _ = _; unfold Nt.cmpI; rw [if_pos (by omega)]
        rw [HC2.out] at HCm
        have HQ3 : Hid (RS = Nt.bytS y Z) := by show _ = _; rw [HQ2.out, if_neg hlt]
        clear HC2 HQ2 hlt
        obtain ⟨bs, ee, hbs⟩ : ∃ bs ee, Nt.bytS y Z = (bs, ee) := ⟨_, _, rfl⟩
        rw [hbs] at HBy HQ3
        clear hbs
        go_wp2_with (first
          | (go_at_call 31; refine (HFb.out hmb _ (H2.out.2.2 _ H4.out).2.2.2).mono ?_; rintro e w5 ⟨r5, rfl, hr5, hb5⟩; have hc5 := (H2.out.2.2 w5 (below_via H4.out hb5 (Nat.le_refl _))).2.1; have H5 : Hid (Sl .u32 w5 r5 u ∧ Below W2.heap.size W2 w5) := ⟨hr5, below_via H4.out hb5 (Nat.le_refl _)⟩; clear hr5 hb5)
          | (go_at_call 32; refine (HCm.out hmb _ _ (H2.out.2.2 _ H5.out.2).2.2.2 H5.out.1).mono ?_; rintro e w6 ⟨rfl, hb6⟩; have hc6 := (H2.out.2.2 w6 (below_via H5.out.2 hb6 (Nat.le_refl _))).2.1; have he6 := (H2.out.2.2 w6 (below_via H5.out.2 hb6 (Nat.le_refl _))).2.2.1; have H6 : Hid (Sl .u32 w6 r5 u ∧ Below W2.heap.size W2 w6) := ⟨below_sl hb6 H5.out.1, below_via H5.out.2 hb6 (Nat.le_refl _)⟩; clear hb6 hc5)
          | (go_at_call 33; refine (HX.out hmb _ _ (H2.out.2.2 _ H6.out.2).2.2.2 H6.out.1).mono ?_; rintro e w7 ⟨r7, rfl, hr7, hb7⟩; have H7 : Hid (Sl .u32 w7 r7 y ∧ Below W2.heap.size W2 w7) := ⟨hr7, below_via H6.out.2 hb7 (Nat.le_refl _)⟩; clear hr7 hb7 hc6 he6)
          | (go_at_call 34; refine (HBy.out _ _ HZ.out H7.out.1).mono ?_; rintro e w8 ⟨r8, rfl, hr8, hb8⟩; have H8 : Hid (Sl .u8 w8 r8 bs ∧ Below w.heap.size w w8) := ⟨hr8, (H2.out.2.2 _ (below_via H7.out.2 hb8 (Nat.le_refl _))).2.2.2⟩; clear hr8 hb8))
        go_ret2
        exact ⟨_, by rw [HQ3.out]; rfl, by rw [HQ3.out]; exact H8.out.1, H8.out.2⟩
    · have d1 : ((m : Int) != (Z : Int)) = true := by simp; omega
      have HQ2 : Hid (RS = ([], 112)) := by show _ = _; rw [HQ.out, if_pos hm]
      clear hm HQ
      go_wp2
      go_ret2
      exact ⟨_, by rw [HQ2.out]; rfl, by rw [HQ2.out]; exact nil_sl _, (H2.out.2.2 _ H4.out).2.2.2⟩
end Go.Proofs.YtndoibmpnhkmpaaGreatDoor
/-
  The walks of the reference's Small and FromBytes.
-/
namespace Go.Proofs.YtndoibmpnhkmpaaGreatDoor.Nt
open Go.RowKit

def joinB : List Int → List Int
  | [] => []
  | [d] => [d]
  | d :: e :: r => (d + 256 * e) :: joinB r
theorem joinB_val (n : Nat) : ∀ ds : List Int, ds.length ≤ n → D.val (joinB ds) = bv ds := by
  induction n with
  | zero => intro ds h; have : ds = [] := List.eq_nil_of_length_eq_zero (by omega); subst this; rfl
  | succ n ih =>
    intro ds h
    match ds with
    | [] => rfl
    | [d] => simp [joinB, bv, D.val]
    | d :: e :: r => simp only [joinB, bv, D.val]; rw [ih r (by simp at h; omega)]; omega
theorem joinB_u16 (n : Nat) : ∀ ds : List Int, ds.length ≤ n → U8s ds → D.U16s (joinB ds) := by
  induction n with
  | zero => intro ds h _; have : ds = [] := List.eq_nil_of_length_eq_zero (by omega); subst this; exact D.U16s.nil
  | succ n ih =>
    intro ds h hu
    match ds with
    | [] => exact D.U16s.nil
    | [d] => have := hu d (by simp); unfold U8 at this; exact D.U16s.cons ⟨by omega, by omega⟩ D.U16s.nil
    | d :: e :: r =>
      have h1 := hu d (by simp); have h2 := hu e (by simp); unfold U8 at h1 h2
      exact D.U16s.cons ⟨by omega, by omega⟩ (ih r (by simp at h; omega) hu.tail.tail)
theorem joinB_snoc (k : Nat) : ∀ ds : List Int, 2 * k < ds.length → joinB (ds.take (2 * (k + 1))) = joinB (ds.take (2 * k)) ++ [ds.getD (2 * k) 0 + 256 * ds.getD (2 * k + 1) 0] := by
  induction k with
  | zero =>
    intro ds h
    match ds with
    | [d] => simp [joinB]
    | d :: e :: r => simp [joinB]
  | succ k ih =>
    intro ds h
    match ds with
    | [d] => simp at h
    | d :: e :: r =>
      have := ih r (by simp at h; omega)
      have e1 : 2 * (k + 1 + 1) = 2 * (k + 1) + 2 := by omega
      have e2 : 2 * (k + 1) = 2 * k + 2 := by omega
      rw [e1, e2, List.take_succ_cons, List.take_succ_cons, List.take_succ_cons, List.take_succ_cons]
      simp only [joinB, List.cons_append]
      rw [show 2 * k + 2 = 2 * (k + 1) by omega, this]
      simp [show 2 * (k + 1) = 2 * k + 1 + 1 by omega]
theorem joinB_length_le (n : Nat) : ∀ ds : List Int, ds.length ≤ n → (joinB ds).length ≤ ds.length := by
  induction n with
  | zero => intro ds h; have : ds = [] := List.eq_nil_of_length_eq_zero (by omega); subst this; simp [joinB]
  | succ n ih =>
    intro ds h
    match ds with
    | [] => simp [joinB]
    | [d] => simp [joinB]
    | d :: e :: r => have := ih r (by simp at h; omega); simp only [joinB, List.length_cons]; omega

set_option maxHeartbeats 2000000 in
theorem RFromBytes_any (bs : List Int) (v : Value) (w : World) (hb : Sl .u8 w v bs) (ub : U8s bs) :
    Calls Tryz.prog 37 #[v] w fun e w' => RTwo w' e (fromS bs) ∧ Below w.heap.size w w' := by
  have hb0 := hb
  obtain ⟨a, c, hv, hc⟩ := hb.len
  subst hv
  by_cases hlong : 2048 < bs.length
  · have HL : Hid (fromS bs = ([], 3)) := by unfold fromS; rw [if_pos hlong]; rfl
    go_enter Tryz.func37, Tryz.ntmps37
    go_wp2
    go_ret2
    exact ⟨RTwo.nil' HL.out, Below.refl _ _⟩
  obtain ⟨rb, hrb⟩ : ∃ rb, bs.reverse = rb := ⟨_, rfl⟩
  have lrb : rb.length = bs.length := by rw [← hrb]; simp
  have urb : U8s rb := hrb ▸ ub.rev
  have hget : ∀ j, j < bs.length → rb.getD j 0 = bs.getD (bs.length - 1 - j) 0 := fun j hj => by
    rw [← hrb, List.getD_eq_getElem?_getD, List.getElem?_reverse hj, ← List.getD_eq_getElem?_getD]
  obtain ⟨N, hN⟩ : ∃ N, bv rb = N := ⟨_, rfl⟩
  have HL : Hid (fromS bs = (lim N.toNat, 0)) := by unfold fromS; rw [if_neg hlong, hrb, hN]; rfl
  have HN : Hid (bv rb = N) := hN
  have HG : Hid (∀ j, j < bs.length → rb.getD j 0 = bs.getD (bs.length - 1 - j) 0) := hget
  clear hrb hN hget
  go_enter Tryz.func37, Tryz.ntmps37
  go_wp2
  go_loopw [4, 5] (fun o i wr => ∃ j : Nat, j % 2 = 0 ∧ j ≤ bs.length + 1 ∧ i = .int .i64 ((bs.length : Int) - 1 - j) ∧ Row .u64 79 w.heap.size wr o (joinB (rb.take j)) ∧ Below w.heap.size w wr) (fun _ i _ => (intOf i + 2).toNat)
  case atStart => exact ⟨0, rfl, by omega, by go_num, Row.nil _ _ _ _, Below.refl _ _⟩
  case round =>
    obtain ⟨j, hj2, hj, rfl, hrow, hBt⟩ := hrel
    by_cases hlt : j < bs.length
    · obtain ⟨i, hi⟩ : ∃ i, bs.length - 1 - j = i := ⟨_, rfl⟩
      have hiI : (bs.length : Int) - 1 - j = (i : Int) := by omega
      obtain ⟨y, hy⟩ : ∃ y, rb.getD j 0 = y := ⟨_, rfl⟩
      obtain ⟨z, hz⟩ : ∃ z, rb.getD (j + 1) 0 = z := ⟨_, rfl⟩
      have uy : U8 y := hy ▸ urb.at j
      have uz : U8 z := hz ▸ urb.at (j + 1)
      obtain ⟨uy1, uy2⟩ := uy
      obtain ⟨uz1, uz2⟩ := uz
      obtain ⟨b, off, ha, hbb, hrd⟩ : ∃ b off, a = some ⟨b, off, none⟩ ∧ b < w.heap.size ∧ Rd .u8 w b off bs := by
        obtain ⟨a', c', h1, _, h2⟩ := hb0
        cases h1
        rcases h2 with rfl | ⟨b, off, rfl, hb, hr⟩
        · simp at hlt
        · exact ⟨b, off, rfl, hb, hr⟩
      subst ha
      have hcy : wr.cell? ⟨b, off + i, none⟩ = some (.int .u8 y) := by rw [hBt.cell hbb, hrd i (by omega), ← hi, ← HG.out j hlt, hy]
      have hsz : w.heap.size ≤ wr.heap.size := hBt.size
      have hlen : (joinB (rb.take j)).length ≤ j := by have := joinB_length_le _ (rb.take j) (Nat.le_refl _); simp at this; omega
      have HLn : Hid ((joinB (rb.take j)).length ≤ j) := hlen
      have hsn : joinB (rb.take (j + 2)) = joinB (rb.take j) ++ [y + 256 * z] := by
        have := joinB_snoc (j / 2) rb (by omega)
        rw [show 2 * (j / 2 + 1) = j + 2 by omega, show 2 * (j / 2) = j by omega, hy, hz] at this; exact this
      have HH : Hid (joinB (rb.take (j + 2)) = joinB (rb.take j) ++ [y + 256 * z] ∧ Below w.heap.size w wr ∧ (bs.length : Int) - 1 - j = (i : Int)) := ⟨hsn, hBt, hiI⟩
      by_cases hi0 : i = 0
      · have hz0 : z = 0 := by rw [← hz]; simp [List.getD, List.getElem?_eq_none (show rb.length ≤ j + 1 by omega)]
        subst hz0
        subst hi0
        have hi00 : (bs.length : Int) - 1 - j = 0 := by omega
        rw [hi00]
        simp only [Nat.add_zero] at hcy
        clear hi00
        clear hy hz hrd hsn hBt hlen hb0 hb hiI hi
        go_wp2_with (at_builtin; refine wpList_ap rfl (.tmp 33) (.tmp 35) 88 88 rfl .u64 79 8 Tryz.und64 Tryz.info64 (by decide) w.heap.size _ (joinB (rb.take j)) (by rfl) (hrow.alloc _) _ [y + 256 * 0] (by rfl) (src_sl Tryz.und64 (Arr.sl64 (S := [y + 256 * 0]) (arr_new rfl (by simp)))) (by have := HLn.out; simp only [List.length_singleton]; omega) (by simp; omega) ?_; intro v1 w1 hr1 hg1; have hB1 := hg1.below (hrow.alloc _) (by simp; omega))
        go_roundw
        case rel => exact ⟨j + 2, by omega, by omega, by have := HH.out.2.2; go_num, by rw [HH.out.1]; exact hr1, (al HH.out.2.1).trans hB1⟩
        case measure => simp [intOf]
      · obtain ⟨i', rfl⟩ : ∃ i', i = i' + 1 := ⟨i - 1, by omega⟩
        have hcz : wr.cell? ⟨b, off + i', none⟩ = some (.int .u8 z) := by rw [hBt.cell hbb, hrd i' (by omega), ← hz, HG.out (j + 1) (by omega)]; congr 3; omega
        have hib : i' + 1 < bs.length := by omega
        rw [hiI]
        clear hy hz hrd hsn hBt hlen hb0 hb hiI hi hi0
        go_wp2_with (at_builtin; refine wpList_ap rfl (.tmp 33) (.tmp 35) 88 88 rfl .u64 79 8 Tryz.und64 Tryz.info64 (by decide) w.heap.size _ (joinB (rb.take j)) (by rfl) (hrow.alloc _) _ [y + 256 * z] (by rfl) (src_sl Tryz.und64 (Arr.sl64 (S := [y + 256 * z]) (arr_new rfl (by simp; omega)))) (by have := HLn.out; simp only [List.length_singleton]; omega) (by simp; omega) ?_; intro v1 w1 hr1 hg1; have hB1 := hg1.below (hrow.alloc _) (by simp; omega))
        go_roundw
        case rel => exact ⟨j + 2, by omega, by omega, by have := HH.out.2.2; go_num, by rw [HH.out.1]; exact hr1, (al HH.out.2.1).trans hB1⟩
        case measure => simp [intOf]; omega
    · have hneg : (bs.length : Int) - 1 - j < 0 := by omega
      have hfull : rb.take j = rb := List.take_of_length_le (by omega)
      rw [hfull] at hrow
      have hs := hrow.sl
      have hlen : (joinB rb).length ≤ 2048 := by have := joinB_length_le _ rb (Nat.le_refl _); omega
      have hu := joinB_u16 _ rb (Nat.le_refl _) urb
      have HV : Hid (D.val (joinB rb) = N) := (joinB_val _ rb (Nat.le_refl _)).trans HN.out
      clear hfull hrow hb0 hb
      go_wp2_with (go_at_call 69; refine (Limbs_any _ (joinB rb) hs hu (by omega) N HV.out).mono ?_; rintro e w' ⟨o, rfl, ho, hB⟩; replace hBt := grow0 hBt hB)
      go_ret2
      exact ⟨RTwo.mk' ho HL.out, hBt⟩
end Go.Proofs.YtndoibmpnhkmpaaGreatDoor.Nt
/-
  Rsa: the reference's Raw.
-/
namespace Go.Proofs.YtndoibmpnhkmpaaGreatDoor
open Go.RowKit
set_option maxRecDepth 20000
set_option maxHeartbeats 4000000 in
theorem RRaw_any {w : World} (a a' : Option Addr) (n c n' c' : Nat) (ns es : List Int) (hn : Sl .u32 w (.slice a n c) ns) (un : U32s ns) (ln : ns.length = n) (he : Sl .u32 w (.slice a' n' c') es) (ue : U32s es) (le : es.length = n') (hb : n ≤ 600) (hb' : n' ≤ 600)
    (b : Option Addr) (m d : Nat) (sg : List Int) (hs : Sl .u8 w (.slice b m d) sg) (us : U8s sg) (ls : sg.length = m) :
    Calls Tryz.prog 13 #[.agg #[.slice a n c, .slice a' n' c'], .slice b m d] w fun e w' => ∃ r, e = .returned (.tuple #[r, .int .i64 (rawS ns es sg).2]) ∧ Sl .u8 w' r (rawS ns es sg).1 ∧ Below w.heap.size w w' := by
  have HC0 : Hid (∀ W, Below w.heap.size w W → Calls Tryz.prog 35 #[.agg #[.slice a n c, .slice a' n' c']] W fun e w'' => e = .returned (.int .i64 (if keyOk ns es then 0 else 80)) ∧ Below W.heap.size W w'') := fun W hw => RCheck_any a a' n c n' c' ns es (below_sl hw hn) un ln (below_sl hw he) ue le (by omega) (by omega)
  have HS : Hid (∀ W, Below w.heap.size w W → Calls Tryz.prog 36 #[.agg #[.slice a n c, .slice a' n' c']] W fun e w'' => e = .returned (.int .i64 (keySz ns es)) ∧ Below W.heap.size W w'') := fun W hw => RSize_any a a' n c n' c' ns es (below_sl hw hn) un ln (below_sl hw he) ue le (by omega) (by omega) (bts_le un (by omega))
  have HFb : Hid (m ≤ 2048 → ∀ W, Below w.heap.size w W → Calls Tryz.prog 37 #[.slice b m d] W fun e w'' => ∃ r, e = .returned (.tuple #[r, .int .i64 0]) ∧ Sl .u32 w'' r (lim (Nt.bv sg.reverse).toNat) ∧ Below W.heap.size W w'') := fun hm W hw => by
    refine (Nt.RFromBytes_any sg _ W (below_sl hw hs) us).mono ?_
    rintro e w'' ⟨⟨r, rfl, ho⟩, hB⟩
    rw [from_ok (by omega)] at ho ⊢
    exact ⟨r, rfl, ho, hB⟩
  have HCm : Hid (m ≤ 2048 → ∀ W r, Below w.heap.size w W → Sl .u32 W r (lim (Nt.bv sg.reverse).toNat) → Calls Tryz.prog 38 #[r, .slice a n c] W fun e w'' => e = .returned (.int .i64 (Nt.cmpI (Nt.bv sg.reverse) (val ns))) ∧ Below W.heap.size W w'') := fun hm W r hw hr => by
    refine (Nt.RCmp_any _ _ _ ns hr (below_sl hw hn) (lim_u32 _) un (by have := bv_len us (by omega); omega) (by omega) _ rfl).mono ?_
    rintro e w'' ⟨rfl, hB⟩
    rw [val_lim, Int.toNat_of_nonneg (Nt.bv_bound (u8_rev us)).1]
    exact ⟨rfl, hB⟩
  have HEx : Hid (m ≤ 2048 → keyOk ns es = true → ∀ W r, Below w.heap.size w W → Sl .u32 W r (lim (Nt.bv sg.reverse).toNat) → Calls Tryz.prog 39 #[r, .slice a' n' c', .slice a n c] W fun e w'' => ∃ q, e = .returned (.tuple #[q, .int .i64 0]) ∧ Sl .u32 w'' q (lim (Nt.bv sg.reverse ^ (val es).toNat % val ns).toNat) ∧ Below W.heap.size W w'') := fun hm hk W r hw hr => by
    refine (Nt.RExpMod_any _ es ns _ _ _ W hr (below_sl hw he) (below_sl hw hn) (lim_u32 _) ue un).mono ?_
    rintro e w'' ⟨⟨q, rfl, ho⟩, hB⟩
    rw [exp_ok un hk us (by omega)] at ho ⊢
    exact ⟨q, rfl, ho, hB⟩
  have HBy : Hid (∀ W q, keySz ns es ≤ 1024 → Sl .u32 W q (lim (Nt.bv sg.reverse ^ (val es).toNat % val ns).toNat) → Calls Tryz.prog 40 #[q, .int .i64 (keySz ns es)] W fun e w'' => ∃ t, e = .returned (.tuple #[t, .int .i64 (Nt.bytS (lim (Nt.bv sg.reverse ^ (val es).toNat % val ns).toNat) (keySz ns es)).2]) ∧ Sl .u8 w'' t (Nt.bytS (lim (Nt.bv sg.reverse ^ (val es).toNat % val ns).toNat) (keySz ns es)).1 ∧ Below W.heap.size W w'') := fun W q hk hq => by
    refine (Nt.RBytes_any _ _ _ W hq (lim_u32 _) (by omega) (by omega)).mono ?_
    rintro e w'' ⟨⟨t, rfl, ho⟩, hB⟩
    exact ⟨t, rfl, ho, hB⟩
  have HK : Hid (keyOk ns es = true → keySz ns es ≤ 1024) := fun h => (key_facts un h).2.2.2.2.1
  have HR : Hid (rawS ns es sg = if keyOk ns es = false then ([], 80) else if m ≠ keySz ns es then ([], 112) else if val ns ≤ Nt.bv sg.reverse then ([], 112)
    else Nt.bytS (lim (Nt.bv sg.reverse ^ (val es).toNat % val ns).toNat) (keySz ns es)) := by show _ = _; rw [← ls]; rfl
  obtain ⟨RS, hRS⟩ : ∃ RS, rawS ns es sg = RS := ⟨_, rfl⟩
  obtain ⟨Z, hZ⟩ : ∃ Z, keySz ns es = Z := ⟨_, rfl⟩
  obtain ⟨x, hx⟩ : ∃ x, Nt.bv sg.reverse = x := ⟨_, rfl⟩
  rw [hx] at HFb HCm HEx HBy HR
  obtain ⟨y, hy⟩ : ∃ y, lim (x ^ (val es).toNat % val ns).toNat = y := ⟨_, rfl⟩
  rw [hy] at HEx HBy HR
  rw [hRS] at HR ⊢
  rw [hZ] at HS HBy HK HR
  obtain ⟨u, hu⟩ : ∃ u, lim x.toNat = u := ⟨_, rfl⟩
  rw [hu] at HFb HCm HEx
  obtain ⟨N, hN⟩ : ∃ N, val ns = N := ⟨_, rfl⟩
  rw [hN] at HCm HR
  clear hn un ln he ue le hs us ls hRS hZ hx hy hu hN
  go_enter Tryz.func13, Tryz.ntmps13
  go_upto_region 1 with (refine Sh.wpList_boxR rfl 24 (.tmp 0) rfl #[.slice a n c, .slice a' n' c'] rfl ?_)
  refine Sh.wp_gen (fun W => Blk 24 W w.heap.size [.slice a n c, .slice a' n' c'] ∧ Below w.heap.size w W) ⟨Blk.new _ w _, al1 _⟩ ?_
  rintro W2 ⟨hB, hBw⟩
  have H2 : Hid (Below w.heap.size w W2 ∧ W2.rangeAt w.heap.size 0 [.slice a n c, .slice a' n' c'] ∧ ∀ W3, Below W2.heap.size W2 W3 → W3.rangeAt w.heap.size 0 [.slice a n c, .slice a' n' c'] ∧ W3.cell? ⟨w.heap.size, 0, none⟩ = some (.slice a n c) ∧ W3.cell? ⟨w.heap.size, 1, none⟩ = some (.slice a' n' c') ∧ Below w.heap.size w W3) := ⟨hBw, hB.whole, fun W3 h3 => ⟨(below_blk h3 hB.lt hB).whole, (below_blk h3 hB.lt hB).cell 0, (below_blk h3 hB.lt hB).cell 1, below_via hBw h3 (Nat.le_refl _)⟩⟩
  clear hB hBw
  cases hk : keyOk ns es with
  | false =>
    have HC : Hid (∀ W, Below w.heap.size w W → Calls Tryz.prog 35 #[.agg #[.slice a n c, .slice a' n' c']] W fun e w'' => e = .returned (.int .i64 80) ∧ Below W.heap.size W w'') := fun W hw => (HC0.out W hw).mono fun _ _ h => ⟨by rw [h.1, hk]; rfl, h.2⟩
    have HQ : Hid (RS = ([], 80)) := by show _ = _; rw [HR.out, if_pos hk]
    clear hk HC0
    go_wp2_with (first
      | (refine wpList_load_mid rfl 24 (.tmp 2) rfl w.heap.size 0 rfl [.slice a n c, .slice a' n' c'] _ H2.out.2.1 Tryz.underlying24 rfl (by kernel_rfl) ?_)
      | (go_at_call 35; refine (HC.out _ H2.out.1).mono ?_; rintro e w3 ⟨rfl, hb3⟩; have H3 : Hid (Below w.heap.size w w3) := (H2.out.2.2 w3 hb3).2.2.2; clear hb3))
    go_ret2
    exact ⟨_, by rw [HQ.out]; rfl, by rw [HQ.out]; exact nil_sl _, H3.out⟩
  | true =>
    have HC : Hid (∀ W, Below w.heap.size w W → Calls Tryz.prog 35 #[.agg #[.slice a n c, .slice a' n' c']] W fun e w'' => e = .returned (.int .i64 0) ∧ Below W.heap.size W w'') := fun W hw => (HC0.out W hw).mono fun _ _ h => ⟨by rw [h.1, hk]; rfl, h.2⟩
    have hZ := HK.out hk
    have HQ : Hid (RS = if m ≠ Z then ([], 112) else if N ≤ x then ([], 112) else Nt.bytS y Z) := by show _ = _; rw [HR.out, if_neg (by rw [hk]; decide)]
    have HEx2 := fun hm => HEx.out hm hk
    have HX : Hid (m ≤ 2048 → ∀ W r, Below w.heap.size w W → Sl .u32 W r u → Calls Tryz.prog 39 #[r, .slice a' n' c', .slice a n c] W fun e w'' => ∃ q, e = .returned (.tuple #[q, .int .i64 0]) ∧ Sl .u32 w'' q y ∧ Below W.heap.size W w'') := HEx2
    clear hk HC0 HEx HEx2 HK HR
    go_wp2_with (first
      | (refine wpList_load_mid rfl 24 (.tmp 2) rfl w.heap.size 0 rfl [.slice a n c, .slice a' n' c'] _ H2.out.2.1 Tryz.underlying24 rfl (by kernel_rfl) ?_)
      | (go_at_call 35; refine (HC.out _ H2.out.1).mono ?_; rintro e w3 ⟨rfl, hb3⟩; have H3 : Hid (Below w.heap.size w w3 ∧ w3.rangeAt w.heap.size 0 [.slice a n c, .slice a' n' c'] ∧ Below W2.heap.size W2 w3) := ⟨(H2.out.2.2 w3 hb3).2.2.2, (H2.out.2.2 w3 hb3).1, hb3⟩; clear hb3)
      | (refine wpList_load_mid rfl 24 (.tmp 2) rfl w.heap.size 0 rfl [.slice a n c, .slice a' n' c'] _ H3.out.2.1 Tryz.underlying24 rfl (by kernel_rfl) ?_))
    refine (HS.out _ H3.out.1).mono ?_
    rintro e w4 ⟨rfl, hb4⟩
    have H4 : Hid (Below W2.heap.size W2 w4) := below_via H3.out.2.2 hb4 (Nat.le_refl _)
    clear hb4
    by_cases hm : m = Z
    · have d1 : ((m : Int) != (Z : Int)) = false := by simp [hm]
      have hmb : m ≤ 2048 := by omega
      have HQ2 : Hid (RS = if N ≤ x then ([], 112) else Nt.bytS y Z) := by show _ = _; rw [HQ.out, if_neg (by simpa using hm)]
      have HZ : Hid (Z ≤ 1024) := hZ
      clear hm HQ hZ
      by_cases hlt : N ≤ x
      · have HC2 : Hid (∃ cc : Int, Nt.cmpI x N = cc ∧ decide (cc ≥ 0) = true) := ⟨_, rfl, by unfold Nt.cmpI; rw [if_neg (by omega)]; split <;> decide⟩
        obtain ⟨cc, hcc, dd⟩ := HC2.out
        rw [hcc] at HCm
        have HQ3 : Hid (RS = ([], 112)) := by show _ = _; rw [HQ2.out, if_pos hlt]
        clear hcc HC2 HQ2 hlt
        go_wp2_with (first
          | (go_at_call 37; refine (HFb.out hmb _ (H2.out.2.2 _ H4.out).2.2.2).mono ?_; rintro e w5 ⟨r5, rfl, hr5, hb5⟩; have hc5 := (H2.out.2.2 w5 (below_via H4.out hb5 (Nat.le_refl _))).2.1; have H5 : Hid (Sl .u32 w5 r5 u ∧ Below W2.heap.size W2 w5) := ⟨hr5, below_via H4.out hb5 (Nat.le_refl _)⟩; clear hr5 hb5)
          | (go_at_call 38; refine (HCm.out hmb _ _ (H2.out.2.2 _ H5.out.2).2.2.2 H5.out.1).mono ?_; rintro e w6 ⟨rfl, hb6⟩; have H6 : Hid (Below w.heap.size w w6) := (H2.out.2.2 _ (below_via H5.out.2 hb6 (Nat.le_refl _))).2.2.2; clear hb6))
        go_ret2
        exact ⟨_, by rw [HQ3.out]; rfl, by rw [HQ3.out]; exact nil_sl _, H6.out⟩
      · have HC2 : Hid (Nt.cmpI x N = -1) := by show _ = _; unfold Nt.cmpI; rw [if_pos (by omega)]
        rw [HC2.out] at HCm
        have HQ3 : Hid (RS = Nt.bytS y Z) := by show _ = _; rw [HQ2.out, if_neg hlt]
        clear HC2 HQ2 hlt
        obtain ⟨bs, ee, hbs⟩ : ∃ bs ee, Nt.bytS y Z = (bs, ee) := ⟨_, _, rfl⟩
        rw [hbs] at HBy HQ3
        clear hbs
        go_wp2_with (first
          | (go_at_call 37; refine (HFb.out hmb _ (H2.out.2.2 _ H4.out).2.2.2).mono ?_; rintro e w5 ⟨r5, rfl, hr5, hb5⟩; have hc5 := (H2.out.2.2 w5 (below_via H4.out hb5 (Nat.le_refl _))).2.1; have H5 : Hid (Sl .u32 w5 r5 u ∧ Below W2.heap.size W2 w5) := ⟨hr5, below_via H4.out hb5 (Nat.le_refl _)⟩; clear hr5 hb5)
          | (go_at_call 38; refine (HCm.out hmb _ _ (H2.out.2.2 _ H5.out.2).2.2.2 H5.out.1).mono ?_; rintro e w6 ⟨rfl, hb6⟩; have hc6 := (H2.out.2.2 w6 (below_via H5.out.2 hb6 (Nat.le_refl _))).2.1; have he6 := (H2.out.2.2 w6 (below_via H5.out.2 hb6 (Nat.le_refl _))).2.2.1; have H6 : Hid (Sl .u32 w6 r5 u ∧ Below W2.heap.size W2 w6) := ⟨below_sl hb6 H5.out.1, below_via H5.out.2 hb6 (Nat.le_refl _)⟩; clear hb6 hc5)
          | (go_at_call 39; refine (HX.out hmb _ _ (H2.out.2.2 _ H6.out.2).2.2.2 H6.out.1).mono ?_; rintro e w7 ⟨r7, rfl, hr7, hb7⟩; have H7 : Hid (Sl .u32 w7 r7 y ∧ Below W2.heap.size W2 w7 ∧ w7.rangeAt w.heap.size 0 [.slice a n c, .slice a' n' c']) := ⟨hr7, below_via H6.out.2 hb7 (Nat.le_refl _), (H2.out.2.2 _ (below_via H6.out.2 hb7 (Nat.le_refl _))).1⟩; clear hr7 hb7 hc6 he6)
          | (replace H7 := H7; refine wpList_load_mid rfl 24 (.tmp 2) rfl w.heap.size 0 rfl [.slice a n c, .slice a' n' c'] _ H7.out.2.2 Tryz.underlying24 rfl (by kernel_rfl) ?_)
          | (replace H7 := H7; go_at_call 36; refine (HS.out _ (H2.out.2.2 _ H7.out.2.1).2.2.2).mono ?_; rintro e w9 ⟨rfl, hb9⟩; have H9 : Hid (Sl .u32 w9 r7 y ∧ Below W2.heap.size W2 w9) := ⟨below_sl hb9 H7.out.1, below_via H7.out.2.1 hb9 (Nat.le_refl _)⟩; clear hb9)
          | (go_at_call 40; refine (HBy.out _ _ HZ.out H9.out.1).mono ?_; rintro e w8 ⟨r8, rfl, hr8, hb8⟩; have H8 : Hid (Sl .u8 w8 r8 bs ∧ Below w.heap.size w w8) := ⟨hr8, (H2.out.2.2 _ (below_via H9.out.2 hb8 (Nat.le_refl _))).2.2.2⟩; clear hr8 hb8))
        go_ret2
        exact ⟨_, by rw [HQ3.out]; rfl, by rw [HQ3.out]; exact H8.out.1, H8.out.2⟩
    · have d1 : ((m : Int) != (Z : Int)) = true := by simp; omega
      have HQ2 : Hid (RS = ([], 112)) := by show _ = _; rw [HQ.out, if_pos hm]
      clear hm HQ
      go_wp2
      go_ret2
      exact ⟨_, by rw [HQ2.out]; rfl, by rw [HQ2.out]; exact nil_sl _, (H2.out.2.2 _ H4.out).2.2.2⟩
end Go.Proofs.YtndoibmpnhkmpaaGreatDoor
/-
  The walks of Lent and Kept: a list in memory of its own with two marks behind it; whether it is as it was.
-/
namespace Go.Proofs.YtndoibmpnhkmpaaGreatDoor.Nt
open Go.RowKit

/-- A lent list: a block from B on that holds X, the two marks, and whatever else. -/
def LentR (B : Nat) (w : World) (v : Value) (X : List Int) : Prop :=
  ∃ b S, v = .slice (some ⟨b, 0, none⟩) X.length S.length ∧ B ≤ b ∧ Arr .u32 56 w b S ∧ S.take (X.length + 2) = X ++ [57005, 48879] ∧ X.length + 2 ≤ S.length ∧ S.length ≤ maxLen
theorem LentR.sl {B : Nat} {w : World} {v : Value} {X : List Int} (h : LentR B w v X) : Sl .u32 w v X := by
  obtain ⟨b, S, rfl, _, hA, ht, hl, _⟩ := h
  refine ⟨_, _, rfl, by omega, .inr ⟨b, 0, rfl, hA.lt, ?_⟩⟩
  have h1 := hA.rd 0 X.length (by omega)
  have e : S.take X.length = X := by
    have : (S.take (X.length + 2)).take X.length = S.take X.length := by rw [List.take_take]; congr 1; omega
    rw [← this, ht, List.take_left]
  rw [List.drop_zero, e] at h1; exact h1
theorem LentR.below {B : Nat} {w w' : World} {v : Value} {X : List Int} (h : LentR B w v X) (hb : Below w.heap.size w w') : LentR B w' v X := by
  obtain ⟨b, S, rfl, h1, hA, h2⟩ := h
  exact ⟨b, S, rfl, h1, below_arr hb hA.lt hA, h2⟩
theorem LentR.mono {B B' : Nat} {w : World} {v : Value} {X : List Int} (h : LentR B w v X) (hb : B' ≤ B) : LentR B' w v X := by
  obtain ⟨b, S, rfl, h1, h2⟩ := h
  exact ⟨b, S, rfl, by omega, h2⟩

set_option maxHeartbeats 1000000 in
theorem Lent_any (X : List Int) (v : Value) (w : World) (hX : Sl .u32 w v X) (hl : X.length * 4 ≤ 140737488351232) :
    Calls Tryz.prog 11 #[v] w fun e w' => ∃ r, e = .returned r ∧ LentR w.heap.size w' r X ∧ Below w.heap.size w w' := by
  obtain ⟨a, c, hv, hc⟩ : ∃ a c, v = .slice a X.length c ∧ X.length ≤ c := by obtain ⟨a, c, h, h', _⟩ := hX; exact ⟨a, c, h, h'⟩
  subst hv
  go_enter Tryz.func11, Tryz.ntmps11
  go_wp2_with (first
    | (at_builtin; replace hr1 := hr1; refine wpList_ap rfl (.tmp 6) (.tmp 7) 22 22 rfl .u32 56 4 Tryz.und32 Tryz.info32 (by decide) w.heap.size _ X rfl (hr1.alloc _) _ [57005, 48879] rfl (src_sl Tryz.und32 (Arr.sl (S := [57005, 48879]) (arr_new rfl rfl))) (by simp; omega) (by have := hB1.size; simp at this ⊢; omega) ?_; intro v2 w2 hr2 hg2; have hB2 := hg2.below (hr1.alloc _) (by have := hB1.size; simp at this ⊢; omega); obtain ⟨b2, S2, hv2, hb2, hA2, hl2, ht2, hm2⟩ := hr2.open (X.length + 2) (by simp) (by omega); subst hv2; clear hr2 hg2)
    | (at_builtin; refine wpList_ap rfl (.tmp 4) (.tmp 5) 22 22 rfl .u32 56 4 Tryz.und32 Tryz.info32 (by decide) w.heap.size _ [] rfl (Row.arr (S := []) (arr_new rfl rfl) (Nat.le_refl _) (by decide)) _ X rfl (src_sl Tryz.und32 (al1 hX)) (by simp; omega) (by simp) ?_; intro v1 w1 hr1 hg1; have hB1 := hg1.below (Row.arr (B := w.heap.size) (S := []) (arr_new rfl rfl) (Nat.le_refl _) (by decide)) (by simp)))
  go_ret
  have hb1 : Below w.heap.size w w1 := (al (Below.refl _ _)).trans hB1
  have hb' : Below w.heap.size w w2 := (al hb1).trans hB2
  exact ⟨_, rfl, ⟨b2, S2, rfl, hb2, hA2, by simpa using ht2, hl2, hm2⟩, hb'⟩

set_option maxHeartbeats 1000000 in
theorem Kept_any {B : Nat} {w : World} (v u : Value) (X : List Int) (hv : LentR B w v X) (hu : Sl .u32 w u X) (hl : X.length ≤ 35184372088832) :
    Calls Tryz.prog 17 #[v, u] w fun e w' => e = .returned (.bool true) ∧ Below w.heap.size w w' := by
  have hs := hv.sl
  obtain ⟨b, S, rfl, hb, hA, ht, hle, hm⟩ := hv
  obtain ⟨a', c', hu', _⟩ := hu.len
  subst hu'
  have e1 : S.getD X.length 0 = 57005 := by
    have : (S.take (X.length + 2)).getD X.length 0 = S.getD X.length 0 := by simp [List.getD]
    rw [← this, ht]; simp [List.getD]
  have e2 : S.getD (X.length + 1) 0 = 48879 := by
    have : (S.take (X.length + 2)).getD (X.length + 1) 0 = S.getD (X.length + 1) 0 := by simp [List.getD]
    rw [← this, ht]; simp [List.getD]
  have hc1 := hA.cell X.length (by omega)
  have hc2 := hA.cell (X.length + 1) (by omega)
  rw [e1] at hc1; rw [e2] at hc2
  clear e1 e2 ht
  have hmm : (S.length : Int) ≤ 9223372036854775807 := by unfold maxLen at hm; omega
  have hlt := hA.lt
  go_enter Tryz.func17, Tryz.ntmps17
  go_wp2_with (first
    | (go_at_call 41; refine (Same_any _ _ X hs hu (by omega)).mono ?_; rintro e w' ⟨rfl, hB⟩; rw [← hB.cell (p := ⟨b, X.length, none⟩) hlt] at hc1; rw [← hB.cell (p := ⟨b, X.length + 1, none⟩) hlt] at hc2))
  go_ret
  exact ⟨rfl, hB⟩
end Go.Proofs.YtndoibmpnhkmpaaGreatDoor.Nt
