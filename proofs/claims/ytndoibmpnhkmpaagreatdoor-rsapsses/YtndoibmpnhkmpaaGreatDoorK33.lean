/-
  Rsa: signatures in the second way: VerifyPss of the program, walked.
-/
import Derived.Test.YtndoibmpnhkmpaaGreatDoorK32
namespace Go.Proofs.YtndoibmpnhkmpaaGreatDoor
open Go.RowKit
set_option maxRecDepth 20000
theorem pss_nums {B1 : Nat} (hB : 511 ≤ B1) (hB2 : B1 ≤ 8191) : ∃ n k sp, (B1 + 7) / 8 = n ∧ (B1 + 1 + 7) / 8 = n + k ∧ k ≤ 1 ∧ 8 * n - B1 = sp ∧ sp ≤ 7 ∧ 64 ≤ n ∧ n ≤ 1024 ∧ 8 * n = B1 + sp :=
  ⟨(B1 + 7) / 8, (B1 + 1 + 7) / 8 - (B1 + 7) / 8, 8 * ((B1 + 7) / 8) - B1, rfl, by omega, by omega, rfl, by omega, by omega, by omega, by omega⟩
set_option maxHeartbeats 8000000 in
theorem VerifyPss_any {w : World} (hT : Sh.Tabs w) (a a' : Option Addr) (n0 c0 n0' c0' : Nat) (ns es : List Int) (hn : Sl .u32 w (.slice a n0 c0) ns) (un : U32s ns) (ln : ns.length = n0) (he : Sl .u32 w (.slice a' n0' c0') es) (ue : U32s es) (le : es.length = n0') (hb : n0 ≤ 600) (hb' : n0' ≤ 600)
    (b : Option Addr) (m d : Nat) (sg : List Int) (hs : Sl .u8 w (.slice b m d) sg) (us : U8s sg) (ls : sg.length = m)
    (alg mask salt : Int) (hs0 : -9223372036854775808 ≤ salt) (hs1 : salt ≤ 9223372036854775807) (f : Option Addr) (k g : Nat) (X : List Int) (hX : Sl .u8 w (.slice f k g) X) (uX : U8s X) (lX : X.length = k) (lk : k ≤ 8192) :
    Calls Tryz.prog 20 #[.agg #[.slice a n0 c0, .slice a' n0' c0'], .int .i64 alg, .int .i64 mask, .int .i64 salt, .slice f k g, .slice b m d] w fun e w' => e = .returned (.int .i64 (pssS alg mask salt X ns es sg)) ∧ Below w.heap.size w w' := by
  have HRw : Hid (∀ W, Below w.heap.size w W → Calls Tryz.prog 12 #[.agg #[.slice a n0 c0, .slice a' n0' c0'], .slice b m d] W fun e w' => ∃ r, e = .returned (.tuple #[r, .int .i64 (rawS ns es sg).2]) ∧ Sl .u8 w' r (rawS ns es sg).1 ∧ Below W.heap.size W w') := fun W hW => Raw_any a a' n0 c0 n0' c0' ns es (below_sl hW hn) un ln (below_sl hW he) ue le hb hb' b m d sg (below_sl hW hs) us ls
  have HBt : Hid (∀ W, Below w.heap.size w W → Calls Tryz.prog 46 #[.slice a n0 c0] W fun e w'' => e = .returned (.int .i64 (bts ns)) ∧ Below W.heap.size W w'') := fun W hw =>
    (NBits_any ns _ W (below_sl hw hn) un (by omega)).mono fun _ _ h => ⟨h.1, h.2⟩
  have HID : Hid (∀ W, Calls Tryz.prog 42 #[.int .i64 alg, .slice f k g] W fun e w' => e = .returned (.bool (isD alg k)) ∧ W = w') := fun W => (isDigest_any alg f k g).mono fun _ _ h => ⟨h.1, h.2.symm⟩
  have HSz : Hid (∀ (q : Int) (W : World), Calls Tryz.prog 45 #[.int .i64 q] W fun e w'' => e = .returned (.int .i64 (Sh.siz q)) ∧ W = w'') := fun q W => (Sh.Size_any q).mono fun _ _ h => ⟨h.1, h.2.symm⟩
  have HRo : Hid ((rawS ns es sg).2 = 0 → (rawS ns es sg).1.length = (bts ns + 7) / 8 ∧ 512 ≤ bts ns ∧ bts ns ≤ 8192) := fun h => by
    have h1 := raw_ok h
    have h2 := key_facts un h1.1
    have h3 := bits_len un
    exact ⟨by rw [h1.2, h2.2.2.2.1], h2.2.2.2.2.2, by omega⟩
  have HRu : Hid (U8s (rawS ns es sg).1) := raw_u8
  have HX : Hid (Sl .u8 w (.slice f k g) X ∧ U8s X ∧ X.length = k ∧ k ≤ 8192 ∧ Sh.Tabs w) := ⟨hX, uX, lX, lk, hT⟩
  obtain ⟨V, hV⟩ : ∃ V, pssS alg mask salt X ns es sg = V := ⟨_, rfl⟩
  have HV : Hid ((if isD alg k = false ∨ Sh.siz mask = 0 ∨ salt < 0 then 1 else if (rawS ns es sg).2 ≠ 0 then (rawS ns es sg).2 else pssT alg mask salt X (bts ns) (rawS ns es sg).1) = V) := by show _ = _; rw [← hV, ← lX]; rfl
  rw [hV]
  obtain ⟨Rl, hRl⟩ : ∃ Rl, (rawS ns es sg).1 = Rl := ⟨_, rfl⟩
  obtain ⟨E, hE⟩ : ∃ E, (rawS ns es sg).2 = E := ⟨_, rfl⟩
  obtain ⟨B, hB⟩ : ∃ B, bts ns = B := ⟨_, rfl⟩
  rw [hRl] at HRw HV HRo HRu
  rw [hE] at HRw HV HRo
  rw [hB] at HBt HV HRo
  obtain ⟨zm, hzm⟩ : ∃ z, Sh.siz mask = z := ⟨_, rfl⟩
  have HZm : Hid (Sh.siz mask = zm) := hzm
  have HSm : Hid (∀ W : World, Calls Tryz.prog 45 #[.int .i64 mask] W fun e w'' => e = .returned (.int .i64 zm) ∧ W = w'') := fun W => by rw [← hzm]; exact HSz.out mask W
  have HSa : Hid (∀ W : World, Calls Tryz.prog 45 #[.int .i64 alg] W fun e w'' => e = .returned (.int .i64 (Sh.siz alg)) ∧ W = w'') := fun W => HSz.out alg W
  rw [hzm] at HV
  clear hn un ln he ue le hb hb' hs us ls hX uX lX lk hT hV hRl hE hB hzm HSz
  go_enter Tryz.func20, Tryz.ntmps20
  go_upto_region 1 with (refine Sh.wpList_boxR rfl 24 (.tmp 0) rfl #[.slice a n0 c0, .slice a' n0' c0'] rfl ?_)
  refine Sh.wp_gen (fun W => Blk 24 W w.heap.size [.slice a n0 c0, .slice a' n0' c0'] ∧ Below w.heap.size w W) ⟨Blk.new _ w _, al1 _⟩ ?_
  rintro W2 ⟨hBk, hBw⟩
  have H2 : Hid (Below w.heap.size w W2 ∧ W2.rangeAt w.heap.size 0 [.slice a n0 c0, .slice a' n0' c0'] ∧ ∀ W3, Below W2.heap.size W2 W3 → W3.cell? ⟨w.heap.size, 0, none⟩ = some (.slice a n0 c0) ∧ Below w.heap.size w W3) := ⟨hBw, hBk.whole, fun W3 h3 => ⟨(below_blk h3 hBk.lt hBk).cell 0, below_via hBw h3 (Nat.le_refl _)⟩⟩
  clear hBk hBw
  cases hD : isD alg k with
  | false =>
    have HQ : Hid (1 = V) := by show _ = _; rw [← HV.out]; exact (if_pos (.inl hD)).symm
    rw [hD] at HID
    clear hD HV
    go_wp2_with (go_at_call 42; refine (HID.out _).mono ?_; rintro e w' ⟨rfl, rfl⟩)
    go_ret
    exact ⟨by rw [← HQ.out]; rfl, H2.out.1⟩
  | true =>
  have HDz : Hid (0 < Sh.siz alg ∧ k = Sh.siz alg ∧ Sh.siz alg ≤ 64) := by
    have h := hD
    unfold isD at h
    simp at h
    exact ⟨h.1, h.2, by have ha := siz_pos.1 h.1; rcases ha with rfl | rfl | rfl | rfl <;> decide⟩
  rw [hD] at HID
  by_cases hz : zm = 0
  · have HQ : Hid (1 = V) := by show _ = _; rw [← HV.out]; exact (if_pos (.inr (.inl hz))).symm
    have d0 : ((zm : Int) == 0) = true := by simp [hz]
    clear hD HV hz
    go_wp2_with (first
      | (go_at_call 42; refine (HID.out _).mono ?_; rintro e w' ⟨rfl, rfl⟩)
      | (go_at_call 45; refine (HSm.out _).mono ?_; rintro e w' ⟨rfl, rfl⟩))
    go_ret
    exact ⟨by rw [← HQ.out]; rfl, H2.out.1⟩
  have d0 : ((zm : Int) == 0) = false := by simp; exact hz
  by_cases hsl : salt < 0
  · have HQ : Hid (1 = V) := by show _ = _; rw [← HV.out]; exact (if_pos (.inr (.inr hsl))).symm
    have d1 : decide (salt < 0) = true := by simpa using hsl
    clear hD HV hz hsl
    go_wp2_with (first
      | (go_at_call 42; refine (HID.out _).mono ?_; rintro e w' ⟨rfl, rfl⟩)
      | (go_at_call 45; refine (HSm.out _).mono ?_; rintro e w' ⟨rfl, rfl⟩))
    go_ret
    exact ⟨by rw [← HQ.out]; rfl, H2.out.1⟩
  have d1 : decide (salt < 0) = false := by simpa using hsl
  have HQ : Hid ((if E ≠ 0 then E else pssT alg mask salt X B Rl) = V) := by show _ = _; rw [← HV.out]; exact (if_neg (by rw [hD]; simp; exact ⟨hz, by omega⟩)).symm
  have hzp : 0 < zm := by omega
  obtain ⟨s, rfl⟩ : ∃ s : Nat, salt = s := ⟨salt.toNat, by omega⟩
  clear hD HV hz hsl hs0
  go_wp2_with (first
    | (go_at_call 42; refine (HID.out _).mono ?_; rintro e w' ⟨rfl, rfl⟩)
    | (go_at_call 45; refine (HSm.out _).mono ?_; rintro e w' ⟨rfl, rfl⟩)
    | (refine wpList_load_mid rfl 24 (.tmp 6) rfl w.heap.size 0 rfl [.slice a n0 c0, .slice a' n0' c0'] _ H2.out.2.1 Tryz.underlying24 rfl (by kernel_rfl) ?_))
  refine (HRw.out _ H2.out.1).mono ?_
  rintro e w3 ⟨r3, rfl, hr3, hb3⟩
  obtain ⟨a3, c3, hf3⟩ := hr3.form
  subst hf3
  by_cases h0 : E = 0
  · subst h0
    have HQ2 : Hid (pssT alg mask s X B Rl = V) := by show _ = _; rw [← HQ.out]; exact (if_neg (by simp)).symm
    have hro := HRo.out rfl
    obtain ⟨B1, hB1⟩ : ∃ B1, B = B1 + 1 := ⟨B - 1, by omega⟩
    subst hB1
    obtain ⟨n, kk, sp, en, eZ, hk1, esp, hsp, n64, n1024, e8⟩ := pss_nums (B1 := B1) (by omega) (by omega)
    have hRn : Rl.length = n + kk := by rw [hro.1, eZ]
    obtain ⟨Z, hZ⟩ : ∃ Z, Rl.length = Z := ⟨_, rfl⟩
    rw [hZ] at hr3 ⊢
    obtain ⟨b3, o3, rfl, hAt⟩ := at_of hr3 hZ (by omega)
    have H3 : Hid (At w3 b3 o3 Z c3 Rl ∧ Below W2.heap.size W2 w3) := ⟨hAt, hb3⟩
    have hk3 := (H2.out.2.2 _ hb3).1
    have HNn : Hid (Z = n + kk ∧ Rl.length = Z ∧ (B1 + 7) / 8 = n ∧ 8 * n = B1 + sp ∧ kk ≤ 1 ∧ sp ≤ 7 ∧ 64 ≤ n ∧ n ≤ 1024) := ⟨by omega, hZ, en, e8, hk1, hsp, n64, n1024⟩
    have HE8 : Hid (8 * (n : Int) - (B1 : Int) = (sp : Int)) := by show _ = _; omega
    have HP : Hid ((if kk ≠ 0 ∧ Rl.getD 0 0 ≠ 0 then 112
      else if ((n - 1 : Nat) : Int) - Sh.siz alg - 1 < (s : Int) ∨ (Rl.drop kk).getD (n - 1) 0 ≠ 188 then 112
      else if ((Rl.drop kk).take (n - 1 - Sh.siz alg)).getD 0 0 / 2 ^ (8 - sp) ≠ 0 then 112
      else if (umS ((Rl.drop kk).take (n - 1 - Sh.siz alg)) (Sh.msk mask (((Rl.drop kk).drop (n - 1 - Sh.siz alg)).take (Sh.siz alg)) (n - 1 - Sh.siz alg)) sp).take (n - 1 - Sh.siz alg - 1 - s + 1) ≠ ahd (n - 1 - Sh.siz alg - 1 - s) then 112
      else if Sh.dig alg (List.replicate 8 0 ++ X ++ (umS ((Rl.drop kk).take (n - 1 - Sh.siz alg)) (Sh.msk mask (((Rl.drop kk).drop (n - 1 - Sh.siz alg)).take (Sh.siz alg)) (n - 1 - Sh.siz alg)) sp).drop (n - 1 - Sh.siz alg - 1 - s + 1)) ≠ ((Rl.drop kk).drop (n - 1 - Sh.siz alg)).take (Sh.siz alg) then 112 else 0) = V) := by
      show _ = _
      rw [← HQ2.out]
      unfold pssT
      have q1 : (B1 + 1 + 6) / 8 = n := by omega
      have q2 : Rl.length - n = kk := by omega
      have q3 : 8 * n - (B1 + 1 - 1) = sp := by omega
      simp only [q1, q2, q3, Int.toNat_natCast]
    clear hro HQ HQ2 hRn hZ hr3 hAt hb3 en eZ hk1 esp hsp n64 n1024 e8
    go_wp2_with fail
    refine (HBt.out _ (H2.out.2.2 _ H3.out.2).2).mono ?_
    rintro e w4 ⟨rfl, hb4⟩
    have H4 : Hid (At w4 b3 o3 Z c3 Rl ∧ Below W2.heap.size W2 w4) := ⟨H3.out.1.below hb4, below_via H3.out.2 hb4 (Nat.le_refl _)⟩
    clear hb4 hk3 H3
    obtain ⟨Q1, hQ1⟩ : ∃ q, (decide (kk = 0) || decide (Rl.getD 0 0 = 0)) = q := ⟨_, rfl⟩
    have HLo : Hid (Calls Tryz.prog 47 #[.slice (some ⟨b3, o3, none⟩) Z c3, .int .i64 n] w4 fun e w' => e = .returned (.tuple #[.slice (some ⟨b3, o3 + kk, none⟩) n (c3 - kk), .bool Q1]) ∧ Below w4.heap.size w4 w') := lowest_any b3 o3 Z c3 n kk Rl H4.out.1 HNn.out.1 HNn.out.2.2.2.2.1 (by have := HNn.out.2.2.2.2.2.2.1; omega) (by have := HNn.out; omega) Q1 hQ1
    have HIn : Hid (∀ W, Calls Tryz.prog 48 #[.int .i64 B1] W fun e w' => e = .returned (.int .i64 n) ∧ W = w') := fun W => by
      have h := inBytes_any (w := W) B1 (by have := HNn.out; omega)
      rw [HNn.out.2.2.1] at h; exact h.mono fun _ _ h => ⟨h.1, h.2.symm⟩
    have hB1b : B1 ≤ 8192 := by have := HNn.out; omega
    go_wp2_with (go_at_call 48; refine (HIn.out _).mono ?_; rintro e w' ⟨rfl, rfl⟩)
    refine HLo.out.mono ?_
    rintro e w5 ⟨rfl, hb5⟩
    have H5 : Hid (At w5 b3 (o3 + kk) n (c3 - kk) (Rl.drop kk) ∧ Below W2.heap.size W2 w5) := ⟨by have h := (H4.out.1.below hb5).drop kk (by have := HNn.out.1; omega); rw [show Z - kk = n by have := HNn.out.1; omega] at h; exact h, below_via H4.out.2 hb5 (Nat.le_refl _)⟩
    clear hb5 H4 HLo
    cases Q1 with
    | false =>
      have HF : Hid (112 = V) := by
        show _ = _
        rw [← HP.out]
        simp at hQ1
        exact (if_pos hQ1).symm
      clear hQ1 HP
      go_wp2
      go_ret
      exact ⟨by rw [← HF.out]; rfl, (H2.out.2.2 _ H5.out.2).2⟩
    | true =>
    obtain ⟨em, hem⟩ : ∃ em, Rl.drop kk = em := ⟨_, rfl⟩
    rw [hem] at HP H5
    have HP2 : Hid ((if ((n - 1 : Nat) : Int) - Sh.siz alg - 1 < (s : Int) ∨ em.getD (n - 1) 0 ≠ 188 then 112
      else if (em.take (n - 1 - Sh.siz alg)).getD 0 0 / 2 ^ (8 - sp) ≠ 0 then 112
      else if (umS (em.take (n - 1 - Sh.siz alg)) (Sh.msk mask ((em.drop (n - 1 - Sh.siz alg)).take (Sh.siz alg)) (n - 1 - Sh.siz alg)) sp).take (n - 1 - Sh.siz alg - 1 - s + 1) ≠ ahd (n - 1 - Sh.siz alg - 1 - s) then 112
      else if Sh.dig alg (List.replicate 8 0 ++ X ++ (umS (em.take (n - 1 - Sh.siz alg)) (Sh.msk mask ((em.drop (n - 1 - Sh.siz alg)).take (Sh.siz alg)) (n - 1 - Sh.siz alg)) sp).drop (n - 1 - Sh.siz alg - 1 - s + 1)) ≠ (em.drop (n - 1 - Sh.siz alg)).take (Sh.siz alg) then 112 else 0) = V) := by
      show _ = _
      rw [← HP.out]
      simp at hQ1
      exact (if_neg (fun h => hQ1.elim (fun e => h.1 e) (fun e => h.2 e))).symm
    have HEu : Hid (U8s em) := by rw [← hem]; exact HRu.out.drop kk
    obtain ⟨h, hh⟩ : ∃ h, Sh.siz alg = h := ⟨_, rfl⟩
    rw [hh] at HP2 HSa HDz
    have HHa : Hid (Sh.siz alg = h) := hh
    obtain ⟨n1, hn1⟩ : ∃ n1, n = n1 + 1 := ⟨n - 1, by have := HNn.out; omega⟩
    subst hn1
    simp only [Nat.add_sub_cancel] at HP2
    have hn1b : n1 ≤ 1024 := by have := HNn.out; omega
    have hhb : h ≤ 100 := by have := HDz.out; omega
    clear hQ1 HP hem hh
    by_cases hcut : (n1 : Int) - h - 1 < (s : Int) ∨ em.getD n1 0 ≠ 188
    · have HF : Hid (112 = V) := by show _ = _; rw [← HP2.out]; exact (if_pos hcut).symm
      have HCm : Hid (Calls Tryz.prog 49 #[.slice (some ⟨b3, o3 + kk, none⟩) (n1 + 1) (c3 - kk), .int .i64 h, .int .i64 s] w5 fun e w' => e = .returned (.tuple #[.slice none 0 0, .slice none 0 0, .bool false]) ∧ w5 = w') := (cutMessage_no b3 (o3 + kk) (c3 - kk) n1 h s em H5.out.1 (by omega) hhb (by omega) hs1 hcut).mono fun _ _ h => ⟨h.1, h.2.symm⟩
      clear hcut HP2
      go_wp2_with (first
        | (go_at_call 45; refine (HSa.out _).mono ?_; rintro e w' ⟨rfl, rfl⟩)
        | (go_at_call 49; refine HCm.out.mono ?_; rintro e w' ⟨rfl, rfl⟩))
      go_ret
      exact ⟨by rw [← HF.out]; rfl, (H2.out.2.2 _ H5.out.2).2⟩
    have hcut1 : ¬ (n1 : Int) - h - 1 < (s : Int) := fun e => hcut (.inl e)
    have hcut2 : em.getD n1 0 = 188 := Decidable.byContradiction fun e => hcut (.inr e)
    obtain ⟨t, ht⟩ : ∃ t, n1 = t + h := ⟨n1 - h, by omega⟩
    obtain ⟨p, hp⟩ : ∃ p, t = (p + 1) + s := ⟨t - 1 - s, by omega⟩
    have HCm : Hid (Calls Tryz.prog 49 #[.slice (some ⟨b3, o3 + kk, none⟩) (n1 + 1) (c3 - kk), .int .i64 h, .int .i64 s] w5 fun e w' => e = .returned (.tuple #[.slice (some ⟨b3, o3 + kk, none⟩) t (c3 - kk), .slice (some ⟨b3, o3 + kk + t, none⟩) h (c3 - kk - t), .bool true]) ∧ Below w5.heap.size w5 w') := cutMessage_yes b3 (o3 + kk) (c3 - kk) n1 h t s em H5.out.1 (by omega) hhb (by omega) hs1 hcut1 hcut2 ht
    have HP3 : Hid ((if (em.take t).getD 0 0 / 2 ^ (8 - sp) ≠ 0 then 112
      else if (umS (em.take t) (Sh.msk mask ((em.drop t).take h) t) sp).take (p + 1) ≠ ahd p then 112
      else if Sh.dig alg (List.replicate 8 0 ++ X ++ (umS (em.take t) (Sh.msk mask ((em.drop t).take h) t) sp).drop (p + 1)) ≠ (em.drop t).take h then 112 else 0) = V) := by
      show _ = _
      rw [← HP2.out, if_neg hcut]
      have q1 : n1 - h = t := by omega
      have q2 : t - 1 - s = p := by omega
      rw [q1, q2]
    have htb : t ≤ 1024 := by omega
    have HTp : Hid (n1 = t + h ∧ t = (p + 1) + s) := ⟨ht, hp⟩
    clear hcut hcut1 hcut2 HP2 ht hp
    go_wp2_with (go_at_call 45; refine (HSa.out _).mono ?_; rintro e w' ⟨rfl, rfl⟩)
    refine HCm.out.mono ?_
    rintro e w6 ⟨rfl, hb6⟩
    obtain ⟨ms, hms⟩ : ∃ ms, em.take t = ms := ⟨_, rfl⟩
    obtain ⟨hsh, hhs⟩ : ∃ hs, (em.drop t).take h = hs := ⟨_, rfl⟩
    have hA5 := H5.out.1.below hb6
    have hb26 := below_via H5.out.2 hb6 (Nat.le_refl _)
    have H6 : Hid (At w6 b3 (o3 + kk) t (c3 - kk) ms ∧ At w6 b3 (o3 + kk + t) h (c3 - kk - t) hsh ∧ Below W2.heap.size W2 w6 ∧ U8s ms ∧ U8s hsh ∧ Sh.Tabs w6) := ⟨by rw [← hms]; exact hA5.take t (by have := HTp.out; omega), by rw [← hhs]; exact (hA5.drop t (by have := HTp.out; omega)).take h (by have := HTp.out; omega), hb26, by rw [← hms]; exact HEu.out.take t, by rw [← hhs]; exact (HEu.out.drop t).take h, HX.out.2.2.2.2.below (H2.out.2.2 _ hb26).2⟩
    rw [hms, hhs] at HP3
    clear hb6 hms hhs hA5 hb26 HCm H5
    have HUm := unmask_any (w := w6) H6.out.2.2.2.2.2 b3 (o3 + kk) t (c3 - kk) ms H6.out.1 H6.out.2.2.2.1 (by have := HTp.out; omega) (by omega) b3 (o3 + kk + t) h (c3 - kk - t) hsh H6.out.2.1 H6.out.2.2.2.2.1 (by omega) mask (by rw [HZm.out]; exact hzp) sp HNn.out.2.2.2.2.2.1
    have HU : Hid (Calls Tryz.prog 50 _ w6 _) := HUm
    have h8 : 8 * ((n1 : Int) + 1) - (B1 : Int) = (sp : Int) := by have := HE8.out; omega
    clear HUm
    go_wp2_with fail
    refine HU.out.mono ?_
    rintro e w7 ⟨(⟨hz7, rfl⟩ | ⟨hz7, d7, rfl, hA7⟩), hb7⟩
    · have HF : Hid (112 = V) := by show _ = _; rw [← HP3.out]; exact (if_pos hz7).symm
      have H7 : Hid (Below w.heap.size w w7) := (H2.out.2.2 _ (below_via H6.out.2.2.1 hb7 (Nat.le_refl _))).2
      clear hz7 hb7 HP3
      go_wp2
      go_ret
      exact ⟨by rw [← HF.out]; rfl, H7.out⟩
    obtain ⟨db, hdb⟩ : ∃ db, umS ms (Sh.msk mask hsh t) sp = db := ⟨_, rfl⟩
    rw [hdb] at hA7 HP3
    have HP4 : Hid ((if db.take (p + 1) ≠ ahd p then 112 else if Sh.dig alg (List.replicate 8 0 ++ X ++ db.drop (p + 1)) ≠ hsh then 112 else 0) = V) := by show _ = _; rw [← HP3.out]; exact (if_neg (by simpa using hz7)).symm
    have hb27 := below_via H6.out.2.2.1 hb7 (Nat.le_refl _)
    have H7 : Hid (At w7 d7 0 t t db ∧ At w7 b3 (o3 + kk + t) h (c3 - kk - t) hsh ∧ Below W2.heap.size W2 w7 ∧ U8s db ∧ db.length = t) := ⟨hA7, H6.out.2.1.below hb7, hb27, by rw [← hdb]; exact umS_u8 H6.out.2.2.2.1 msk_u8, hA7.1⟩
    have HHu : Hid (U8s hsh ∧ hsh.length = h) := ⟨H6.out.2.2.2.2.1, H6.out.2.1.1⟩
    clear hz7 hA7 hb7 hdb hb27 HP3 H6 HU
    have HCs : Hid (Calls Tryz.prog 51 #[.slice (some ⟨d7, 0, none⟩) t t, .int .i64 s] w7 fun e w' => ∃ a' c', e = .returned (.tuple #[.slice a' s c', .bool (decide (db.take (p + 1) = ahd p))]) ∧ Sl .u8 w' (.slice a' s c') (db.drop (p + 1)) ∧ Below w7.heap.size w7 w') := cutSalt_any d7 0 t t s p db H7.out.1 H7.out.2.2.2.1 (by omega) HTp.out.2
    go_wp2_with fail
    refine HCs.out.mono ?_
    rintro e w8 ⟨a8, c8, rfl, hs8, hb8⟩
    have hb28 := below_via H7.out.2.2.1 hb8 (Nat.le_refl _)
    have H8 : Hid (Sl .u8 w8 (.slice a8 s c8) (db.drop (p + 1)) ∧ At w8 b3 (o3 + kk + t) h (c3 - kk - t) hsh ∧ Below W2.heap.size W2 w8 ∧ Below w.heap.size w w8) := ⟨hs8, H7.out.2.1.below hb8, hb28, (H2.out.2.2 _ hb28).2⟩
    clear hs8 hb8 hb28 HCs
    by_cases hah : db.take (p + 1) = ahd p
    · have da : decide (db.take (p + 1) = ahd p) = true := by simpa using hah
      rw [da]
      have HP5 : Hid ((if Sh.dig alg (List.replicate 8 0 ++ X ++ db.drop (p + 1)) ≠ hsh then 112 else 0) = V) := by show _ = _; rw [← HP4.out]; exact (if_neg (by simpa using hah)).symm
      have HDl : Hid (U8s (db.drop (p + 1)) ∧ (db.drop (p + 1)).length ≤ 2048) := ⟨H7.out.2.2.2.1.drop _, by rw [List.length_drop, H7.out.2.2.2.2]; omega⟩
      obtain ⟨sl, hsl⟩ : ∃ sl, db.drop (p + 1) = sl := ⟨_, rfl⟩
      rw [hsl] at HP5 HDl H8
      clear hah da HP4 hsl H7
      obtain ⟨Q9, hQ9⟩ : ∃ q, decide (Sh.dig alg (List.replicate 8 0 ++ X ++ sl) = hsh) = q := ⟨_, rfl⟩
      have HQ10 : Hid (decide (Sh.dig alg (List.replicate 8 0 ++ X ++ sl) = hsh) = Q9 ∧ (if Q9 then (0 : Int) else 112) = V) := ⟨hQ9, by
        rw [← HP5.out, ← hQ9]; simp⟩
      clear hQ9 HP5
      go_wp2_with (refine wpList_mk w8 rfl (.const (.int .i64 8)) (.const (.int .i64 8)) 25 rfl .u8 5 1 Tryz.und8 Tryz.info8 8 8 rfl rfl rfl (by decide) (by decide) ?_; intro w9 hA9 hB9; have H9 : Hid (Sl .u8 w9 (.slice (some ⟨w8.heap.size, 0, none⟩) 8 8) (List.replicate 8 0) ∧ Sl .u8 w9 (.slice a8 s c8) sl ∧ At w9 b3 (o3 + kk + t) h (c3 - kk - t) hsh ∧ Below w.heap.size w w9) := ⟨hA9.sl, below_sl hB9 H8.out.1, H8.out.2.1.below hB9, below_via H8.out.2.2.2 hB9 (Nat.le_refl _)⟩; clear hA9 hB9)
      refine (DSum3 (w := w9) alg (by rw [HHa.out]; exact HDz.out.1) (HX.out.2.2.2.2.below H9.out.2.2.2) _ _ _ _ _ X _ H9.out.1 (zeros_u8 8) (below_sl H9.out.2.2.2 HX.out.1) HX.out.2.1 H9.out.2.1 HDl.out.1 (by have h1 := HX.out.2.2.1; have h2 := HX.out.2.2.2.1; have h3 := HDl.out.2; rw [List.length_replicate]; omega)).mono ?_
      rintro e w10 ⟨a10, c10, rfl, hs10, hb10⟩
      have H10 : Hid (Sl .u8 w10 (.slice a10 h c10) (Sh.dig alg (List.replicate 8 0 ++ X ++ sl)) ∧ At w10 b3 (o3 + kk + t) h (c3 - kk - t) hsh ∧ Below w.heap.size w w10) := ⟨by rw [← HHa.out]; exact hs10, H9.out.2.2.1.below hb10, below_via H9.out.2.2.2 hb10 (Nat.le_refl _)⟩
      have HDu : Hid (U8s (Sh.dig alg (List.replicate 8 0 ++ X ++ sl))) := fun x hx => by unfold Sh.dig at hx; exact Sh.out_u8 _ _ x hx
      rw [HHa.out]
      clear hs10 hb10
      cases Q9 with
      | true =>
        go_wp2_with (go_at_call 43; refine (BEq_any _ _ _ _ _ _ _ _ H10.out.1 H10.out.2.1.sl HDu.out HHu.out.1 true HQ10.out.1).mono ?_; rintro e w' ⟨rfl, rfl⟩)
        go_ret
        exact ⟨by rw [← HQ10.out.2]; rfl, H10.out.2.2⟩
      | false =>
        go_wp2_with (go_at_call 43; refine (BEq_any _ _ _ _ _ _ _ _ H10.out.1 H10.out.2.1.sl HDu.out HHu.out.1 false HQ10.out.1).mono ?_; rintro e w' ⟨rfl, rfl⟩)
        go_ret
        exact ⟨by rw [← HQ10.out.2]; rfl, H10.out.2.2⟩
    · have da : decide (db.take (p + 1) = ahd p) = false := by simpa using hah
      rw [da]
      have HF : Hid (112 = V) := by show _ = _; rw [← HP4.out]; exact (if_pos hah).symm
      clear hah da HP4
      go_wp2
      go_ret
      exact ⟨by rw [← HF.out]; rfl, H8.out.2.2.2⟩
  · have e0 : (E != 0) = true := by simpa using h0
    have HQ2 : Hid (E = V) := by show _ = _; rw [← HQ.out]; exact (if_pos h0).symm
    have H3 : Hid (Below w.heap.size w w3) := (H2.out.2.2 _ hb3).2
    clear HQ h0 hr3 hb3
    go_wp2
    go_ret
    exact ⟨by rw [← HQ2.out]; rfl, H3.out⟩
end Go.Proofs.YtndoibmpnhkmpaaGreatDoor
