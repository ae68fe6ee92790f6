/-
  Rsa: signatures in the second way: VerifyPss of the program, walked.
-/
import Derived.Deep.Cut
import Derived.Test.YtjmiaakfdclfjaaGreatDoorK34
namespace Go.Proofs.YtjmiaakfdclfjaaGreatDoor
open Go.RowKit
set_option maxRecDepth 20000
theorem pss_nums {B1 : Nat} (hB : 511 ≤ B1) (hB2 : B1 ≤ 8191) : ∃ n k sp, (B1 + 7) / 8 = n ∧ (B1 + 1 + 7) / 8 = n + k ∧ k ≤ 1 ∧ 8 * n - B1 = sp ∧ sp ≤ 7 ∧ 64 ≤ n ∧ n ≤ 1024 ∧ 8 * n = B1 + sp :=
  ⟨(B1 + 7) / 8, (B1 + 1 + 7) / 8 - (B1 + 7) / 8, 8 * ((B1 + 7) / 8) - B1, rfl, by omega, by omega, rfl, by omega, by omega, by omega, by omega⟩
set_option maxHeartbeats 8000000 in
theorem VerifyPss_any {w : World} (hT : Sh.Tabs w) (a a' : Option Addr) (n0 c0 n0' c0' : Nat) (ns es : List Int) (hn : Sl .u32 w (.slice a n0 c0) ns) (un : U32s ns) (ln : ns.length = n0) (he : Sl .u32 w (.slice a' n0' c0') es) (ue : U32s es) (le : es.length = n0') (hb : n0 ≤ 600) (hb' : n0' ≤ 600)
    (b : Option Addr) (m d : Nat) (sg : List Int) (hs : Sl .u8 w (.slice b m d) sg) (us : U8s sg) (ls : sg.length = m)
    (alg mask salt : Int) (hs0 : -9223372036854775808 ≤ salt) (hs1 : salt ≤ 9223372036854775807) (f : Option Addr) (k g : Nat) (X : List Int) (hX : Sl .u8 w (.slice f k g) X) (uX : U8s X) (lX : X.length = k) (lk : k ≤ 8192) :
    Calls Tryz.prog 9 #[.agg #[.slice a n0 c0, .slice a' n0' c0'], .int .i64 alg, .int .i64 mask, .int .i64 salt, .slice f k g, .slice b m d] w fun e w' => e = .returned (.int .i64 (pssS alg mask salt X ns es sg)) ∧ Below w.heap.size w w' := by
  have HRw : Hid (∀ W, Below w.heap.size w W → Calls Tryz.prog 24 #[.agg #[.slice a n0 c0, .slice a' n0' c0'], .slice b m d] W fun e w' => ∃ r, e = .returned (.tuple #[r, .int .i64 (rawS ns es sg).2]) ∧ Sl .u8 w' r (rawS ns es sg).1 ∧ Below W.heap.size W w') := fun W hW => Raw_any a a' n0 c0 n0' c0' ns es (below_sl hW hn) un ln (below_sl hW he) ue le hb hb' b m d sg (below_sl hW hs) us ls
  have HBt : Hid (∀ W, Below w.heap.size w W → Calls Tryz.prog 25 #[.slice a n0 c0] W fun e w'' => e = .returned (.int .i64 (bts ns)) ∧ Below W.heap.size W w'') := fun W hw =>
    (NBits_any ns _ W (below_sl hw hn) un (by omega)).mono fun _ _ h => ⟨h.1, h.2⟩
  have HID : Hid (∀ W, Calls Tryz.prog 22 #[.int .i64 alg, .slice f k g] W fun e w' => e = .returned (.bool (isD alg k)) ∧ W = w') := fun W => (isDigest_any alg f k g).mono fun _ _ h => ⟨h.1, h.2.symm⟩
  have HSz : Hid (∀ (q : Int) (W : World), Calls Tryz.prog 23 #[.int .i64 q] W fun e w'' => e = .returned (.int .i64 (Sh.siz q)) ∧ W = w'') := fun q W => (Sh.Size_any q).mono fun _ _ h => ⟨h.1, h.2.symm⟩
  have HRo : Hid ((rawS ns es sg).2 = 0 → (rawS ns es sg).1.length = (bts ns + 7) / 8 ∧ 512 ≤ bts ns ∧ bts ns ≤ 8192) := fun h => by
    have h1 := raw_ok h
    have h2 := key_facts un h1.1
    have h3 := bits_len un
    exact ⟨by rw [h1.2, h2.2.2.2.1], h2.2.2.2.2.2, by omega⟩
  have HRu : Hid (U8s (rawS ns es sg).1) := raw_u8
  have HX : Hid (Sl .u8 w (.slice f k g) X ∧ U8s X ∧ X.length = k ∧ k ≤ 8192 ∧ Sh.Tabs w) := ⟨hX, uX, lX, lk, hT⟩
  obtain ⟨V, hV⟩ : ∃ V, pssS alg mask salt X ns es sg = V := ⟨_, rfl⟩
  have HV : Hid ((if isD alg k = false ∨ Sh.siz mask = 0 ∨ salt < 0 then 1 else if (rawS ns es sg).2 ≠ 0 then (rawS ns es sg).2 else pssT alg mask salt X (bts ns) (rawS ns es sg).1) = V) := by show _ = _; rw [← hV, ← lX]; rfl
  rw [hV]
  obtain ⟨Rl, hRl⟩ : ∃ Rl, (rawS ns es sg).1 = Rl := ⟨_, rfl⟩
  obtain ⟨E, hE⟩ : ∃ E, (rawS ns es sg).2 = E := ⟨_, rfl⟩
  obtain ⟨B, hB⟩ : ∃ B, bts ns = B := ⟨_, rfl⟩
  rw [hRl] at HRw HV HRo HRu
  rw [hE] at HRw HV HRo
  rw [hB] at HBt HV HRo
  obtain ⟨zm, hzm⟩ : ∃ z, Sh.siz mask = z := ⟨_, rfl⟩
  have HZm : Hid (Sh.siz mask = zm) := hzm
  have HSm : Hid (∀ W : World, Calls Tryz.prog 23 #[.int .i64 mask] W fun e w'' => e = .returned (.int .i64 zm) ∧ W = w'') := fun W => by rw [← hzm]; exact HSz.out mask W
  have HSa : Hid (∀ W : World, Calls Tryz.prog 23 #[.int .i64 alg] W fun e w'' => e = .returned (.int .i64 (Sh.siz alg)) ∧ W = w'') := fun W => HSz.out alg W
  rw [hzm] at HV
  clear hn un ln he ue le hb hb' hs us ls hX uX lX lk hT hV hRl hE hB hzm HSz
  go_enter Tryz.func9, Tryz.ntmps9
  go_upto_region 1 with (refine Sh.wpList_boxR rfl 26 (.tmp 0) rfl #[.slice a n0 c0, .slice a' n0' c0'] rfl ?_)
  refine Sh.wp_gen (fun W => Blk 26 W w.heap.size [.slice a n0 c0, .slice a' n0' c0'] ∧ Below w.heap.size w W) ⟨Blk.new _ w _, al1 _⟩ ?_
  rintro W2 ⟨hBk, hBw⟩
  have H2 : Hid (Below w.heap.size w W2 ∧ W2.rangeAt w.heap.size 0 [.slice a n0 c0, .slice a' n0' c0'] ∧ ∀ W3, Below W2.heap.size W2 W3 → W3.cell? ⟨w.heap.size, 0, none⟩ = some (.slice a n0 c0) ∧ Below w.heap.size w W3) := ⟨hBw, hBk.whole, fun W3 h3 => ⟨(below_blk h3 hBk.lt hBk).cell 0, below_via hBw h3 (Nat.le_refl _)⟩⟩
  clear hBk hBw
  cases hD : isD alg k with
  | false =>
    have HQ : Hid (1 = V) := by show _ = _; rw [← HV.out]; exact (if_pos (.inl hD)).symm
    rw [hD] at HID
    clear hD HV
    go_wp2_with (go_at_call 22; refine (HID.out _).mono ?_; rintro e w' ⟨rfl, rfl⟩)
    go_ret
    exact ⟨by rw [← HQ.out]; rfl, H2.out.1⟩
  | true =>
  have HDz : Hid (0 < Sh.siz alg ∧ k = Sh.siz alg ∧ Sh.siz alg ≤ 64) := by
    have h := hD
    unfold isD at h
    simp at h
    exact ⟨h.1, h.2, by have ha := siz_pos.1 h.1; rcases ha with rfl | rfl | rfl | rfl <;> decide⟩
  rw [hD] at HID
  by_cases hz : zm = 0
  · have HQ : Hid (1 = V) := by show _ = _; rw [← HV.out]; exact (if_pos (.inr (.inl hz))).symm
    have d0 : ((zm : Int) == 0) = true := by simp [hz]
    clear hD HV hz
    go_wp2_with (first
      | (go_at_call 22; refine (HID.out _).mono ?_; rintro e w' ⟨rfl, rfl⟩)
      | (go_at_call 23; refine (HSm.out _).mono ?_; rintro e w' ⟨rfl, rfl⟩))
    go_ret
    exact ⟨by rw [← HQ.out]; rfl, H2.out.1⟩
  have d0 : ((zm : Int) == 0) = false := by simp; exact hz
  by_cases hsl : salt < 0
  · have HQ : Hid (1 = V) := by show _ = _; rw [← HV.out]; exact (if_pos (.inr (.inr hsl))).symm
    have d1 : decide (salt < 0) = true := by simpa using hsl
    clear hD HV hz hsl
    go_wp2_with (first
      | (go_at_call 22; refine (HID.out _).mono ?_; rintro e w' ⟨rfl, rfl⟩)
      | (go_at_call 23; refine (HSm.out _).mono ?_; rintro e w' ⟨rfl, rfl⟩))
    go_ret
    exact ⟨by rw [← HQ.out]; rfl, H2.out.1⟩
  have d1 : decide (salt < 0) = false := by simpa using hsl
  have HQ : Hid ((if E ≠ 0 then E else pssT alg mask salt X B Rl) = V) := by show _ = _; rw [← HV.out]; exact (if_neg (by rw [hD]; simp; exact ⟨hz, by omega⟩)).symm
  have hzp : 0 < zm := by omega
  obtain ⟨s, rfl⟩ : ∃ s : Nat, salt = s := ⟨salt.toNat, by omega⟩
  clear hD HV hz hsl hs0
  go_wp2_with (first
    | (go_at_call 22; refine (HID.out _).mono ?_; rintro e w' ⟨rfl, rfl⟩)
    | (go_at_call 23; refine (HSm.out _).mono ?_; rintro e w' ⟨rfl, rfl⟩)
    | (refine wpList_load_mid rfl 26 (.tmp 6) rfl w.heap.size 0 rfl [.slice a n0 c0, .slice a' n0' c0'] _ H2.out.2.1 Tryz.underlying26 rfl (by kernel_rfl) ?_))
  refine (HRw.out _ H2.out.1).mono ?_
  rintro e w3 ⟨r3, rfl, hr3, hb3⟩
  obtain ⟨a3, c3, hf3⟩ := hr3.form
  subst hf3
  by_cases h0 : E = 0
  · subst h0
    have HQ2 : Hid (pssT alg mask s X B Rl = V) := by show _ = _; rw [← HQ.out]; exact (if_neg (by simp)).symm
    have hro := HRo.out rfl
    obtain ⟨B1, hB1⟩ : ∃ B1, B = B1 + 1 := ⟨B - 1, by omega⟩
    subst hB1
    obtain ⟨n, kk, sp, en, eZ, hk1, esp, hsp, n64, n1024, e8⟩ := pss_nums (B1 := B1) (by omega) (by omega)
    have hRn : Rl.length = n + kk := by rw [hro.1, eZ]
    obtain ⟨Z, hZ⟩ : ∃ Z, Rl.length = Z := ⟨_, rfl⟩
    rw [hZ] at hr3 ⊢
    obtain ⟨b3, o3, rfl, hAt⟩ := at_of hr3 hZ (by omega)
    have H3 : Hid (At w3 b3 o3 Z c3 Rl ∧ Below W2.heap.size W2 w3) := ⟨hAt, hb3⟩
    have hk3 := (H2.out.2.2 _ hb3).1
    have HNn : Hid (Z = n + kk ∧ Rl.length = Z ∧ (B1 + 7) / 8 = n ∧ 8 * n = B1 + sp ∧ kk ≤ 1 ∧ sp ≤ 7 ∧ 64 ≤ n ∧ n ≤ 1024) := ⟨by omega, hZ, en, e8, hk1, hsp, n64, n1024⟩
    have HE8 : Hid (8 * (n : Int) - (B1 : Int) = (sp : Int)) := by show _ = _; omega
    have HP : Hid ((if kk ≠ 0 ∧ Rl.getD 0 0 ≠ 0 then 112
      else if ((n - 1 : Nat) : Int) - Sh.siz alg - 1 < (s : Int) ∨ (Rl.drop kk).getD (n - 1) 0 ≠ 188 then 112
      else if ((Rl.drop kk).take (n - 1 - Sh.siz alg)).getD 0 0 / 2 ^ (8 - sp) ≠ 0 then 112
      else if (umS ((Rl.drop kk).take (n - 1 - Sh.siz alg)) (Sh.msk mask (((Rl.drop kk).drop (n - 1 - Sh.siz alg)).take (Sh.siz alg)) (n - 1 - Sh.siz alg)) sp).take (n - 1 - Sh.siz alg - 1 - s + 1) ≠ ahd (n - 1 - Sh.siz alg - 1 - s) then 112
      else if Sh.dig alg (List.replicate 8 0 ++ X ++ (umS ((Rl.drop kk).take (n - 1 - Sh.siz alg)) (Sh.msk mask (((Rl.drop kk).drop (n - 1 - Sh.siz alg)).take (Sh.siz alg)) (n - 1 - Sh.siz alg)) sp).drop (n - 1 - Sh.siz alg - 1 - s + 1)) ≠ ((Rl.drop kk).drop (n - 1 - Sh.siz alg)).take (Sh.siz alg) then 112 else 0) = V) := by
      show _ = _
      rw [← HQ2.out]
      unfold pssT
      have q1 : (B1 + 1 + 6) / 8 = n := by omega
      have q2 : Rl.length - n = kk := by omega
      have q3 : 8 * n - (B1 + 1 - 1) = sp := by omega
      simp only [q1, q2, q3, Int.toNat_natCast]
    clear hro HQ HQ2 hRn hZ hr3 hAt hb3 en eZ hk1 esp hsp n64 n1024 e8
    go_wp2_with fail
    refine (HBt.out _ (H2.out.2.2 _ H3.out.2).2).mono ?_
    rintro e w4 ⟨rfl, hb4⟩
    have H4 : Hid (At w4 b3 o3 Z c3 Rl ∧ Below W2.heap.size W2 w4) := ⟨H3.out.1.below hb4, below_via H3.out.2 hb4 (Nat.le_refl _)⟩
    clear hb4 hk3 H3
    obtain ⟨Q1, hQ1⟩ : ∃ q, (decide (kk = 0) || decide (Rl.getD 0 0 = 0)) = q := ⟨_, rfl⟩
    have HLo : Hid (Calls Tryz.prog 26 #[.slice (some ⟨b3, o3, none⟩) Z c3, .int .i64 n] w4 fun e w' => e = .returned (.tuple #[.slice (some ⟨b3, o3 + kk, none⟩) n (c3 - kk), .bool Q1]) ∧ Below w4.heap.size w4 w') := lowest_any b3 o3 Z c3 n kk Rl H4.out.1 HNn.out.1 HNn.out.2.2.2.2.1 (by have := HNn.out.2.2.2.2.2.2.1; omega) (by have := HNn.out; omega) Q1 hQ1
    have HIn : Hid (∀ W, Calls Tryz.prog 27 #[.int .i64 B1] W fun e w' => e = .returned (.int .i64 n) ∧ W = w') := fun W => by
      have h := inBytes_any (w := W) B1 (by have := HNn.out; omega)
      rw [HNn.out.2.2.1] at h; exact h.mono fun _ _ h => ⟨h.1, h.2.symm⟩
    have hB1b : B1 ≤ 8192 := by have := HNn.out; omega
    go_wp2_with (go_at_call 27; refine (HIn.out _).mono ?_; rintro e w' ⟨rfl, rfl⟩)
    refine HLo.out.mono ?_
    rintro e w5 ⟨rfl, hb5⟩
    have H5 : Hid (At w5 b3 (o3 + kk) n (c3 - kk) (Rl.drop kk) ∧ Below W2.heap.size W2 w5) := ⟨by have h := (H4.out.1.below hb5).drop kk (by have := HNn.out.1; omega); rw [show Z - kk = n by have := HNn.out.1; omega] at h; exact h, below_via H4.out.2 hb5 (Nat.le_refl _)⟩
    clear hb5 H4 HLo
    cases Q1 with
    | false =>
      have HF : Hid (112 = V) := by
        show _ = _
        rw [← HP.out]
        simp at hQ1
        exact (if_pos hQ1).symm
      clear hQ1 HP
      go_wp2
      go_ret
      exact ⟨by rw [← HF.out]; rfl, (H2.out.2.2 _ H5.out.2).2⟩
    | true =>
    obtain ⟨em, hem⟩ : ∃ em, Rl.drop kk = em := ⟨_, rfl⟩
    rw [hem] at HP H5
    have HP2 : Hid ((if ((n - 1 : Nat) : Int) - Sh.siz alg - 1 < (s : Int) ∨ em.getD (n - 1) 0 ≠ 188 then 112
      else if (em.take (n - 1 - Sh.siz alg)).getD 0 0 / 2 ^ (8 - sp) ≠ 0 then 112
      else if (umS (em.take (n - 1 - Sh.siz alg)) (Sh.msk mask ((em.drop (n - 1 - Sh.siz alg)).take (Sh.siz alg)) (n - 1 - Sh.siz alg)) sp).take (n - 1 - Sh.siz alg - 1 - s + 1) ≠ ahd (n - 1 - Sh.siz alg - 1 - s) then 112
      else if Sh.dig alg (List.replicate 8 0 ++ X ++ (umS (em.take (n - 1 - Sh.siz alg)) (Sh.msk mask ((em.drop (n - 1 - Sh.siz alg)).take (Sh.siz alg)) (n - 1 - Sh.siz alg)) sp).drop (n - 1 - Sh.siz alg - 1 - s + 1)) ≠ (em.drop (n - 1 - Sh.siz alg)).take (Sh.siz alg) then 112 else 0) = V) := by
      show _ = _
      rw [← HP.out]
      simp at hQ1
      exact (if_neg (fun h => hQ1.elim (fun e => h.1 e) (fun e => h.2 e))).symm
    have HEu : Hid (U8s em) := by rw [← hem]; exact HRu.out.drop kk
    obtain ⟨h, hh⟩ : ∃ h, Sh.siz alg = h := ⟨_, rfl⟩
    rw [hh] at HP2 HSa HDz
    have HHa : Hid (Sh.siz alg = h) := hh
    obtain ⟨n1, hn1⟩ : ∃ n1, n = n1 + 1 := ⟨n - 1, by have := HNn.out; omega⟩
    subst hn1
    simp only [Nat.add_sub_cancel] at HP2
    have hn1b : n1 ≤ 1024 := by have := HNn.out; omega
    have hhb : h ≤ 100 := by have := HDz.out; omega
    clear hQ1 HP hem hh
    by_cases hcut : (n1 : Int) - h - 1 < (s : Int) ∨ em.getD n1 0 ≠ 188
    · have HF : Hid (112 = V) := by show _ = _; rw [← HP2.out]; exact (if_pos hcut).symm
      have HCm : Hid (Calls Tryz.prog 28 #[.slice (some ⟨b3, o3 + kk, none⟩) (n1 + 1) (c3 - kk), .int .i64 h, .int .i64 s] w5 fun e w' => e = .returned (.tuple #[.slice none 0 0, .slice none 0 0, .bool false]) ∧ w5 = w') := (cutMessage_no b3 (o3 + kk) (c3 - kk) n1 h s em H5.out.1 (by omega) hhb (by omega) hs1 hcut).mono fun _ _ h => ⟨h.1, h.2.symm⟩
      clear hcut HP2
      go_wp2_with (first
        | (go_at_call 23; refine (HSa.out _).mono ?_; rintro e w' ⟨rfl, rfl⟩)
        | (go_at_call 28; refine HCm.out.mono ?_; rintro e w' ⟨rfl, rfl⟩))
      go_ret
      exact ⟨by rw [← HF.out]; rfl, (H2.out.2.2 _ H5.out.2).2⟩
    have hcut1 : ¬ (n1 : Int) - h - 1 < (s : Int) := fun e => hcut (.inl e)
    have hcut2 : em.getD n1 0 = 188 := Decidable.byContradiction fun e => hcut (.inr e)
    obtain ⟨t, ht⟩ : ∃ t, n1 = t + h := ⟨n1 - h, by omega⟩
    obtain ⟨p, hp⟩ : ∃ p, t = (p + 1) + s := ⟨t - 1 - s, by omega⟩
    have HCm : Hid (Calls Tryz.prog 28 #[.slice (some ⟨b3, o3 + kk, none⟩) (n1 + 1) (c3 - kk), .int .i64 h, .int .i64 s] w5 fun e w' => e = .returned (.tuple #[.slice (some ⟨b3, o3 + kk, none⟩) t (c3 - kk), .slice (some ⟨b3, o3 + kk + t, none⟩) h (c3 - kk - t), .bool true]) ∧ Below w5.heap.size w5 w') := cutMessage_yes b3 (o3 + kk) (c3 - kk) n1 h t s em H5.out.1 (by omega) hhb (by omega) hs1 hcut1 hcut2 ht
    have HP3 : Hid ((if (em.take t).getD 0 0 / 2 ^ (8 - sp) ≠ 0 then 112
      else if (umS (em.take t) (Sh.msk mask ((em.drop t).take h) t) sp).take (p + 1) ≠ ahd p then 112
      else if Sh.dig alg (List.replicate 8 0 ++ X ++ (umS (em.take t) (Sh.msk mask ((em.drop t).take h) t) sp).drop (p + 1)) ≠ (em.drop t).take h then 112 else 0) = V) := by
      show _ = _
      rw [← HP2.out, if_neg hcut]
      have q1 : n1 - h = t := by omega
      have q2 : t - 1 - s = p := by omega
      rw [q1, q2]
    have htb : t ≤ 1024 := by omega
    have HTp : Hid (n1 = t + h ∧ t = (p + 1) + s) := ⟨ht, hp⟩
    clear hcut hcut1 hcut2 HP2 ht hp
    go_wp2_with (go_at_call 23; refine (HSa.out _).mono ?_; rintro e w' ⟨rfl, rfl⟩)
    refine HCm.out.mono ?_
    rintro e w6 ⟨rfl, hb6⟩
    obtain ⟨ms, hms⟩ : ∃ ms, em.take t = ms := ⟨_, rfl⟩
    obtain ⟨hsh, hhs⟩ : ∃ hs, (em.drop t).take h = hs := ⟨_, rfl⟩
    have hA5 := H5.out.1.below hb6
    have hb26 := below_via H5.out.2 hb6 (Nat.le_refl _)
    have H6 : Hid (At w6 b3 (o3 + kk) t (c3 - kk) ms ∧ At w6 b3 (o3 + kk + t) h (c3 - kk - t) hsh ∧ Below W2.heap.size W2 w6 ∧ U8s ms ∧ U8s hsh ∧ Sh.Tabs w6) := ⟨by rw [← hms]; exact hA5.take t (by have := HTp.out; omega), by rw [← hhs]; exact (hA5.drop t (by have := HTp.out; omega)).take h (by have := HTp.out; omega), hb26, by rw [← hms]; exact HEu.out.take t, by rw [← hhs]; exact (HEu.out.drop t).take h, HX.out.2.2.2.2.below (H2.out.2.2 _ hb26).2⟩
    rw [hms, hhs] at HP3
    clear hb6 hms hhs hA5 hb26 HCm H5
    have HUm := unmask_any (w := w6) H6.out.2.2.2.2.2 b3 (o3 + kk) t (c3 - kk) ms H6.out.1 H6.out.2.2.2.1 (by have := HTp.out; omega) (by omega) b3 (o3 + kk + t) h (c3 - kk - t) hsh H6.out.2.1 H6.out.2.2.2.2.1 (by omega) mask (by rw [HZm.out]; exact hzp) sp HNn.out.2.2.2.2.2.1
    have HU : Hid (Calls Tryz.prog 29 _ w6 _) := HUm
    have h8 : 8 * ((n1 : Int) + 1) - (B1 : Int) = (sp : Int) := by have := HE8.out; omega
    clear HUm
    go_wp2_with fail
    refine HU.out.mono ?_
    rintro e w7 ⟨(⟨hz7, rfl⟩ | ⟨hz7, d7, rfl, hA7⟩), hb7⟩
    · have HF : Hid (112 = V) := by show _ = _; rw [← HP3.out]; exact (if_pos hz7).symm
      have H7 : Hid (Below w.heap.size w w7) := (H2.out.2.2 _ (below_via H6.out.2.2.1 hb7 (Nat.le_refl _))).2
      clear hz7 hb7 HP3
      go_wp2
      go_ret
      exact ⟨by rw [← HF.out]; rfl, H7.out⟩
    obtain ⟨db, hdb⟩ : ∃ db, umS ms (Sh.msk mask hsh t) sp = db := ⟨_, rfl⟩
    rw [hdb] at hA7 HP3
    have HP4 : Hid ((if db.take (p + 1) ≠ ahd p then 112 else if Sh.dig alg (List.replicate 8 0 ++ X ++ db.drop (p + 1)) ≠ hsh then 112 else 0) = V) := by show _ = _; rw [← HP3.out]; exact (if_neg (by simpa using hz7)).symm
    have hb27 := below_via H6.out.2.2.1 hb7 (Nat.le_refl _)
    have H7 : Hid (At w7 d7 0 t t db ∧ At w7 b3 (o3 + kk + t) h (c3 - kk - t) hsh ∧ Below W2.heap.size W2 w7 ∧ U8s db ∧ db.length = t) := ⟨hA7, H6.out.2.1.below hb7, hb27, by rw [← hdb]; exact umS_u8 H6.out.2.2.2.1 msk_u8, hA7.1⟩
    have HHu : Hid (U8s hsh ∧ hsh.length = h) := ⟨H6.out.2.2.2.2.1, H6.out.2.1.1⟩
    clear hz7 hA7 hb7 hdb hb27 HP3 H6 HU
    have HCs : Hid (Calls Tryz.prog 30 #[.slice (some ⟨d7, 0, none⟩) t t, .int .i64 s] w7 fun e w' => ∃ a' c', e = .returned (.tuple #[.slice a' s c', .bool (decide (db.take (p + 1) = ahd p))]) ∧ Sl .u8 w' (.slice a' s c') (db.drop (p + 1)) ∧ Below w7.heap.size w7 w') := cutSalt_any d7 0 t t s p db H7.out.1 H7.out.2.2.2.1 (by omega) HTp.out.2
    go_wp2_with fail
    refine HCs.out.mono ?_
    rintro e w8 ⟨a8, c8, rfl, hs8, hb8⟩
    have hb28 := below_via H7.out.2.2.1 hb8 (Nat.le_refl _)
    have H8 : Hid (Sl .u8 w8 (.slice a8 s c8) (db.drop (p + 1)) ∧ At w8 b3 (o3 + kk + t) h (c3 - kk - t) hsh ∧ Below W2.heap.size W2 w8 ∧ Below w.heap.size w w8) := ⟨hs8, H7.out.2.1.below hb8, hb28, (H2.out.2.2 _ hb28).2⟩
    clear hs8 hb8 hb28 HCs
    by_cases hah : db.take (p + 1) = ahd p
    · have da : decide (db.take (p + 1) = ahd p) = true := by simpa using hah
      rw [da]
      have HP5 : Hid ((if Sh.dig alg (List.replicate 8 0 ++ X ++ db.drop (p + 1)) ≠ hsh then 112 else 0) = V) := by show _ = _; rw [← HP4.out]; exact (if_neg (by simpa using hah)).symm
      have HDl : Hid (U8s (db.drop (p + 1)) ∧ (db.drop (p + 1)).length ≤ 2048) := ⟨H7.out.2.2.2.1.drop _, by rw [List.length_drop, H7.out.2.2.2.2]; omega⟩
      obtain ⟨sl, hsl⟩ : ∃ sl, db.drop (p + 1) = sl := ⟨_, rfl⟩
      rw [hsl] at HP5 HDl H8
      clear hah da HP4 hsl H7
      obtain ⟨Q9, hQ9⟩ : ∃ q, decide (Sh.dig alg (List.replicate 8 0 ++ X ++ sl) = hsh) = q := ⟨_, rfl⟩
      have HQ10 : Hid (decide (Sh.dig alg (List.replicate 8 0 ++ X ++ sl) = hsh) = Q9 ∧ (if Q9 then (0 : Int) else 112) = V) := ⟨hQ9, by
        rw [← HP5.out, ← hQ9]; simp⟩
      clear hQ9 HP5
      go_wp2_with (refine wpList_mk w8 rfl (.const (.int .i64 8)) (.const (.int .i64 8)) 22 rfl .u8 5 1 Tryz.und8 Tryz.info8 8 8 rfl rfl rfl (by decide) (by decide) ?_; intro w9 hA9 hB9; have H9 : Hid (Sl .u8 w9 (.slice (some ⟨w8.heap.size, 0, none⟩) 8 8) (List.replicate 8 0) ∧ Sl .u8 w9 (.slice a8 s c8) sl ∧ At w9 b3 (o3 + kk + t) h (c3 - kk - t) hsh ∧ Below w.heap.size w w9) := ⟨hA9.sl, below_sl hB9 H8.out.1, H8.out.2.1.below hB9, below_via H8.out.2.2.2 hB9 (Nat.le_refl _)⟩; clear hA9 hB9)
      refine (DSum3 (w := w9) alg (by rw [HHa.out]; exact HDz.out.1) (HX.out.2.2.2.2.below H9.out.2.2.2) _ _ _ _ _ X _ H9.out.1 (zeros_u8 8) (below_sl H9.out.2.2.2 HX.out.1) HX.out.2.1 H9.out.2.1 HDl.out.1 (by have h1 := HX.out.2.2.1; have h2 := HX.out.2.2.2.1; have h3 := HDl.out.2; rw [List.length_replicate]; omega)).mono ?_
      rintro e w10 ⟨a10, c10, rfl, hs10, hb10⟩
      have H10 : Hid (Sl .u8 w10 (.slice a10 h c10) (Sh.dig alg (List.replicate 8 0 ++ X ++ sl)) ∧ At w10 b3 (o3 + kk + t) h (c3 - kk - t) hsh ∧ Below w.heap.size w w10) := ⟨by rw [← HHa.out]; exact hs10, H9.out.2.2.1.below hb10, below_via H9.out.2.2.2 hb10 (Nat.le_refl _)⟩
      have HDu : Hid (U8s (Sh.dig alg (List.replicate 8 0 ++ X ++ sl))) := fun x hx => by unfold Sh.dig at hx; exact Sh.out_u8 _ _ x hx
      rw [HHa.out]
      clear hs10 hb10
      cases Q9 with
      | true =>
        go_wp2_with (go_at_call 32; refine (BEq_any _ _ _ _ _ _ _ _ H10.out.1 H10.out.2.1.sl HDu.out HHu.out.1 true HQ10.out.1).mono ?_; rintro e w' ⟨rfl, rfl⟩)
        go_ret
        exact ⟨by rw [← HQ10.out.2]; rfl, H10.out.2.2⟩
      | false =>
        go_wp2_with (go_at_call 32; refine (BEq_any _ _ _ _ _ _ _ _ H10.out.1 H10.out.2.1.sl HDu.out HHu.out.1 false HQ10.out.1).mono ?_; rintro e w' ⟨rfl, rfl⟩)
        go_ret
        exact ⟨by rw [← HQ10.out.2]; rfl, H10.out.2.2⟩
    · have da : decide (db.take (p + 1) = ahd p) = false := by simpa using hah
      rw [da]
      have HF : Hid (112 = V) := by show _ = _; rw [← HP4.out]; exact (if_pos hah).symm
      clear hah da HP4
      go_wp2
      go_ret
      exact ⟨by rw [← HF.out]; rfl, H8.out.2.2.2⟩
  · have e0 : (E != 0) = true := by simpa using h0
    have HQ2 : Hid (E = V) := by show _ = _; rw [← HQ.out]; exact (if_pos h0).symm
    have H3 : Hid (Below w.heap.size w w3) := (H2.out.2.2 _ hb3).2
    clear HQ h0 hr3 hb3
    go_wp2
    go_ret
    exact ⟨by rw [← HQ2.out]; rfl, H3.out⟩
end Go.Proofs.YtjmiaakfdclfjaaGreatDoor
/-
  Rsa: signatures in the second way: the reference's VerifyPss.
-/
namespace Go.Proofs.YtjmiaakfdclfjaaGreatDoor
open Go.RowKit
set_option maxRecDepth 20000
theorem ahd_get {p k : Nat} (h : k < p) : (ahd p).getD k 0 = 0 := by
  unfold ahd
  rw [List.getD_eq_getElem?_getD, List.getElem?_append_left (by simpa using h)]
  simp [h]
theorem ahd_last (p : Nat) : (ahd p).getD p 0 = 1 := by
  unfold ahd
  rw [List.getD_eq_getElem?_getD, List.getElem?_append_right (by simp)]
  simp
theorem umS_get0 {M V : List Int} {sp : Nat} (h : 0 < (xors M V).length) : (umS M V sp).getD 0 0 = (xors M V).getD 0 0 % 2 ^ (8 - sp) := by
  unfold umS
  cases hx : xors M V with
  | nil => rw [hx] at h; simp at h
  | cons y r => simp
end Go.Proofs.YtjmiaakfdclfjaaGreatDoor
/-
  Rsa: what is signed in the second way is verified with as many bytes of salt as it has, and with no other number (pure).
-/
namespace Go.Proofs.YtjmiaakfdclfjaaGreatDoor
open Go.RowKit
set_option maxRecDepth 20000
theorem raw_any_sig {ns es ds : List Int} {n e d sz : Nat} (K : KeyG ns es ds n e d sz) {Z : List Int} (uZ : U8s Z) (lZ : Z.length = sz) (hZ : bn Z < n) : rawS ns es (sgS n d sz Z) = (Z, 0) := by
  have h := sgS_bn K Z
  rw [raw_is K (sg := sgS n d sz Z) (beb_u8 _ _) (sgS_len ..), h.1, if_neg (by omega), K.back _ hZ]
  have e := beb_bn uZ
  rw [lZ] at e
  rw [e]
theorem bn_first {y : Int} {Z : List Int} (hu : U8s (y :: Z)) (hy : y < 128) : bn (y :: Z) < 128 * 256 ^ Z.length := by
  have hz : U8s Z := fun x hx => hu x (List.mem_cons_of_mem _ hx)
  have hy0 : 0 ≤ y := (hu y (by simp)).1
  have h1 := bn_lt hz
  have e : ((bn (y :: Z) : Nat) : Int) = bn Z + 256 ^ Z.length * y := by
    rw [bn_cast hu, List.reverse_cons, Nt.bv_append, bn_cast hz, List.length_reverse]
    simp [Nt.bv]
  have h2 : ((bn Z : Nat) : Int) < 256 ^ Z.length := by
    have := Int.ofNat_lt.2 h1
    rw [Int.natCast_pow] at this
    exact this
  have h3 : ((bn (y :: Z) : Nat) : Int) < ((128 * 256 ^ Z.length : Nat) : Int) := by
    rw [e, Int.natCast_mul, Int.natCast_pow]
    have hp : (0 : Int) < 256 ^ Z.length := Int.pow_pos (by decide)
    show _ < (128 : Int) * (256 : Int) ^ Z.length
    generalize (256 : Int) ^ Z.length = P at *
    have : P * y ≤ P * 127 := Int.mul_le_mul_of_nonneg_left (by omega) (by omega)
    omega
  exact Int.ofNat_lt.1 h3
theorem xx8 (a b : Nat) (ha : a < 256) (hb : b < 256) : bits .xor .u8 a (bits .xor .u8 a b) = (b : Int) := by
  rw [xor_nat8 a b ha hb, xor_nat8 a (a ^^^ b) ha (Nat.xor_lt_two_pow (n := 8) ha hb), ← Nat.xor_assoc, Nat.xor_self, Nat.zero_xor]
theorem xm8 (a b k : Nat) (ha : a < 256) (hb : b < 256) (hk : b < 2 ^ k) : bits .xor .u8 a (bits .xor .u8 a b % 2 ^ k) % 2 ^ k = (b : Int) := by
  have hx : a ^^^ b < 256 := Nat.xor_lt_two_pow (n := 8) ha hb
  have e1 : ((a ^^^ b : Nat) : Int) % 2 ^ k = (((a ^^^ b) % 2 ^ k : Nat) : Int) := by rw [Int.natCast_emod, Int.natCast_pow]; rfl
  have hy : (a ^^^ b) % 2 ^ k < 256 := Nat.lt_of_le_of_lt (Nat.mod_le _ _) hx
  rw [xor_nat8 a b ha hb, e1, xor_nat8 a _ ha hy]
  have e2 : ((a ^^^ (a ^^^ b) % 2 ^ k : Nat) : Int) % 2 ^ k = (((a ^^^ (a ^^^ b) % 2 ^ k) % 2 ^ k : Nat) : Int) := by rw [Int.natCast_emod, Int.natCast_pow]; rfl
  rw [e2, Nat.xor_mod_two_pow, Nat.mod_mod, Nat.xor_mod_two_pow, ← Nat.xor_assoc, Nat.xor_self, Nat.zero_xor, Nat.mod_eq_of_lt hk]
theorem xors_xors {D V : List Int} (uD : U8s D) (uV : U8s V) (hl : V.length = D.length) : xors (xors D V) V = D := by
  induction D generalizing V with
  | nil => cases V with
    | nil => rfl
    | cons _ _ => cases hl
  | cons y D ih =>
    cases V with
    | nil => cases hl
    | cons u V =>
      have hy := uD y (by simp)
      have hu := uV u (by simp)
      show bits .xor .u8 u (bits .xor .u8 u y) :: xors (xors D V) V = _
      rw [ih (fun z hz => uD z (List.mem_cons_of_mem _ hz)) (fun z hz => uV z (List.mem_cons_of_mem _ hz)) (by simpa using hl)]
      congr 1
      obtain ⟨a, rfl⟩ : ∃ a : Nat, u = a := ⟨u.toNat, by have := hu.1; omega⟩
      obtain ⟨b, rfl⟩ : ∃ b : Nat, y = b := ⟨y.toNat, by have := hy.1; omega⟩
      have ha := hu.2
      have hb := hy.2
      exact xx8 a b (by omega) (by omega)
/-- The message's first part, masked. -/
theorem um_um {D V : List Int} (uD : U8s D) (uV : U8s V) (hl : V.length = D.length) (sp : Nat) (h0 : D.getD 0 0 < 2 ^ (8 - sp)) : umS (umS D V sp) V sp = D := by
  match D, V, hl with
  | [], [], _ => rfl
  | x :: D, v :: V, hl =>
    have hx := uD x (by simp)
    have hv := uV v (by simp)
    have e1 : umS (x :: D) (v :: V) sp = bits .xor .u8 v x % 2 ^ (8 - sp) :: xors D V := rfl
    have e2 : ∀ y r, umS (y :: r) (v :: V) sp = bits .xor .u8 v y % 2 ^ (8 - sp) :: xors r V := fun _ _ => rfl
    rw [e1, e2]
    congr 1
    · obtain ⟨a, rfl⟩ : ∃ a : Nat, v = a := ⟨v.toNat, by have := hv.1; omega⟩
      obtain ⟨b, rfl⟩ : ∃ b : Nat, x = b := ⟨x.toNat, by have := hx.1; omega⟩
      have ha := hv.2
      have hb := hx.2
      refine xm8 a b (8 - sp) (by omega) (by omega) ?_
      have : (b : Int) < ((2 ^ (8 - sp) : Nat) : Int) := by rw [Int.natCast_pow]; exact h0
      exact Int.ofNat_lt.1 this
    · exact xors_xors (fun z hz => uD z (List.mem_cons_of_mem _ hz)) (fun z hz => uV z (List.mem_cons_of_mem _ hz)) (by simpa using hl)
/-- What is signed. -/
def pssE (alg mask : Int) (X salt : List Int) (n : Nat) : List Int :=
  umS (ahd (n - 2 - Sh.siz alg - salt.length) ++ salt) (Sh.msk mask (Sh.dig alg (List.replicate 8 0 ++ X ++ salt)) (n - 1 - Sh.siz alg)) 1 ++ (Sh.dig alg (List.replicate 8 0 ++ X ++ salt) ++ [188])
theorem ahd_ne {p q : Nat} {S : List Int} (h : p ≠ q) : (ahd p ++ S).take (q + 1) ≠ ahd q := by
  intro e
  rcases Nat.lt_or_gt_of_ne h with g | g
  · have h1 : ((ahd p ++ S).take (q + 1)).getD p 0 = 1 := by
      rw [List.getD_eq_getElem?_getD, List.getElem?_take_of_lt (by omega), List.getElem?_append_left (by rw [ahd_len]; omega), ← List.getD_eq_getElem?_getD]
      exact ahd_last p
    rw [e, ahd_get g] at h1
    cases h1
  · have h1 : ((ahd p ++ S).take (q + 1)).getD q 0 = 0 := by
      rw [List.getD_eq_getElem?_getD, List.getElem?_take_of_lt (by omega), List.getElem?_append_left (by rw [ahd_len]; omega), ← List.getD_eq_getElem?_getD]
      exact ahd_get g
    rw [e, ahd_last] at h1
    cases h1
theorem dig_u8' (alg : Int) (Z : List Int) : U8s (Sh.dig alg Z) := fun x hx => by unfold Sh.dig at hx; exact Sh.out_u8 _ _ x hx
theorem pssE_facts {alg mask : Int} {X salt : List Int} {n : Nat} (hm : 0 < Sh.siz mask) (us : U8s salt) (hn : Sh.siz alg + salt.length + 2 ≤ n) : ∃ DB V : List Int, pssE alg mask X salt n = umS DB V 1 ++ (Sh.dig alg (List.replicate 8 0 ++ X ++ salt) ++ [188]) ∧ DB = ahd (n - 2 - Sh.siz alg - salt.length) ++ salt ∧ V = Sh.msk mask (Sh.dig alg (List.replicate 8 0 ++ X ++ salt)) (n - 1 - Sh.siz alg) ∧ U8s DB ∧ U8s V ∧ DB.length = n - 1 - Sh.siz alg ∧ V.length = DB.length ∧ DB.getD 0 0 < 2 ^ (8 - 1) ∧ (umS DB V 1).length = n - 1 - Sh.siz alg := by
  refine ⟨_, _, rfl, rfl, rfl, ?_, msk_u8, ?_, ?_, ?_, ?_⟩
  · intro x hx
    rcases List.mem_append.1 hx with h | h
    · exact ahd_u8 _ x h
    · exact us x h
  · rw [List.length_append, ahd_len]; omega
  · rw [msk_len hm, List.length_append, ahd_len]; omega
  · rw [List.getD_eq_getElem?_getD, List.getElem?_append_left (by rw [ahd_len]; omega), ← List.getD_eq_getElem?_getD]
    by_cases h : n - 2 - Sh.siz alg - salt.length = 0
    · rw [h]; decide
    · rw [ahd_get (by omega)]; decide
  · rw [umS_len (by rw [msk_len hm, List.length_append, ahd_len]; omega), List.length_append, ahd_len]; omega
theorem pss_is {alg mask : Int} {X salt : List Int} {n : Nat} (hm : 0 < Sh.siz mask) (us : U8s salt) (hn : Sh.siz alg + salt.length + 2 ≤ n) (s : Int) (s0 : 0 ≤ s) : pssT alg mask s X (8 * n) (pssE alg mask X salt n) = if s = salt.length then 0 else 112 := by
  obtain ⟨DB, V, hE, hD, hV, uD, uV, lD, lV, h0, lU⟩ := pssE_facts (alg := alg) (mask := mask) (X := X) hm us hn
  have hd : (Sh.dig alg (List.replicate 8 0 ++ X ++ salt)).length = Sh.siz alg := Sh.dig_len ..
  rw [hE]
  generalize hH : Sh.dig alg (List.replicate 8 0 ++ X ++ salt) = H at *
  have e6 : (8 * n + 6) / 8 = n := by omega
  have lA : (umS DB V 1 ++ (H ++ [188])).length = n := by simp only [List.length_append, lU, hd, List.length_cons, List.length_nil]; omega
  have g1 : (umS DB V 1 ++ (H ++ [188])).getD (n - 1) 0 = 188 := by
    rw [List.getD_eq_getElem?_getD, List.getElem?_append_right (by omega), List.getElem?_append_right (by omega), lU, hd, show n - 1 - (n - 1 - Sh.siz alg) - Sh.siz alg = 0 by omega]
    rfl
  have g2 : (umS DB V 1 ++ (H ++ [188])).take (n - 1 - Sh.siz alg) = umS DB V 1 := by rw [← lU, List.take_left]
  have g3 : ((umS DB V 1 ++ (H ++ [188])).drop (n - 1 - Sh.siz alg)).take (Sh.siz alg) = H := by rw [← lU, List.drop_left, ← hd, List.take_left]
  have g4 : 8 * n - (8 * n - 1) = 1 := by omega
  have g5 : (umS DB V 1).getD 0 0 / 2 ^ (8 - 1) = 0 := by
    have hl : 0 < (xors DB V).length := by rw [xors_len lV]; omega
    rw [umS_get0 hl]
    have := Int.emod_lt_of_pos ((xors DB V).getD 0 0) (show (0 : Int) < 2 ^ (8 - 1) by decide)
    have := Int.emod_nonneg ((xors DB V).getD 0 0) (show (2 : Int) ^ (8 - 1) ≠ 0 by decide)
    exact Int.ediv_eq_zero_of_lt (by omega) (by omega)
  have g6 : umS (umS DB V 1) (Sh.msk mask H (n - 1 - Sh.siz alg)) 1 = DB := by rw [← hV]; exact um_um uD uV lV 1 h0
  unfold pssT
  simp only [e6, lA, Nat.sub_self, List.drop_zero, g1, g2, g3, g4, g5, g6]
  simp only [ne_eq, not_true_eq_false, false_and, if_false, or_false]
  by_cases hs : s = salt.length
  · rw [if_pos hs, if_neg (by omega)]
    have hp : n - 1 - Sh.siz alg - 1 - s.toNat = n - 2 - Sh.siz alg - salt.length := by omega
    have t1 : DB.take (n - 2 - Sh.siz alg - salt.length + 1) = ahd (n - 2 - Sh.siz alg - salt.length) := by rw [hD, ← ahd_len (n - 2 - Sh.siz alg - salt.length), List.take_left]
    have t2 : DB.drop (n - 2 - Sh.siz alg - salt.length + 1) = salt := by rw [hD, ← ahd_len (n - 2 - Sh.siz alg - salt.length), List.drop_left]
    simp only [hp, t1, t2, hH, not_true_eq_false, if_false]
  · rw [if_neg hs]
    split
    · rfl
    · rename_i hc
      rw [if_pos]
      rw [hD]
      exact ahd_ne (by omega)
theorem pss_sig {ns es ds : List Int} {nn e d sz : Nat} (K : KeyG ns es ds nn e d sz) (h8 : bts ns = 8 * sz) (hlo : 128 * 256 ^ (sz - 1) ≤ nn) {alg mask : Int} {X salt : List Int} (dX : isD alg X.length = true) (hm : 0 < Sh.siz mask) (us : U8s salt) (hn : Sh.siz alg + salt.length + 2 ≤ sz) (s : Int) (s0 : 0 ≤ s) : pssS alg mask s X ns es (sgS nn d sz (pssE alg mask X salt sz)) = if s = salt.length then 0 else 112 := by
  obtain ⟨DB, V, hE, hD, hV, uD, uV, lD, lV, h0, lU⟩ := pssE_facts (alg := alg) (mask := mask) (X := X) hm us hn
  have hd : (Sh.dig alg (List.replicate 8 0 ++ X ++ salt)).length = Sh.siz alg := Sh.dig_len ..
  have lZ : (pssE alg mask X salt sz).length = sz := by
    rw [hE]
    simp only [List.length_append, lU, hd, List.length_cons, List.length_nil]
    omega
  have uZ : U8s (pssE alg mask X salt sz) := by
    rw [hE]
    intro x hx
    rcases List.mem_append.1 hx with h | h
    · exact umS_u8 uD uV x h
    · rcases List.mem_append.1 h with h | h
      · exact dig_u8' _ _ x h
      · rw [List.mem_singleton.1 h]; exact ⟨by decide, by decide⟩
  have hZ : bn (pssE alg mask X salt sz) < nn := by
    obtain ⟨y, Z, hc⟩ : ∃ y Z, pssE alg mask X salt sz = y :: Z := by
      match pssE alg mask X salt sz, lZ with
      | [], h => have := K.s1.1; simp at h; omega
      | y :: Z, _ => exact ⟨y, Z, rfl⟩
    have hy : y < 128 := by
      have e1 : (pssE alg mask X salt sz).getD 0 0 = y := by rw [hc]; rfl
      rw [hE, List.getD_eq_getElem?_getD, List.getElem?_append_left (by omega), ← List.getD_eq_getElem?_getD, umS_get0 (by rw [xors_len lV]; omega)] at e1
      have := Int.emod_lt_of_pos ((xors DB V).getD 0 0) (show (0 : Int) < 2 ^ (8 - 1) by decide)
      omega
    rw [hc] at uZ lZ ⊢
    have := bn_first uZ hy
    rw [List.length_cons] at lZ
    rw [show Z.length = sz - 1 by omega] at this
    omega
  have hr := raw_any_sig K uZ lZ hZ
  unfold pssS
  rw [hr, if_neg (by rw [dX]; simp; omega), h8]
  simp only [ne_eq, not_true_eq_false, if_false]
  exact pss_is hm us hn s s0
theorem key8 (i : Nat) (hi : i < 3) : ∃ n e d sz, KeyG (kN i) (kE i) (kD i) n e d sz ∧ bts (kN i) = 8 * sz ∧ 128 * 256 ^ (sz - 1) ≤ n := by
  match i, hi with
  | 0, _ => exact ⟨_, _, _, _, keyG0, by decide +kernel, by decide +kernel⟩
  | 1, _ => exact ⟨_, _, _, _, keyG1, by decide +kernel, by decide +kernel⟩
  | 2, _ => exact ⟨_, _, _, _, keyG2, by decide +kernel, by decide +kernel⟩
end Go.Proofs.YtjmiaakfdclfjaaGreatDoor
/-
  Rsa: the reference's Mask, in memory of its own. (wip/mky30n.py)
-/
namespace Go.Proofs.YtjmiaakfdclfjaaGreatDoor
open Go.RowKit
set_option maxRecDepth 20000
set_option maxHeartbeats 4000000 in
theorem RMask_new (HD : Sh.DigestC) {w : World} (alg : Int) (ha : Sh.Alg alg) (va : Option Addr) (ls vc : Nat) (seed : List Int) (hv : Sl .u8 w (.slice va ls vc) seed) (us : U8s seed) (hls : seed.length = ls) (hl : ls ≤ 8192) (n : Nat) (hn : n ≤ 2048) (hn0 : 0 < n) :
    Calls Tryz.prog 20 #[.int .i64 alg, .slice va ls vc, .int .i64 n] w fun e w' => ∃ b c, e = .returned (.tuple #[.slice (some ⟨b, 0, none⟩) n c, .int .i64 0]) ∧ w.heap.size ≤ b ∧ Sl .u8 w' (.slice (some ⟨b, 0, none⟩) n c) (Sh.msk alg seed n) ∧ Below w.heap.size w w' := by
  have hsz : 0 < Sh.siz alg ∧ Sh.siz alg ≤ 64 := by rcases ha with rfl | rfl | rfl | rfl <;> decide
  have HSz : Hid (∀ w' : World, Calls Tryz.prog 19 #[.int .i64 alg] w' fun e w'' => e = .returned (.int .i64 (Sh.siz alg)) ∧ w' = w'') := fun w' => RSize8 alg
  have hs0 : ((Sh.siz alg : Int) == 0) = false := by simp; omega
  have hn1 : decide ((n : Int) < 0) = false := by simp
  have hn2 : decide ((2048 : Int) < (n : Int)) = false := by simp; omega
  have HX : Hid (Sl .u8 w (.slice va ls vc) seed ∧ U8s seed ∧ seed.length = ls) := ⟨hv, us, hls⟩
  have HDg : Hid (∀ (W : World) (v : Value) (X : List Int), Sl .u8 W v X → U8s X → X.length ≤ 65536 → Calls Tryz.prog 6 #[.int .i64 alg, v] W fun e w' => ∃ r, e = .returned r ∧ Sl .u8 w' r (Sh.dig alg X) ∧ Below W.heap.size W w') := fun W v X h1 h2 h3 => HD alg ha W v X h1 h2 h3
  have HM : Hid (∀ k, (Sh.mdg alg seed k).length = k * Sh.siz alg) := fun k => Sh.mdg_len alg seed k
  obtain ⟨z, hz⟩ : ∃ z, Sh.siz alg = z := ⟨_, rfl⟩
  have HZ : Hid (Sh.siz alg = z) := hz
  rw [hz] at hsz HSz hs0 HM
  clear hv us hls hz
  go_enter Tryz.func20, Tryz.ntmps20
  go_wp2_with (go_at_call 19; refine (HSz.out _).mono ?_; rintro e w' ⟨rfl, rfl⟩)
  go_loopw [8, 9] (fun o i wr => ∃ k : Nat, i = .int .i64 k ∧ k ≤ 2048 ∧ Row .u8 5 w.heap.size wr o (Sh.mdg alg seed k) ∧ Below w.heap.size w wr) (fun _ i _ => 2049 - (intOf i).toNat)
  case atStart => exact ⟨0, rfl, by omega, Row.nil _ _ _ _, Below.refl _ _⟩
  case round =>
    obtain ⟨k, rfl, hk, hrow, hBt⟩ := hrel
    obtain ⟨a8, c8, hf8⟩ := hrow.sl.form
    rw [HM.out] at hf8
    subst hf8
    have HR : Hid (Row .u8 5 w.heap.size wr (.slice a8 (k * z) c8) (Sh.mdg alg seed k) ∧ Below w.heap.size w wr) := ⟨hrow, hBt⟩
    obtain ⟨m, hm⟩ : ∃ m, k * z = m := ⟨_, rfl⟩
    have HMk : Hid (k * z = m) := hm
    by_cases hlt : m < n
    · have hltI : (m : Int) < (n : Int) := by omega
      have hkm : k < 2048 := by have := Nat.le_mul_of_pos_right k hsz.1; omega
      rw [hm] at HR ⊢
      clear hrow hBt hm
      have HBE : Hid (Sh.be 4 k = [(k : Int) / 16777216, (k : Int) / 65536, (k : Int) / 256, (k : Int) % 256]) := by
        show Sh.be 4 k = _
        rw [Sh.be4]
        simp only [List.cons.injEq, and_true]
        refine ⟨by omega, by omega, by omega, by omega⟩
      have HU : Hid (U8s (seed ++ Sh.be 4 k) ∧ (seed ++ Sh.be 4 k).length ≤ 65536) := ⟨fun x hx => (List.mem_append.1 hx).elim (HX.out.2.1 x) (Sh.be_u8 _ _ x), by rw [List.length_append, Sh.be_len, HX.out.2.2]; omega⟩
      have HLn : Hid (((Sh.mdg alg seed k).length + (Sh.dig alg (seed ++ Sh.be 4 k)).length) * 1 ≤ 140737488355328) := by
        show _ ≤ _
        rw [HM.out, Sh.dig_len, HZ.out, HMk.out]; omega
      go_wp2_with (first
        | (at_builtin; refine wpList_ap rfl (.tmp 29) (.tmp 30) 22 22 rfl .u8 5 1 Tryz.und8 Tryz.info8 (by decide) wr.heap.size _ _ rfl Sh.row0 _ seed rfl (src_sl Tryz.und8 (below_sl (al1 _) (below_sl HR.out.2 HX.out.1))) (by have := HX.out.2.2; simp; omega) (by simp) ?_; intro v1 w1 hr1 hg1; have H1 : Hid (Row .u8 5 wr.heap.size w1 v1 seed ∧ Below wr.heap.size wr w1) := ⟨hr1, (al1 _).trans (hg1.below Sh.row0 (by simp))⟩; clear hg1 hr1)
        | (at_builtin; refine wpList_ap rfl (.tmp 31) (.tmp 43) 22 22 rfl .u8 5 1 Tryz.und8 Tryz.info8 (by decide) wr.heap.size _ _ rfl (H1.out.1.alloc _) _ [(k : Int) / 16777216, (k : Int) / 65536, (k : Int) / 256, (k : Int) % 256] rfl (src_sl Tryz.und8 (new_sl [(k : Int) / 16777216, (k : Int) / 65536, (k : Int) / 256, (k : Int) % 256] _)) (by have := HX.out.2.2; simp; omega) (by have := H1.out.2.size; simp; omega) ?_; intro v2 w2 hr2 hg2; have H2 : Hid (Row .u8 5 wr.heap.size w2 v2 (seed ++ Sh.be 4 k) ∧ Below wr.heap.size wr w2) := ⟨by rw [HBE.out]; exact hr2, (Sh.al2 H1.out.2).trans (hg2.below (H1.out.1.alloc _) (by have := H1.out.2.size; simp; omega))⟩; clear hg2 hr2)
        | (go_at_call 6; refine (HDg.out _ _ (seed ++ Sh.be 4 k) H2.out.1.sl HU.out.1 HU.out.2).mono ?_; rintro e w3 ⟨r3, rfl, hs3, hb3⟩; have H3 : Hid (Sl .u8 w3 r3 (Sh.dig alg (seed ++ Sh.be 4 k)) ∧ Below wr.heap.size wr w3) := ⟨hs3, below_via H2.out.2 hb3 (Nat.le_refl _)⟩; clear hs3 hb3)
        | (at_builtin; refine wpList_ap rfl (.tmp 27) (.tmp 45) 22 22 rfl .u8 5 1 Tryz.und8 Tryz.info8 (by decide) w.heap.size _ _ rfl (HR.out.1.below H3.out.2) _ (Sh.dig alg (seed ++ Sh.be 4 k)) rfl (src_sl Tryz.und8 H3.out.1) HLn.out (below_via HR.out.2 H3.out.2 (Nat.le_refl _)).size ?_; intro v4 w4 hr4 hg4; have H4 : Hid (Row .u8 5 w.heap.size w4 v4 (Sh.mdg alg seed (k + 1)) ∧ Below w.heap.size w w4) := ⟨by rw [Sh.mdg_succ]; exact hr4, (below_via HR.out.2 H3.out.2 (Nat.le_refl _)).trans (hg4.below (HR.out.1.below H3.out.2) (below_via HR.out.2 H3.out.2 (Nat.le_refl _)).size)⟩; clear hg4 hr4))
      go_roundw
      case rel => exact ⟨k + 1, by go_num, by omega, H4.out.1, H4.out.2⟩
      case measure => simp [intOf]; omega
    · have hge : decide ((m : Int) < (n : Int)) = false := by simp; omega
      have HB2 : Hid (Below w.heap.size w wr) := hBt
      rcases hrow with ⟨h1, h2⟩ | ⟨b, S, h1, hBb, hA, hSl, hSt, hSm⟩
      · simp only [Value.slice.injEq] at h1
        obtain ⟨rfl, h0, rfl⟩ := h1
        have hm0 : m = 0 := by omega
        exfalso; omega
      · simp only [Value.slice.injEq] at h1
        obtain ⟨rfl, h0, rfl⟩ := h1
        have hS : n ≤ S.length := by rw [HM.out] at hSl; omega
        have HF : Hid (Sl .u8 wr (.slice (some ⟨b, 0, none⟩) n S.length) (Sh.msk alg seed n)) := by
          have hrd := hA.rd 0 n (by omega)
          rw [List.drop_zero] at hrd
          have he : Sh.msk alg seed n = S.take n := by
            rw [← Sh.msk_of (k := k) (by rw [HZ.out]; exact hsz.1) (by rw [HZ.out]; omega), ← hSt, List.take_take, HM.out]
            congr 1; omega
          have hln : (S.take n).length = n := by simp; omega
          refine ⟨some ⟨b, 0, none⟩, S.length, by rw [he, hln], by rw [he, hln]; exact hS, .inr ⟨b, 0, rfl, hA.lt, by rw [he]; exact hrd⟩⟩
        obtain ⟨q, hq⟩ : ∃ q, S.length = q := ⟨_, rfl⟩
        rw [hq] at hS HF ⊢
        have hSI : (n : Int) ≤ (q : Int) := by omega
        rw [hm]
        have HBb : Hid (w.heap.size ≤ b) := hBb
        clear hm HMk HR hA hSl hSt hSm hBb hq
        go_wp2
        go_ret2
        exact ⟨_, _, rfl, HBb.out, HF.out, HB2.out⟩
end Go.Proofs.YtjmiaakfdclfjaaGreatDoor
