/-
  Rsa: signatures in the second way: the reference's VerifyPss.
-/
import Derived.Deep.Cut
import Derived.Test.YtndoibmpnhkmpaaGreatDoorK33
namespace Go.Proofs.YtndoibmpnhkmpaaGreatDoor
open Go.RowKit
set_option maxRecDepth 20000
theorem shl_shr {y : Int} (hy : U8 y) (sp : Nat) (hs : sp ≤ 7) : y * 2 ^ sp % 256 / 2 ^ sp = y % 2 ^ (8 - sp) := by
  obtain ⟨a, rfl⟩ : ∃ a : Nat, y = a := ⟨y.toNat, by have := hy.1; omega⟩
  have h1 := hy.2
  have : ∀ (a : Fin 256) (s : Fin 8), ((a : Nat) : Int) * 2 ^ (s : Nat) % 256 / 2 ^ (s : Nat) = ((a : Nat) : Int) % 2 ^ (8 - (s : Nat)) := by decide +kernel
  exact this ⟨a, by omega⟩ ⟨sp, by omega⟩
/-- make, as an equation. -/
theorem mk_run {P : Program} (w : World) (t : TypeId) (k : IntKind) (e : TypeId) (bytes : Nat) (ht : P.underlying t = some (.slice e)) (hi : (P.info? e).map (fun i => (i.zero, i.size, i.bytes)) = some (some (.int k 0), 1, bytes))
    (n : Nat) (hb : bytes * n ≤ 281474976710656) (hm : n ≤ 1152921504606846976) :
    ∃ w', Sem.run P (Instr.makeSlice t (.int .i64 n) (.int .i64 n)) w = .ok (.slice (some ⟨w.heap.size, 0, none⟩) n n) w' ∧ Arr k e w' w.heap.size (List.replicate n 0) ∧ Below w.heap.size w w' := by
  obtain ⟨i0, hi0, hz0, hz1, hz2⟩ := info_parts hi
  obtain ⟨w', hrun, hown, hgr⟩ := run_make_full (P := P) w w.heap.size t e i0 (.int k 0) 1 ht hi0 hz0 hz1 .i64 .i64 n (by rw [hz2]; exact hb) (by unfold maxLen; omega) (Nat.le_refl _)
  refine ⟨w', hrun, ?_, ((Below.refl _ _).grown hgr (Nat.le_refl _) (fun k hk => by cases hk))⟩
  obtain ⟨_, h⟩ := hown
  rcases h with ⟨h, _⟩ | ⟨g, cap, cur, hv, _, hg, _, _, hs, htk⟩
  · cases h
  · simp only [Value.slice.injEq, Option.some.injEq, Addr.mk.injEq, and_true, true_and] at hv
    obtain ⟨rfl, rfl⟩ := hv
    unfold Arr
    rw [hg]
    have e1 : cur.toList = List.replicate n (.int k 0) := by
      rw [List.take_of_length_le (by simp; omega)] at htk
      rw [htk, Nat.mul_one]; exact toList_madeCells_one (.int k 0) n
    rw [toArray_of_toList e1]; simp
theorem ahd_get {p k : Nat} (h : k < p) : (ahd p).getD k 0 = 0 := by
  unfold ahd
  rw [List.getD_eq_getElem?_getD, List.getElem?_append_left (by simpa using h)]
  simp [h]
theorem ahd_last (p : Nat) : (ahd p).getD p 0 = 1 := by
  unfold ahd
  rw [List.getD_eq_getElem?_getD, List.getElem?_append_right (by simp)]
  simp
theorem take_getD (l : List Int) (k : Nat) (h : k < l.length) : l.take (k + 1) = l.take k ++ [l.getD k 0] := by
  rw [List.take_succ_eq_append_getElem h]; simp [List.getElem?_eq_getElem h]
theorem ahd_take {p k : Nat} (h : k < p) : (ahd p).take (k + 1) = (ahd p).take k ++ [0] := by rw [take_getD _ _ (by rw [ahd_len]; omega), ahd_get h]
theorem ahd_end (p : Nat) : (ahd p).take (p + 1) = (ahd p).take p ++ [1] := by rw [take_getD _ _ (by rw [ahd_len]; omega), ahd_last]
theorem umS_get0 {M V : List Int} {sp : Nat} (h : 0 < (xors M V).length) : (umS M V sp).getD 0 0 = (xors M V).getD 0 0 % 2 ^ (8 - sp) := by
  unfold umS
  cases hx : xors M V with
  | nil => rw [hx] at h; simp at h
  | cons y r => simp
theorem umS_getS {M V : List Int} {sp k : Nat} (h : 0 < k) : (umS M V sp).getD k 0 = (xors M V).getD k 0 := by
  obtain ⟨j, rfl⟩ : ∃ j, k = j + 1 := ⟨k - 1, by omega⟩
  unfold umS
  cases hx : xors M V with
  | nil => simp
  | cons y r => simp
set_option maxHeartbeats 8000000 in
theorem RVerifyPss_any {w : World} (a a' : Option Addr) (n0 c0 n0' c0' : Nat) (ns es : List Int) (hn : Sl .u32 w (.slice a n0 c0) ns) (un : U32s ns) (ln : ns.length = n0) (he : Sl .u32 w (.slice a' n0' c0') es) (ue : U32s es) (le : es.length = n0') (hb : n0 ≤ 600) (hb' : n0' ≤ 600)
    (b : Option Addr) (m d : Nat) (sg : List Int) (hs : Sl .u8 w (.slice b m d) sg) (us : U8s sg) (ls : sg.length = m)
    (alg mask salt : Int) (hs0 : -9223372036854775808 ≤ salt) (hs1 : salt ≤ 9223372036854775807) (f : Option Addr) (k g : Nat) (X : List Int) (hX : Sl .u8 w (.slice f k g) X) (uX : U8s X) (lX : X.length = k) (lk : k ≤ 8192) :
    Calls Tryz.prog 21 #[.agg #[.slice a n0 c0, .slice a' n0' c0'], .int .i64 alg, .int .i64 mask, .int .i64 salt, .slice f k g, .slice b m d] w fun e w' => e = .returned (.int .i64 (pssS alg mask salt X ns es sg)) ∧ Below w.heap.size w w' := by
  have HRw : Hid (∀ W, Below w.heap.size w W → Calls Tryz.prog 13 #[.agg #[.slice a n0 c0, .slice a' n0' c0'], .slice b m d] W fun e w' => ∃ r, e = .returned (.tuple #[r, .int .i64 (rawS ns es sg).2]) ∧ Sl .u8 w' r (rawS ns es sg).1 ∧ Below W.heap.size W w') := fun W hW => RRaw_any a a' n0 c0 n0' c0' ns es (below_sl hW hn) un ln (below_sl hW he) ue le hb hb' b m d sg (below_sl hW hs) us ls
  have HBt : Hid (∀ W, Below w.heap.size w W → Calls Tryz.prog 53 #[.slice a n0 c0] W fun e w'' => e = .returned (.int .i64 (bts ns)) ∧ Below W.heap.size W w'') := fun W hw =>
    (RBits_any _ ns (below_sl hw hn) un (by omega) _ rfl).mono fun _ _ h => ⟨h.1, h.2⟩
  have HSz : Hid (∀ (q : Int) (W : World), Calls Tryz.prog 22 #[.int .i64 q] W fun e w'' => e = .returned (.int .i64 (Sh.siz q)) ∧ W = w'') := fun q W => RSize8 q
  have HRo : Hid ((rawS ns es sg).2 = 0 → (rawS ns es sg).1.length = (bts ns + 7) / 8 ∧ 512 ≤ bts ns ∧ bts ns ≤ 8192) := fun h => by
    have h1 := raw_ok h
    have h2 := key_facts un h1.1
    have h3 := bits_len un
    exact ⟨by rw [h1.2, h2.2.2.2.1], h2.2.2.2.2.2, by omega⟩
  have HRu : Hid (U8s (rawS ns es sg).1) := raw_u8
  have HX : Hid (Sl .u8 w (.slice f k g) X ∧ U8s X ∧ X.length = k ∧ k ≤ 8192) := ⟨hX, uX, lX, lk⟩
  obtain ⟨V, hV⟩ : ∃ V, pssS alg mask salt X ns es sg = V := ⟨_, rfl⟩
  have HV : Hid ((if isD alg k = false ∨ Sh.siz mask = 0 ∨ salt < 0 then 1 else if (rawS ns es sg).2 ≠ 0 then (rawS ns es sg).2 else pssT alg mask salt X (bts ns) (rawS ns es sg).1) = V) := by show _ = _; rw [← hV, ← lX]; rfl
  rw [hV]
  obtain ⟨Rl, hRl⟩ : ∃ Rl, (rawS ns es sg).1 = Rl := ⟨_, rfl⟩
  obtain ⟨E, hE⟩ : ∃ E, (rawS ns es sg).2 = E := ⟨_, rfl⟩
  obtain ⟨B, hB⟩ : ∃ B, bts ns = B := ⟨_, rfl⟩
  rw [hRl] at HRw HV HRo HRu
  rw [hE] at HRw HV HRo
  rw [hB] at HBt HV HRo
  obtain ⟨zm, hzm⟩ : ∃ z, Sh.siz mask = z := ⟨_, rfl⟩
  have HZm : Hid (Sh.siz mask = zm) := hzm
  have HSm : Hid (∀ W : World, Calls Tryz.prog 22 #[.int .i64 mask] W fun e w'' => e = .returned (.int .i64 zm) ∧ W = w'') := fun W => by rw [← hzm]; exact HSz.out mask W
  have HSa : Hid (∀ W : World, Calls Tryz.prog 22 #[.int .i64 alg] W fun e w'' => e = .returned (.int .i64 (Sh.siz alg)) ∧ W = w'') := fun W => HSz.out alg W
  rw [hzm] at HV
  clear hn un ln he ue le hb hb' hs us ls hX uX lX lk hV hRl hE hB hzm HSz
  go_enter Tryz.func21, Tryz.ntmps21
  go_upto_region 1 with (refine Sh.wpList_boxR rfl 24 (.tmp 0) rfl #[.slice a n0 c0, .slice a' n0' c0'] rfl ?_)
  refine Sh.wp_gen (fun W => Blk 24 W w.heap.size [.slice a n0 c0, .slice a' n0' c0'] ∧ Below w.heap.size w W) ⟨Blk.new _ w _, al1 _⟩ ?_
  rintro W2 ⟨hBk, hBw⟩
  have H2 : Hid (Below w.heap.size w W2 ∧ W2.rangeAt w.heap.size 0 [.slice a n0 c0, .slice a' n0' c0'] ∧ ∀ W3, Below W2.heap.size W2 W3 → W3.cell? ⟨w.heap.size, 0, none⟩ = some (.slice a n0 c0) ∧ Below w.heap.size w W3) := ⟨hBw, hBk.whole, fun W3 h3 => ⟨(below_blk h3 hBk.lt hBk).cell 0, below_via hBw h3 (Nat.le_refl _)⟩⟩
  clear hBk hBw
  obtain ⟨za, hza⟩ : ∃ z, Sh.siz alg = z := ⟨_, rfl⟩
  have HZa : Hid (Sh.siz alg = za) := hza
  rw [hza] at HSa
  have HDd : Hid (isD alg k = decide (0 < za ∧ k = za)) := by show _ = _; rw [← hza]; rfl
  have HGo : Hid (∀ W (r : Int), W = W → r = alg ∨ r = mask → Calls Tryz.prog 22 #[.int .i64 r] W fun e w'' => e = .returned (.int .i64 (Sh.siz r)) ∧ W = w'') := fun W r _ _ => RSize8 r
  have HGa : Hid (∀ W : World, Calls Tryz.prog 22 #[.int .i64 alg] W fun e w'' => e = .returned (.int .i64 za) ∧ W = w'') := HSa.out
  clear hza
  by_cases hz0 : za = 0
  · have HQ : Hid (1 = V) := by show _ = _; rw [← HV.out]; exact (if_pos (.inl (by rw [HDd.out]; simp; omega))).symm
    have d0 : ((za : Int) == 0) = true := by simp [hz0]
    clear hz0 HV
    go_wp2_with (go_at_call 22; refine (HGa.out _).mono ?_; rintro e w' ⟨rfl, rfl⟩)
    go_ret
    exact ⟨by rw [← HQ.out]; rfl, H2.out.1⟩
  have e0 : ((za : Int) == 0) = false := by simp; exact hz0
  by_cases hkz : k = za
  · have e1 : ((k : Int) != (za : Int)) = false := by simp [hkz]
    have hD : isD alg k = true := by rw [HDd.out]; simp; omega
    have HDz : Hid (0 < Sh.siz alg ∧ k = Sh.siz alg ∧ Sh.siz alg ≤ 64) := by
      have h1 : 0 < Sh.siz alg := by rw [HZa.out]; omega
      exact ⟨h1, by rw [HZa.out]; exact hkz, by have ha := siz_pos.1 h1; rcases ha with rfl | rfl | rfl | rfl <;> decide⟩
    clear hkz hz0
    go_wp2_with fail
    refine (HGa.out _).mono ?_
    rintro e w' ⟨rfl, rfl⟩
    go_wp2_with fail
    refine (HGa.out _).mono ?_
    rintro e w' ⟨rfl, rfl⟩
    by_cases hz : zm = 0
    · have HQ : Hid (1 = V) := by show _ = _; rw [← HV.out]; exact (if_pos (.inr (.inl hz))).symm
      have d0 : ((zm : Int) == 0) = true := by simp [hz]
      clear hD HV hz
      go_wp2_with (go_at_call 22; refine (HSm.out _).mono ?_; rintro e w' ⟨rfl, rfl⟩)
      go_ret
      exact ⟨by rw [← HQ.out]; rfl, H2.out.1⟩
    have d0 : ((zm : Int) == 0) = false := by simp; exact hz
    by_cases hsl : salt < 0
    · have HQ : Hid (1 = V) := by show _ = _; rw [← HV.out]; exact (if_pos (.inr (.inr hsl))).symm
      have d1 : decide (salt < 0) = true := by simpa using hsl
      clear hD HV hz hsl
      go_wp2_with (go_at_call 22; refine (HSm.out _).mono ?_; rintro e w' ⟨rfl, rfl⟩)
      go_ret
      exact ⟨by rw [← HQ.out]; rfl, H2.out.1⟩
    have d1 : decide (salt < 0) = false := by simpa using hsl
    have HQ : Hid ((if E ≠ 0 then E else pssT alg mask salt X B Rl) = V) := by show _ = _; rw [← HV.out]; exact (if_neg (by rw [hD]; simp; exact ⟨hz, by omega⟩)).symm
    have hzp : 0 < zm := by omega
    obtain ⟨s, rfl⟩ : ∃ s : Nat, salt = s := ⟨salt.toNat, by omega⟩
    clear hD HV hz hsl hs0
    go_wp2_with (first
      | (go_at_call 22; refine (HSm.out _).mono ?_; rintro e w' ⟨rfl, rfl⟩)
      | (refine wpList_load_mid rfl 24 (.tmp 6) rfl w.heap.size 0 rfl [.slice a n0 c0, .slice a' n0' c0'] _ H2.out.2.1 Tryz.underlying24 rfl (by kernel_rfl) ?_))
    refine (HRw.out _ H2.out.1).mono ?_
    rintro e w3 ⟨r3, rfl, hr3, hb3⟩
    obtain ⟨a3, c3, hf3⟩ := hr3.form
    subst hf3
    by_cases h0 : E = 0
    · subst h0
      have HQ2 : Hid (pssT alg mask s X B Rl = V) := by show _ = _; rw [← HQ.out]; exact (if_neg (by simp)).symm
      have hro := HRo.out rfl
      obtain ⟨B1, hB1⟩ : ∃ B1, B = B1 + 1 := ⟨B - 1, by omega⟩
      subst hB1
      obtain ⟨n, kk, sp, en, eZ, hk1, esp, hsp, n64, n1024, e8⟩ := pss_nums (B1 := B1) (by omega) (by omega)
      have hRn : Rl.length = n + kk := by rw [hro.1, eZ]
      obtain ⟨Z, hZ⟩ : ∃ Z, Rl.length = Z := ⟨_, rfl⟩
      rw [hZ] at hr3 ⊢
      obtain ⟨b3, o3, rfl, hAt⟩ := at_of hr3 hZ (by omega)
      have H3 : Hid (At w3 b3 o3 Z c3 Rl ∧ Below W2.heap.size W2 w3) := ⟨hAt, hb3⟩
      have hk3 := (H2.out.2.2 _ hb3).1
      have HNn : Hid (Z = n + kk ∧ Rl.length = Z ∧ (B1 + 7) / 8 = n ∧ 8 * n = B1 + sp ∧ kk ≤ 1 ∧ sp ≤ 7 ∧ 64 ≤ n ∧ n ≤ 1024) := ⟨by omega, hZ, en, e8, hk1, hsp, n64, n1024⟩
      have HE8 : Hid (8 * (n : Int) - (B1 : Int) = (sp : Int)) := by show _ = _; omega
      have HP : Hid ((if kk ≠ 0 ∧ Rl.getD 0 0 ≠ 0 then 112
        else if ((n - 1 : Nat) : Int) - Sh.siz alg - 1 < (s : Int) ∨ (Rl.drop kk).getD (n - 1) 0 ≠ 188 then 112
        else if ((Rl.drop kk).take (n - 1 - Sh.siz alg)).getD 0 0 / 2 ^ (8 - sp) ≠ 0 then 112
        else if (umS ((Rl.drop kk).take (n - 1 - Sh.siz alg)) (Sh.msk mask (((Rl.drop kk).drop (n - 1 - Sh.siz alg)).take (Sh.siz alg)) (n - 1 - Sh.siz alg)) sp).take (n - 1 - Sh.siz alg - 1 - s + 1) ≠ ahd (n - 1 - Sh.siz alg - 1 - s) then 112
        else if Sh.dig alg (List.replicate 8 0 ++ X ++ (umS ((Rl.drop kk).take (n - 1 - Sh.siz alg)) (Sh.msk mask (((Rl.drop kk).drop (n - 1 - Sh.siz alg)).take (Sh.siz alg)) (n - 1 - Sh.siz alg)) sp).drop (n - 1 - Sh.siz alg - 1 - s + 1)) ≠ ((Rl.drop kk).drop (n - 1 - Sh.siz alg)).take (Sh.siz alg) then 112 else 0) = V) := by
        show _ = _
        rw [← HQ2.out]
        unfold pssT
        have q1 : (B1 + 1 + 6) / 8 = n := by omega
        have q2 : Rl.length - n = kk := by omega
        have q3 : 8 * n - (B1 + 1 - 1) = sp := by omega
        simp only [q1, q2, q3, Int.toNat_natCast]
      clear hro HQ HQ2 hRn hZ hr3 hAt hb3 en eZ hk1 esp hsp n64 n1024 e8
      go_wp2_with fail
      refine (HBt.out _ (H2.out.2.2 _ H3.out.2).2).mono ?_
      rintro e w4 ⟨rfl, hb4⟩
      have H4 : Hid (At w4 b3 o3 Z c3 Rl ∧ Below W2.heap.size W2 w4) := ⟨H3.out.1.below hb4, below_via H3.out.2 hb4 (Nat.le_refl _)⟩
      clear hb4 hk3 H3
      have hB1b : B1 ≤ 8192 := by have := HNn.out; omega
      have hqn : ((B1 : Int) + 7) / 8 = (n : Int) := by have := HNn.out; omega
      have hnb : n ≤ 1024 := HNn.out.2.2.2.2.2.2.2
      go_upto_if 69 with (go_at_call 22; refine (HGa.out _).mono ?_; rintro e w' ⟨rfl, rfl⟩)
      go_cut [13] from 66 (fun s13 wc => s13 = .slice (some ⟨b3, o3 + kk, none⟩) n (c3 - kk) ∧ w4 = wc ∧ Hid (¬ (kk ≠ 0 ∧ Rl.getD 0 0 ≠ 0)))
      case first =>
        rcases Nat.lt_or_ge 0 kk with hk0 | hk0
        · have hk1 : kk = 1 := by have := HNn.out; omega
          subst hk1
          have hA4 := H4.out.1
          have hcZ := hA4.2.1
          have hc0 : w4.cell? ⟨b3, o3, none⟩ = some (.int .u8 (Rl.getD 0 0)) := by have h := hA4.cell 0 (by have := HNn.out; omega); simpa using h
          have d9 : n < Z := by have := HNn.out; omega
          have hc1 : ¬ c3 = 1 := by have := HNn.out; omega
          have hZ1 : 1 ≤ Z := by have := HNn.out; omega
          have HZn : Hid (Z - 1 = n) := by show _ = _; have := HNn.out; omega
          obtain ⟨x, hx⟩ : ∃ x, Rl.getD 0 0 = x := ⟨_, rfl⟩
          rw [hx] at hc0
          have HX9 : Hid (Rl.getD 0 0 = x) := hx
          clear hx hA4 hk0
          by_cases hx0 : x = 0
          · subst hx0
            go_wp2
            go_meet
            case rel => exact ⟨by rw [← HZn.out], rfl, fun h => h.2 HX9.out⟩
          · have d8 : (x != 0) = true := by simpa using hx0
            have HF : Hid (112 = V) := by
              show _ = _
              rw [← HP.out]
              exact (if_pos ⟨by decide, by rw [HX9.out]; exact hx0⟩).symm
            clear hx0
            go_wp2
            go_ret
            exact ⟨by rw [← HF.out]; rfl, (H2.out.2.2 _ H4.out.2).2⟩
        · have hk1 : kk = 0 := by omega
          subst hk1
          have d9 : ¬ n < Z := by have := HNn.out; omega
          have HZn : Hid (Z = n) := by show _ = _; have := HNn.out; omega
          clear hk0
          go_wp2
          go_meet
          case rel => exact ⟨by rw [HZn.out]; rfl, rfl, fun h => h.1 rfl⟩
      case rest =>
        obtain ⟨rfl, rfl, hkz⟩ := hcut
        obtain ⟨em, hem⟩ : ∃ em, Rl.drop kk = em := ⟨_, rfl⟩
        rw [hem] at HP
        obtain ⟨h, hh⟩ : ∃ h, Sh.siz alg = h := ⟨_, rfl⟩
        have hzah : za = h := by rw [← hh]; exact HZa.out.symm
        subst hzah
        rw [HZa.out] at HP HDz
        obtain ⟨n1, hn1⟩ : ∃ n1, n = n1 + 1 := ⟨n - 1, by have := HNn.out; omega⟩
        have H5 : Hid (At w4 b3 (o3 + kk) n (c3 - kk) em ∧ Below W2.heap.size W2 w4 ∧ U8s em) := ⟨by have h := H4.out.1.drop kk (by have := HNn.out.1; omega); rw [show Z - kk = n by have := HNn.out.1; omega, hem] at h; exact h, H4.out.2, by rw [← hem]; exact HRu.out.drop kk⟩
        subst hn1
        simp only [Nat.add_sub_cancel] at HP
        have HP2 : Hid ((if (n1 : Int) - za - 1 < (s : Int) ∨ em.getD n1 0 ≠ 188 then 112
            else if (em.take (n1 - za)).getD 0 0 / 2 ^ (8 - sp) ≠ 0 then 112
            else if (umS (em.take (n1 - za)) (Sh.msk mask ((em.drop (n1 - za)).take za) (n1 - za)) sp).take (n1 - za - 1 - s + 1) ≠ ahd (n1 - za - 1 - s) then 112
            else if Sh.dig alg (List.replicate 8 0 ++ X ++ (umS (em.take (n1 - za)) (Sh.msk mask ((em.drop (n1 - za)).take za) (n1 - za)) sp).drop (n1 - za - 1 - s + 1)) ≠ (em.drop (n1 - za)).take za then 112 else 0) = V) := by
          show _ = _
          rw [← HP.out]
          exact (if_neg hkz.out).symm
        have hhb : za ≤ 100 := by have := HDz.out; omega
        have hc5 : w4.cell? ⟨b3, o3 + kk + n1, none⟩ = some (.int .u8 (em.getD n1 0)) := H5.out.1.cell n1 (by omega)
        have hcn : n1 + 1 ≤ c3 - kk := H5.out.1.2.1
        obtain ⟨x9, hx9⟩ : ∃ x, em.getD n1 0 = x := ⟨_, rfl⟩
        rw [hx9] at hc5
        have HX9 : Hid (em.getD n1 0 = x9) := hx9
        clear hkz hem hh HP H4 hx9 HDd HGo
        by_cases hA : ((n1 : Int) + 1 < (s : Int))
        · have dA : decide ((n1 : Int) + 1 < (s : Int)) = true := by simpa using hA
          have HF : Hid (112 = V) := by show _ = _; rw [← HP2.out]; exact (if_pos (.inl (by omega))).symm
          clear HP2 hA
          go_wp2
          go_ret
          exact ⟨by rw [← HF.out]; rfl, (H2.out.2.2 _ H5.out.2.1).2⟩
        have dA : decide ((n1 : Int) + 1 < (s : Int)) = false := by simpa using hA
        have hsb : (s : Int) ≤ 2000 := by omega
        by_cases hBB : ((n1 : Int) + 1 < (za : Int) + (s : Int) + 2)
        · have dB : decide ((n1 : Int) + 1 < (za : Int) + (s : Int) + 2) = true := by simpa using hBB
          have HF : Hid (112 = V) := by show _ = _; rw [← HP2.out]; exact (if_pos (.inl (by omega))).symm
          clear HP2 hA hBB
          go_wp2
          go_ret
          exact ⟨by rw [← HF.out]; rfl, (H2.out.2.2 _ H5.out.2.1).2⟩
        have dB : decide ((n1 : Int) + 1 < (za : Int) + (s : Int) + 2) = false := by simpa using hBB
        by_cases hCC : x9 = 188
        · subst hCC
          obtain ⟨t, ht⟩ : ∃ t, n1 = t + za := ⟨n1 - za, by omega⟩
          obtain ⟨p, hp⟩ : ∃ p, t = (p + 1) + s := ⟨t - 1 - s, by omega⟩
          have HP3 : Hid ((if (em.take t).getD 0 0 / 2 ^ (8 - sp) ≠ 0 then 112
            else if (umS (em.take t) (Sh.msk mask ((em.drop t).take za) t) sp).take (p + 1) ≠ ahd p then 112
            else if Sh.dig alg (List.replicate 8 0 ++ X ++ (umS (em.take t) (Sh.msk mask ((em.drop t).take za) t) sp).drop (p + 1)) ≠ (em.drop t).take za then 112 else 0) = V) := by
            show _ = _
            rw [← HP2.out]
            have q1 : n1 - za = t := by omega
            have q2 : t - 1 - s = p := by omega
            rw [q1, q2]
            exact (if_neg (by rw [HX9.out]; omega)).symm
          have HTp : Hid (n1 = t + za ∧ t = (p + 1) + s) := ⟨ht, hp⟩
          have ee1 : (n1 : Int) - (za : Int) = (t : Int) := by omega
          have ee2 : (n1 : Int) + 1 - (za : Int) = (t : Int) + 1 := by omega
          have hct : ¬ c3 - kk = t := by omega
          have htn : t ≤ n1 := by omega
          have htc : t ≤ c3 - kk := by omega
          have htb : t ≤ 1024 := by omega
          have HTz : Hid (n1 - t = za) := by show _ = _; omega
          clear hA hBB HP2 ht hp
          go_wp2_with fail
          rw [HTz.out]
          obtain ⟨ms, hms⟩ : ∃ ms, em.take t = ms := ⟨_, rfl⟩
          obtain ⟨hsh, hhs⟩ : ∃ hs, (em.drop t).take za = hs := ⟨_, rfl⟩
          have H6 : Hid (At w4 b3 (o3 + kk) t (c3 - kk) ms ∧ At w4 b3 (o3 + kk + t) za (c3 - kk - t) hsh ∧ U8s ms ∧ U8s hsh) := ⟨by rw [← hms]; exact H5.out.1.take t (by omega), by rw [← hhs]; exact (H5.out.1.drop t (by omega)).take za (by have := HTp.out; omega), by rw [← hms]; exact H5.out.2.2.take t, by rw [← hhs]; exact (H5.out.2.2.drop t).take za⟩
          rw [hms, hhs] at HP3
          clear hms hhs
          refine (RMask_any Sh.Digest_ok mask (siz_pos.1 (by rw [HZm.out]; exact hzp)) _ za _ hsh H6.out.2.1.sl H6.out.2.2.2 H6.out.2.1.1 (by omega) t (by omega)).mono ?_
          rintro e w5 ⟨r5, rfl, hr5, hb5⟩
          obtain ⟨Vl, hVl⟩ : ∃ V, Sh.msk mask hsh t = V := ⟨_, rfl⟩
          have hVL : Vl.length = t := by rw [← hVl]; exact msk_len (by rw [HZm.out]; exact hzp)
          have hVu : U8s Vl := by rw [← hVl]; exact msk_u8
          rw [hVl] at hr5 HP3
          obtain ⟨a5, c5, hf5⟩ := hr5.form
          rw [hVL] at hf5
          subst hf5
          obtain ⟨b5, o5, rfl, hA5⟩ := at_of hr5 hVL (by have := HTp.out; omega)
          have hb25 := below_via H5.out.2.1 hb5 (Nat.le_refl _)
          have H7 : Hid (At w5 b5 o5 t c5 Vl ∧ At w5 b3 (o3 + kk) t (c3 - kk) ms ∧ At w5 b3 (o3 + kk + t) za (c3 - kk - t) hsh ∧ Below W2.heap.size W2 w5 ∧ Below w.heap.size w w5) := ⟨hA5, H6.out.1.below hb5, H6.out.2.1.below hb5, hb25, (H2.out.2.2 _ hb25).2⟩
          have HL : Hid (Vl.length = t ∧ U8s Vl ∧ ms.length = t ∧ U8s ms ∧ U8s hsh ∧ hsh.length = za) := ⟨hVL, hVu, H6.out.1.1, H6.out.2.2.1, H6.out.2.2.2, H6.out.2.1.1⟩
          obtain ⟨D, hD⟩ : ∃ D, umS ms Vl sp = D := ⟨_, rfl⟩
          have HD : Hid (umS ms Vl sp = D ∧ D.length = t ∧ U8s D) := ⟨hD, by rw [← hD, umS_len (by rw [hVL, H6.out.1.1]), H6.out.1.1], by rw [← hD]; exact umS_u8 H6.out.2.2.1 hVu⟩
          rw [hD] at HP3
          have h8 : 8 * ((n1 : Int) + 1) - (B1 : Int) = (sp : Int) := by have := HE8.out; omega
          obtain ⟨q8, hq8⟩ : ∃ q, 8 - sp = q := ⟨_, rfl⟩
          have e88 : (8 : Int) - (sp : Int) = (q8 : Int) := by have := HNn.out; omega
          rw [hq8] at HP3
          have HQ8 : Hid (8 - sp = q8 ∧ sp ≤ 7) := ⟨hq8, HNn.out.2.2.2.2.2.1⟩
          have hspb : sp ≤ 7 := HNn.out.2.2.2.2.2.1
          have hq8b : q8 ≤ 8 := by omega
          clear hVl hVL hVu hr5 hA5 hb5 hb25 H6 hD hq8 HRw HBt dA dB
          go_upto_region 19 with (fail)
          go_loopw [21, 22] (fun o i wr => ∃ k2 : Nat, k2 ≤ t ∧ i = .int .i64 k2 ∧ Row .u8 5 w5.heap.size wr o (D.take k2) ∧ Below w5.heap.size w5 wr ∧ Hid (k2 = 0 ∨ ms.getD 0 0 / 2 ^ q8 = 0)) (fun _ i _ => t - (intOf i).toNat)
          case atStart => exact ⟨0, Nat.zero_le _, rfl, Row.nil _ _ _ _, Below.refl _ _, .inl rfl⟩
          case round =>
            obtain ⟨k2, hk2, rfl, hrow, hBt, hor⟩ := hrel
            obtain ⟨a21, c21, hf21⟩ := hrow.sl.form
            have hl21 : (D.take k2).length = k2 := by rw [List.length_take, HD.out.2.1]; omega
            rw [hl21] at hf21
            subst hf21
            by_cases hkt : k2 < t
            · have hcx : wr.cell? ⟨b3, o3 + kk + k2, none⟩ = some (.int .u8 (ms.getD k2 0)) := (H7.out.2.1.below hBt).cell k2 hkt
              have hcv : wr.cell? ⟨b5, o5 + k2, none⟩ = some (.int .u8 (Vl.getD k2 0)) := (H7.out.1.below hBt).cell k2 hkt
              have hc5b : t ≤ c5 := H7.out.1.2.1
              have hxu : U8 (ms.getD k2 0) := HL.out.2.2.2.1.at k2
              have hvu : U8 (Vl.getD k2 0) := HL.out.2.1.at k2
              obtain ⟨x, hx⟩ : ∃ x, ms.getD k2 0 = x := ⟨_, rfl⟩
              obtain ⟨v, hv⟩ : ∃ v, Vl.getD k2 0 = v := ⟨_, rfl⟩
              have hxg : (xors ms Vl).getD k2 0 = bits .xor .u8 v x := by rw [xors_get (by rw [HL.out.1, HL.out.2.2.1]) k2 (by rw [HL.out.2.2.1]; exact hkt), hx, hv]
              rw [hx] at hcx hxu
              rw [hv] at hcv hvu
              have HR : Hid (Row .u8 5 w5.heap.size wr (.slice a21 k2 c21) (D.take k2) ∧ Below w5.heap.size w5 wr) := ⟨hrow, hBt⟩
              obtain ⟨y, hy⟩ : ∃ y, bits .xor .u8 x v = y := ⟨_, rfl⟩
              have hyu : U8 y := by rw [← hy]; exact xor_u8 hxu hvu
              have hxg2 : (xors ms Vl).getD k2 0 = y := by rw [hxg, ← hy]; exact xor_comm8 hvu hxu
              have HUy : Hid (0 ≤ y ∧ y < 256) := ⟨hyu.1, hyu.2⟩
              have HUx : Hid (0 ≤ x ∧ x < 256) := ⟨hxu.1, hxu.2⟩
              rcases Nat.eq_zero_or_pos k2 with hk0 | hk0
              · subst hk0
                clear hrow hBt hl21 hxg
                have hcx0 : wr.cell? ⟨b3, o3 + kk, none⟩ = some (.int .u8 x) := by simpa using hcx
                have hcv0 : wr.cell? ⟨b5, o5, none⟩ = some (.int .u8 v) := by simpa using hcv
                clear hcx hcv
                obtain ⟨z, hz9⟩ : ∃ z, y % 2 ^ (8 - sp) = z := ⟨_, rfl⟩
                have hsh2 : y * 2 ^ sp % 256 / 2 ^ sp = z := by rw [← hz9]; exact shl_shr hyu sp hspb
                have HDt : Hid (D.take (0 + 1) = D.take 0 ++ [z]) := by
                  show _ = _
                  have h1 : D.getD 0 0 = z := by rw [← HD.out.1, umS_get0 (by rw [xors_len (by rw [HL.out.1, HL.out.2.2.1]), HL.out.2.2.1]; exact hkt), hxg2]; exact hz9
                  rw [List.take_succ_eq_append_getElem (by rw [HD.out.2.1]; exact hkt)]
                  congr 2
                  rw [List.getD_eq_getElem?_getD, List.getElem?_eq_getElem (by rw [HD.out.2.1]; exact hkt)] at h1
                  simpa using h1
                have HX0 : Hid (ms.getD 0 0 = x) := hx
                clear hx hv hxg2 hz9
                by_cases hz : x / 2 ^ q8 = 0
                · have dz : (x / 2 ^ q8 != 0) = false := by simpa using hz
                  have HZ0 : Hid (ms.getD 0 0 / 2 ^ q8 = 0) := by show _ = _; rw [HX0.out]; exact hz
                  clear hz hor
                  go_wp2_with (at_builtin; refine wpList_ap rfl (.tmp 147) (.tmp 149) 25 25 rfl .u8 5 1 Tryz.und8 Tryz.info8 (by decide) w5.heap.size _ (D.take 0) rfl (HR.out.1.alloc _) _ [z] rfl (src_sl Tryz.und8 (new_sl [z] _)) (by simp) (by have h := HR.out.2.size; simp; omega) ?_; intro v1 w6 hr1 hg1; have H8 : Hid (Row .u8 5 w5.heap.size w6 v1 (D.take 0 ++ [z]) ∧ Below w5.heap.size w5 w6) := ⟨hr1, (Sh.al2 HR.out.2).trans (hg1.below (HR.out.1.alloc _) (by have h := HR.out.2.size; simp; omega))⟩; clear hr1 hg1)
                  go_roundw
                  case rel => exact ⟨1, by omega, by go_num, by have h := HDt.out; simp only [Nat.zero_add] at h; rw [h]; exact H8.out.1, H8.out.2, .inr HZ0.out⟩
                  case measure => simp [intOf]; omega
                · have dz : (x / 2 ^ q8 != 0) = true := by simpa using hz
                  have HF : Hid (112 = V) := by show _ = _; rw [← HP3.out]; exact (if_pos (by rw [HX0.out]; exact hz)).symm
                  clear hz hor
                  go_wp2
                  go_ret
                  exact ⟨by rw [← HF.out]; rfl, below_via H7.out.2.2.2.2 HR.out.2 (Nat.le_refl _)⟩
              · have dk0 : ((k2 : Int) == 0) = false := by simp; omega
                have HDt : Hid (D.take (k2 + 1) = D.take k2 ++ [y]) := by
                  show _ = _
                  have h1 : D.getD k2 0 = y := by rw [← HD.out.1, umS_getS hk0, hxg2]
                  rw [List.take_succ_eq_append_getElem (by rw [HD.out.2.1]; exact hkt)]
                  congr 2
                  rw [List.getD_eq_getElem?_getD, List.getElem?_eq_getElem (by rw [HD.out.2.1]; exact hkt)] at h1
                  simpa using h1
                have HZ0 : Hid (ms.getD 0 0 / 2 ^ q8 = 0) := hor.out.resolve_left (by omega)
                have HLk : Hid (((D.take k2).length + [y].length) * 1 ≤ 140737488355328) := by show _ ≤ _; rw [hl21]; simp; omega
                have hktc : k2 < c3 - kk := by omega
                clear hrow hBt hl21 hxg hx hv hxg2 hor
                go_wp2_with (at_builtin; refine wpList_ap rfl (.tmp 147) (.tmp 149) 25 25 rfl .u8 5 1 Tryz.und8 Tryz.info8 (by decide) w5.heap.size _ (D.take k2) rfl (HR.out.1.alloc _) _ [y] rfl (src_sl Tryz.und8 (new_sl [y] _)) HLk.out (by have h := HR.out.2.size; simp; omega) ?_; intro v1 w6 hr1 hg1; have H8 : Hid (Row .u8 5 w5.heap.size w6 v1 (D.take k2 ++ [y]) ∧ Below w5.heap.size w5 w6) := ⟨hr1, (Sh.al2 HR.out.2).trans (hg1.below (HR.out.1.alloc _) (by have h := HR.out.2.size; simp; omega))⟩; clear hr1 hg1)
                go_roundw
                case rel => exact ⟨k2 + 1, by omega, by go_num, by rw [HDt.out]; exact H8.out.1, H8.out.2, .inr HZ0.out⟩
                case measure => simp [intOf]; omega
            · have hkk : k2 = t := by omega
              subst hkk
              have HZ0 : ms.getD 0 0 / 2 ^ q8 = 0 := hor.out.resolve_left (by have := HTp.out; omega)
              have HP4 : Hid ((if D.take (p + 1) ≠ ahd p then 112 else if Sh.dig alg (List.replicate 8 0 ++ X ++ D.drop (p + 1)) ≠ hsh then 112 else 0) = V) := by show _ = _; rw [← HP3.out]; exact (if_neg (by simpa using HZ0)).symm
              rw [List.take_of_length_le (by rw [HD.out.2.1]; exact Nat.le_refl _)] at hrow
              obtain ⟨b21, o21, rfl, hA21⟩ := at_of hrow.sl HD.out.2.1 (by have := HTp.out; omega)
              obtain ⟨W8, hW8⟩ : ∃ W, W = wr := ⟨_, rfl⟩
              subst hW8
              have H8 : Hid (At W8 b21 o21 k2 c21 D ∧ Below w5.heap.size w5 W8) := ⟨hA21, hBt⟩
              have hc21 : k2 ≤ c21 := hA21.2.1
              have ht2 : p < k2 := by have := HTp.out; omega
              have e29 : (k2 : Int) + 1 - 2 - (s : Int) = (p : Int) := by have := HTp.out; omega
              have e29b : (k2 : Int) - 1 - (s : Int) = (p : Int) := by have := HTp.out; omega
              have e29c : (n1 : Int) + 1 - (za : Int) - 2 - (s : Int) = (p : Int) := by have := HTp.out; omega
              have hpb : p ≤ 1024 := by omega
              clear hrow hBt hA21 hor HZ0 HP3 hl21 hkt hk2
              go_upto_region 31 with (fail)
              go_loopw [27] (fun i wq => ∃ k3 : Nat, k3 ≤ p + 1 ∧ i = .int .i64 k3 ∧ W8 = wq ∧ Hid (D.take k3 = (ahd p).take k3)) (fun i _ => p + 1 - (intOf i).toNat)
              case atStart => exact ⟨0, Nat.zero_le _, rfl, rfl, rfl⟩
              case round =>
                obtain ⟨k3, hk3, rfl, rfl, hpre⟩ := hrel
                by_cases hk3p : k3 ≤ p
                · have hcd : W8.cell? ⟨b21, o21 + k3, none⟩ = some (.int .u8 (D.getD k3 0)) := H8.out.1.cell k3 (by omega)
                  obtain ⟨x, hx⟩ : ∃ x, D.getD k3 0 = x := ⟨_, rfl⟩
                  rw [hx] at hcd
                  have HXg : Hid (D.getD k3 0 = x) := hx
                  have hlD := HD.out.2.1
                  have HTk : Hid (D.take (k3 + 1) = D.take k3 ++ [x]) := by
                    show _ = _
                    rw [List.take_succ_eq_append_getElem (by omega)]
                    congr 2
                    have h1 := hx
                    rw [List.getD_eq_getElem?_getD, List.getElem?_eq_getElem (by omega)] at h1
                    simpa using h1
                  have hk3c : k3 < c21 := by omega
                  have hk3k : k3 < k2 := by omega
                  clear hx hlD
                  rcases Nat.lt_or_ge k3 p with hlt | hge
                  · have da : ((k3 : Int) == (p : Int)) = false := by simp; omega
                    have HAt : Hid ((ahd p).take (k3 + 1) = (ahd p).take k3 ++ [0] ∧ (ahd p).getD k3 0 = 0) := ⟨ahd_take hlt, ahd_get hlt⟩
                    by_cases hx0 : x = 0
                    · subst hx0
                      go_wp2
                      go_roundw
                      case rel => exact ⟨k3 + 1, by omega, by go_num, trivial, by show _ = _; rw [HTk.out, hpre.out, HAt.out.1]⟩
                      case measure => simp [intOf]; omega
                    · have dx : (x != 0) = true := by simpa using hx0
                      have HF : Hid (112 = V) := by
                        show _ = _
                        rw [← HP4.out]
                        refine (if_pos fun h => hx0 ?_).symm
                        have h2 : (D.take (p + 1)).getD k3 0 = (ahd p).getD k3 0 := by rw [h]
                        rw [HAt.out.2] at h2
                        rw [← HXg.out]
                        refine Eq.trans ?_ h2
                        rw [List.getD_eq_getElem?_getD, List.getD_eq_getElem?_getD, List.getElem?_take, if_pos (by omega)]
                      clear hx0
                      go_wp2
                      go_ret
                      exact ⟨by rw [← HF.out]; rfl, below_via H7.out.2.2.2.2 H8.out.2 (Nat.le_refl _)⟩
                  · have hkp : k3 = p := by omega
                    subst hkp
                    have HAt : Hid ((ahd k3).take (k3 + 1) = (ahd k3).take k3 ++ [1] ∧ (ahd k3).getD k3 0 = 1) := ⟨ahd_end k3, ahd_last k3⟩
                    by_cases hx0 : x = 1
                    · subst hx0
                      go_wp2
                      go_roundw
                      case rel => exact ⟨k3 + 1, by omega, by go_num, trivial, by show _ = _; rw [HTk.out, hpre.out, HAt.out.1]⟩
                      case measure => simp [intOf]
                    · have dx : (x != 1) = true := by simpa using hx0
                      have HF : Hid (112 = V) := by
                        show _ = _
                        rw [← HP4.out]
                        refine (if_pos fun h => hx0 ?_).symm
                        have h2 : (D.take (k3 + 1)).getD k3 0 = (ahd k3).getD k3 0 := by rw [h]
                        rw [HAt.out.2] at h2
                        rw [← HXg.out]
                        refine Eq.trans ?_ h2
                        rw [List.getD_eq_getElem?_getD, List.getD_eq_getElem?_getD, List.getElem?_take, if_pos (by omega)]
                      clear hx0
                      go_wp2
                      go_ret
                      exact ⟨by rw [← HF.out]; rfl, below_via H7.out.2.2.2.2 H8.out.2 (Nat.le_refl _)⟩
                · have hk3e : k3 = p + 1 := by omega
                  subst hk3e
                  have HP5 : Hid ((if Sh.dig alg (List.replicate 8 0 ++ X ++ D.drop (p + 1)) ≠ hsh then 112 else 0) = V) := by
                    show _ = _
                    rw [← HP4.out]
                    refine (if_neg ?_).symm
                    have h := hpre.out
                    rw [List.take_of_length_le (l := ahd p) (by rw [ahd_len]; exact Nat.le_refl _)] at h
                    simpa using h
                  clear HP4 hpre hk3 hk3p
                  have hxl := HX.out.2.2.1
                  have hxk := HX.out.2.2.2
                  have hwp : IntKind.i64.wrap ((p : Int) + 1) = (p : Int) + 1 := by rw [IntKind.wrap_i64]; omega
                  have hpI0 : (0 : Int) ≤ (p : Int) + 1 := by omega
                  have hpI1 : (p : Int) + 1 ≤ (k2 : Int) := by omega
                  have hpI2 : (p : Int) + 1 ≤ (c21 : Int) := by omega
                  have hpI3 : ((p : Int) + 1).toNat = p + 1 := by omega
                  have HXs : Hid (∀ W, Below W8.heap.size W8 W → Sl .u8 W (.slice f k g) X) := fun W hW => below_sl (below_via (below_via H7.out.2.2.2.2 H8.out.2 (Nat.le_refl _)) hW (Nat.le_refl _)) HX.out.1
                  obtain ⟨sl, hsl⟩ : ∃ sl, D.drop (p + 1) = sl := ⟨_, rfl⟩
                  have hsll : sl.length ≤ 2048 := by rw [← hsl, List.length_drop, HD.out.2.1]; omega
                  have HDs : Hid (∀ W, Below W8.heap.size W8 W → At W b21 (o21 + (p + 1)) (k2 - (p + 1)) (c21 - (p + 1)) sl) := fun W hW => by rw [← hsl]; exact (H8.out.1.below hW).drop (p + 1) (by omega)
                  have HSu : Hid (U8s sl ∧ sl.length ≤ 2048) := ⟨by rw [← hsl]; exact HD.out.2.2.drop _, hsll⟩
                  rw [hsl] at HP5
                  clear hsl
                  go_upto_region 35 with (fail)
                  obtain ⟨w20, hrun20, hA20, hB20⟩ := mk_run (P := Tryz.prog) W8.drew 25 .u8 5 1 Tryz.und8 Tryz.info8 8 (by decide) (by decide)
                  have hrun8 : Sem.run Tryz.prog (Instr.makeSlice 25 (.int .i64 8) (.int .i64 8)) W8.drew = .ok (.slice (some ⟨W8.heap.size, 0, none⟩) 8 8) w20 := hrun20
                  have hb20 : Below W8.heap.size W8 w20 := below_via (Below.drew (Below.refl _ _)) hB20 (Nat.le_refl _)
                  have hr20 : Row .u8 5 W8.heap.size w20 (.slice (some ⟨W8.heap.size, 0, none⟩) 8 8) (List.replicate 8 0) := Row.arr hA20 (Nat.le_refl _) (by decide)
                  clear hrun20 hA20 hB20
                  have HB1 : ((List.replicate 8 (0 : Int)).length + X.length) * 1 ≤ 140737488355328 := by rw [List.length_replicate]; omega
                  have HB2 : ((List.replicate 8 (0 : Int) ++ X).length + sl.length) * 1 ≤ 140737488355328 := by rw [List.length_append, List.length_replicate]; omega
                  have HAu : Hid (U8s (List.replicate 8 0 ++ X ++ sl) ∧ (List.replicate 8 (0 : Int) ++ X ++ sl).length ≤ 65536) := ⟨fun x hx => by
                    rcases List.mem_append.1 hx with h | h
                    · rcases List.mem_append.1 h with h | h
                      · exact zeros_u8 8 x h
                      · exact HX.out.2.1 x h
                    · exact HSu.out.1 x h, by rw [List.length_append, List.length_append, List.length_replicate]; omega⟩
                  have HDz0 : Hid (0 < Sh.siz alg) := by show 0 < _; rw [HZa.out]; exact HDz.out.1
                  obtain ⟨Q9, hQ9⟩ : ∃ q, decide (Sh.dig alg (List.replicate 8 0 ++ X ++ sl) = hsh) = q := ⟨_, rfl⟩
                  have HQ10 : Hid (decide (Sh.dig alg (List.replicate 8 0 ++ X ++ sl) = hsh) = Q9 ∧ (if Q9 then (0 : Int) else 112) = V) := ⟨hQ9, by rw [← HP5.out, ← hQ9]; simp⟩
                  clear hQ9 HP5
                  by_cases hcp : c21 = p + 1
                  · have hsl0 : sl = [] := List.eq_nil_of_length_eq_zero (by have h := (HDs.out W8 (Below.refl _ _)).1; omega)
                    have hwp2 : IntKind.i64.wrap ((p : Int) + 1) = (c21 : Int) := by rw [hwp]; omega
                    have hkz2 : k2 = c21 := by omega
                    have HEm : Hid (∀ (W : World) (q : Option Addr) (cc : Nat), Sl .u8 W (.slice q 0 cc) sl) := fun W q cc => by rw [hsl0]; exact ⟨q, cc, rfl, Nat.zero_le _, .inl rfl⟩
                    subst hkz2
                    clear hsl0 hcp hwp hpI0 hpI1 hpI2 hpI3 e29 e29b e29c ht2 hc21 hpb
                    go_region_held3 (fun _ => True) (trivial)
                      (first
                      | (replace hr9 := hr9; refine step_ap (by rfl) (.tmp 186) (.tmp 190) 25 25 (by rfl) .u8 5 1 Tryz.und8 Tryz.info8 (by decide) W8.heap.size _ (List.replicate 8 0 ++ X) (by rfl) hr9 _ sl (by rfl) (src_sl Tryz.und8 (HEm.out _ _ _)) HB2 hb9.size ?_; intro v10 w10 hr10 hg10; have hb10 : Below W8.heap.size W8 w10 := hb9.trans (hg10.below hr9 hb9.size))
                      | (refine step_ap (by rfl) (.tmp 184) (.tmp 185) 25 25 (by rfl) .u8 5 1 Tryz.und8 Tryz.info8 (by decide) W8.heap.size _ (List.replicate 8 0) (by rfl) hr20 _ X (by rfl) (src_sl Tryz.und8 (HXs.out _ hb20)) HB1 hb20.size ?_; intro v9 w9 hr9 hg9; have hb9 : Below W8.heap.size W8 w9 := hb20.trans (hg9.below hr20 hb20.size)))
                    have H10 : Hid (Sl .u8 w10 v10 (List.replicate 8 0 ++ X ++ sl) ∧ Below W8.heap.size W8 w10) := ⟨hr10.sl, hb10⟩
                    clear hr9 hg9 hb9 hr10 hg10 hb10 hr20 hb20 hrun8
                    go_wp2_with fail
                    refine (Sh.Digest_ok alg (siz_pos.1 HDz0.out) w10 v10 _ H10.out.1 HAu.out.1 HAu.out.2).mono ?_
                    rintro e w11 ⟨r11, rfl, hr11, hb11⟩
                    have hb811 := below_via H10.out.2 hb11 (Nat.le_refl _)
                    have H11 : Hid (Sl .u8 w11 r11 (Sh.dig alg (List.replicate 8 0 ++ X ++ sl)) ∧ At w11 b3 (o3 + kk + k2) za (c3 - kk - k2) hsh ∧ Below w.heap.size w w11) := ⟨hr11, (H7.out.2.2.1.below H8.out.2).below hb811, below_via (below_via H7.out.2.2.2.2 H8.out.2 (Nat.le_refl _)) hb811 (Nat.le_refl _)⟩
                    clear hr11 hb11 hb811
                    cases Q9 with
                    | true =>
                      go_wp2_with (go_at_call 14; refine (Same8_any _ _ _ _ H11.out.1 H11.out.2.1.sl (by rw [Sh.dig_len]; have := HZa.out; omega) (by have := HL.out; omega) true HQ10.out.1).mono ?_; rintro e w12 ⟨rfl, hb12⟩; have H12 : Hid (Below w.heap.size w w12) := below_via H11.out.2.2 hb12 (Nat.le_refl _); clear hb12)
                      go_ret
                      exact ⟨by rw [← HQ10.out.2]; rfl, H12.out⟩
                    | false =>
                      go_wp2_with (go_at_call 14; refine (Same8_any _ _ _ _ H11.out.1 H11.out.2.1.sl (by rw [Sh.dig_len]; have := HZa.out; omega) (by have := HL.out; omega) false HQ10.out.1).mono ?_; rintro e w12 ⟨rfl, hb12⟩; have H12 : Hid (Below w.heap.size w w12) := below_via H11.out.2.2 hb12 (Nat.le_refl _); clear hb12)
                      go_ret
                      exact ⟨by rw [← HQ10.out.2]; rfl, H12.out⟩
                  · skip
                    go_region_held3 (fun _ => True) (trivial)
                      (first
                      | (replace hr9 := hr9; refine step_ap (by rfl) (.tmp 186) (.tmp 190) 25 25 (by rfl) .u8 5 1 Tryz.und8 Tryz.info8 (by decide) W8.heap.size _ (List.replicate 8 0 ++ X) (by rfl) hr9 _ sl (by rfl) (src_sl Tryz.und8 (HDs.out _ hb9).sl) HB2 hb9.size ?_; intro v10 w10 hr10 hg10; have hb10 : Below W8.heap.size W8 w10 := hb9.trans (hg10.below hr9 hb9.size))
                      | (refine step_ap (by rfl) (.tmp 184) (.tmp 185) 25 25 (by rfl) .u8 5 1 Tryz.und8 Tryz.info8 (by decide) W8.heap.size _ (List.replicate 8 0) (by rfl) hr20 _ X (by rfl) (src_sl Tryz.und8 (HXs.out _ hb20)) HB1 hb20.size ?_; intro v9 w9 hr9 hg9; have hb9 : Below W8.heap.size W8 w9 := hb20.trans (hg9.below hr20 hb20.size)))
                    have H10 : Hid (Sl .u8 w10 v10 (List.replicate 8 0 ++ X ++ sl) ∧ Below W8.heap.size W8 w10) := ⟨hr10.sl, hb10⟩
                    clear hr9 hg9 hb9 hr10 hg10 hb10 hr20 hb20 hrun8
                    go_wp2_with fail
                    refine (Sh.Digest_ok alg (siz_pos.1 HDz0.out) w10 v10 _ H10.out.1 HAu.out.1 HAu.out.2).mono ?_
                    rintro e w11 ⟨r11, rfl, hr11, hb11⟩
                    have hb811 := below_via H10.out.2 hb11 (Nat.le_refl _)
                    have H11 : Hid (Sl .u8 w11 r11 (Sh.dig alg (List.replicate 8 0 ++ X ++ sl)) ∧ At w11 b3 (o3 + kk + k2) za (c3 - kk - k2) hsh ∧ Below w.heap.size w w11) := ⟨hr11, (H7.out.2.2.1.below H8.out.2).below hb811, below_via (below_via H7.out.2.2.2.2 H8.out.2 (Nat.le_refl _)) hb811 (Nat.le_refl _)⟩
                    clear hr11 hb11 hb811
                    cases Q9 with
                    | true =>
                      go_wp2_with (go_at_call 14; refine (Same8_any _ _ _ _ H11.out.1 H11.out.2.1.sl (by rw [Sh.dig_len]; have := HZa.out; omega) (by have := HL.out; omega) true HQ10.out.1).mono ?_; rintro e w12 ⟨rfl, hb12⟩; have H12 : Hid (Below w.heap.size w w12) := below_via H11.out.2.2 hb12 (Nat.le_refl _); clear hb12)
                      go_ret
                      exact ⟨by rw [← HQ10.out.2]; rfl, H12.out⟩
                    | false =>
                      go_wp2_with (go_at_call 14; refine (Same8_any _ _ _ _ H11.out.1 H11.out.2.1.sl (by rw [Sh.dig_len]; have := HZa.out; omega) (by have := HL.out; omega) false HQ10.out.1).mono ?_; rintro e w12 ⟨rfl, hb12⟩; have H12 : Hid (Below w.heap.size w w12) := below_via H11.out.2.2 hb12 (Nat.le_refl _); clear hb12)
                      go_ret
                      exact ⟨by rw [← HQ10.out.2]; rfl, H12.out⟩
        · have dC : (x9 != 188) = true := by simpa using hCC
          have HF : Hid (112 = V) := by show _ = _; rw [← HP2.out]; exact (if_pos (.inr (by rw [HX9.out]; exact hCC))).symm
          clear HP2 hA hBB hCC
          go_wp2
          go_ret
          exact ⟨by rw [← HF.out]; rfl, (H2.out.2.2 _ H5.out.2.1).2⟩
    · have e0 : (E != 0) = true := by simpa using h0
      have HQ2 : Hid (E = V) := by show _ = _; rw [← HQ.out]; exact (if_pos h0).symm
      have H3 : Hid (Below w.heap.size w w3) := (H2.out.2.2 _ hb3).2
      clear HQ h0 hr3 hb3
      go_wp2
      go_ret
      exact ⟨by rw [← HQ2.out]; rfl, H3.out⟩
  · have e1 : ((k : Int) != (za : Int)) = true := by simp; omega
    have HQ : Hid (1 = V) := by show _ = _; rw [← HV.out]; exact (if_pos (.inl (by rw [HDd.out]; simp; omega))).symm
    clear hkz hz0 HV
    go_wp2_with (go_at_call 22; refine (HGa.out _).mono ?_; rintro e w' ⟨rfl, rfl⟩)
    go_ret
    exact ⟨by rw [← HQ.out]; rfl, H2.out.1⟩
end Go.Proofs.YtndoibmpnhkmpaaGreatDoor
