/-
  Rsa: the reference's SignPss. (wip/mky65.py)
-/
import Derived.Test.YtjmiaakfdclfjaaGreatDoorK35
namespace Go.Proofs.YtjmiaakfdclfjaaGreatDoor
open Go.RowKit
set_option maxRecDepth 20000
theorem xors_step {D V S : List Int} {t q : Nat} (hl : V.length = D.length) (ht : D.length = t) (hq : q < t) (hS : S.take t = D) (hc : t ≤ S.length) (uD : U8s D) (uV : U8s V) :
    ((xors D V).take q ++ S.drop q).getD q 0 = D.getD q 0 ∧ ((xors D V).take q ++ S.drop q).set q (bits .xor .u8 (D.getD q 0) (V.getD q 0)) = (xors D V).take (q + 1) ++ S.drop (q + 1) ∧ ((xors D V).take q ++ S.drop q).length = S.length := by
  have hlX : (xors D V).length = t := by rw [xors_len hl, ht]
  have hx := xors_get (M := D) (V := V) hl q (by omega)
  have hSq : S.getD q 0 = D.getD q 0 := by rw [← hS]; simp [List.getD, hq]
  refine ⟨?_, ?_, ?_⟩
  · rw [← hSq, List.getD_eq_getElem?_getD, List.getElem?_append_right (by rw [List.length_take, hlX]; omega), List.length_take, hlX, List.getElem?_drop]
    simp [show min q t = q by omega]
  · rw [xor_comm8 (uD.at q) (uV.at q), ← hx]
    rw [List.set_append_right _ _ (by rw [List.length_take, hlX]; omega), List.length_take, hlX, show q - min q t = 0 by omega, List.drop_eq_getElem_cons (by omega), List.set_cons_zero, List.take_succ_eq_append_getElem (by omega), List.append_assoc]
    congr 1
    simp [List.getD, List.getElem?_eq_getElem (show q < (xors D V).length by omega)]
  · rw [List.length_append, List.length_take, List.length_drop, hlX]; omega
theorem grew_sl {k k2 : IntKind} {e : TypeId} {w w' : World} {b n c : Nat} {ys : List Int} (h : Grew k e w w' (.slice (some ⟨b, 0, none⟩) n c) ys) {b2 m c2 : Nat} {zs : List Int} (hz : Sl k2 w (.slice (some ⟨b2, 0, none⟩) m c2) zs) (hne : b2 ≠ b) : Sl k2 w' (.slice (some ⟨b2, 0, none⟩) m c2) zs := by
  rcases h with h | ⟨b', n', S, h1, _, hU, _⟩
  · exact below_sl h hz
  · simp only [Value.slice.injEq, Option.some.injEq, Addr.mk.injEq, and_true] at h1
    obtain ⟨rfl, _, _⟩ := h1
    obtain ⟨a7, c7, e7, l7, h7⟩ := hz
    refine ⟨a7, c7, e7, l7, ?_⟩
    rcases h7 with h7 | ⟨b7, o7, e8, h8, h9⟩
    · exact .inl h7
    · simp only [Value.slice.injEq] at e7
      have e9 := e7.1.trans e8
      simp only [Option.some.injEq, Addr.mk.injEq] at e9
      obtain ⟨rfl, rfl, _⟩ := e9
      exact .inr ⟨_, _, e8, Nat.lt_of_lt_of_le h8 hU.size, hU.rd h8 h9 hne⟩
theorem psz {w W : World} (h : Below w.heap.size w W) : w.heap.size ≤ W.heap.size := h.size
theorem pal {w W : World} {o : Obj} (h : Below w.heap.size w W) : Below w.heap.size w (W.alloc o) := h.alloc h.size o
theorem top1 {y : Int} (h : U8 y) : y * 2 % 256 / 2 = y % 2 ^ (8 - 1) := by
  have h1 := h.1
  have h2 := h.2
  have e : (2 : Int) ^ (8 - 1) = 128 := by decide
  rw [e]
  omega
set_option maxHeartbeats 8000000 in
theorem SignPss_main {w : World} {nn e d : Nat} (sz : Nat) (hsz : sz = 64 ∨ sz = 96 ∨ sz = 128) (j : Nat) (hj : j < 3) (alg mask : Int) (ta : Option Addr) (tn tc : Nat) (T : List Int) (hT : Sl .u8 w (.slice ta tn tc) T) (uT : U8s T) (lT : T.length = tn) (f : Option Addr) (k g : Nat) (X : List Int) (hX : Sl .u8 w (.slice f k g) X) (uX : U8s X) (lX : X.length = k) (K : KeyG (kN j) (kE j) (kD j) nn e d sz) (h8 : bts (kN j) = 8 * sz) (hA : 0 < Sh.siz alg) (hM : 0 < Sh.siz mask) (hk : k = Sh.siz alg) (hn : Sh.siz alg + T.length + 2 ≤ sz) :
    Calls Tryz.prog 7 #[.int .i64 (j : Nat), .int .i64 alg, .int .i64 mask, .slice ta tn tc, .slice f k g] w fun e w' => ∃ a n c, e = .returned (.slice a n c) ∧ Sl .u8 w' (.slice a n c) (sgS nn d sz (pssE alg mask X T sz)) ∧ Below w.heap.size w w' := by
  have s1 := K.s1
  have lens := K.len
  have HK : Hid (∀ W, Calls Tryz.prog 5 #[.int .i64 (j : Nat)] W fun e w' => KnAns j W e w') := fun W => Known_any j hj
  have HB : Hid (∀ (W : World) (a : Option Addr) (c : Nat), Sl .u32 W (.slice a (kN j).length c) (kN j) → Calls Tryz.prog 18 #[.slice a (kN j).length c] W fun e w' => e = .returned (.int .i64 (8 * sz : Nat)) ∧ Below W.heap.size W w') := fun W a c h => (RBits_any _ (kN j) h K.un (by omega) _ rfl).mono fun e w' h' => by
    have e : bitLen (val (kN j)).toNat = 8 * sz := h8
    rw [e] at h'
    exact h'
  have HZa : Hid (∀ W : World, Calls Tryz.prog 19 #[.int .i64 alg] W fun e w' => e = .returned (.int .i64 (Sh.siz alg : Nat)) ∧ W = w') := fun W => RSize8 alg
  have HZm : Hid (∀ W : World, Calls Tryz.prog 19 #[.int .i64 mask] W fun e w' => e = .returned (.int .i64 (Sh.siz mask : Nat)) ∧ W = w') := fun W => RSize8 mask
  have zl := Sh.siz_le alg
  have HD : Hid (∀ (W : World) (v : Value) (Z : List Int), Sl .u8 W v Z → U8s Z → Z.length ≤ 65536 → Calls Tryz.prog 6 #[.int .i64 alg, v] W fun e w' => ∃ a c, e = .returned (.slice a (Sh.siz alg) c) ∧ Sl .u8 w' (.slice a (Sh.siz alg) c) (Sh.dig alg Z) ∧ Below W.heap.size W w') := fun W v Z h1 h2 h3 => (Sh.Digest_ok alg (siz_pos.1 hA) W _ Z h1 h2 h3).mono fun e w' ⟨r, h4, h5, h6⟩ => by
    obtain ⟨a, c, hr, _⟩ := h5.len
    rw [Sh.dig_len] at hr
    subst hr
    exact ⟨a, c, h4, h5, h6⟩
  have HMk : Hid (∀ (W : World) (va : Option Addr) (vc : Nat) (seed : List Int) (n : Nat), Sl .u8 W (.slice va (Sh.siz alg) vc) seed → U8s seed → seed.length = Sh.siz alg → n ≤ 2048 → Calls Tryz.prog 20 #[.int .i64 mask, .slice va (Sh.siz alg) vc, .int .i64 (n : Nat)] W fun e w' => ∃ r, e = .returned (.tuple #[r, .int .i64 0]) ∧ Sl .u8 w' r (Sh.msk mask seed n) ∧ Below W.heap.size W w') := fun W va vc seed n h1 h2 h3 h4 => RMask_any Sh.Digest_ok mask (siz_pos.1 hM) va _ vc seed h1 h2 h3 (by omega) n h4
  have HT : Hid (∀ W, Below w.heap.size w W → Sl .u8 W (.slice ta tn tc) T) := fun W h => below_sl h hT
  have HX : Hid (∀ W, Below w.heap.size w W → Sl .u8 W (.slice f k g) X) := fun W h => below_sl h hX
  have HU : Hid (U8s X ∧ U8s T ∧ X.length = k ∧ T.length = tn) := ⟨uX, uT, lX, lT⟩
  obtain ⟨h, hh⟩ : ∃ h, Sh.siz alg = h := ⟨_, rfl⟩
  obtain ⟨hm, hhm⟩ : ∃ h, Sh.siz mask = h := ⟨_, rfl⟩
  have HH : Hid (Sh.siz alg = h ∧ Sh.siz mask = hm) := ⟨hh, hhm⟩
  rw [hh] at HZa HD HMk hA hk hn zl
  rw [hhm] at HZm hM
  rw [lT] at hn
  obtain ⟨p, hp⟩ : ∃ p, sz = p + tn + h + 2 := ⟨sz - 2 - h - tn, by omega⟩
  have z1 : ((h : Int) == 0) = false := by simp; omega
  have z2 : (h == 0) = false := by simp; omega
  have z3 : decide (h = 0) = false := by simp; omega
  have y1 : ((hm : Int) == 0) = false := by simp; omega
  have y2 : (hm == 0) = false := by simp; omega
  have y3 : decide (hm = 0) = false := by simp; omega
  subst hk
  have x1 : ((k : Int) != (k : Int)) = false := by simp
  obtain ⟨l1, e1⟩ : ∃ l, (kN j).length = l := ⟨_, rfl⟩
  obtain ⟨l2, e2⟩ : ∃ l, (kE j).length = l := ⟨_, rfl⟩
  obtain ⟨l3, e3⟩ : ∃ l, (kD j).length = l := ⟨_, rfl⟩
  unfold KnAns at HK
  rw [e1, e2, e3] at HK
  rw [e1] at HB
  have HE : Hid ((kN j).length = l1 ∧ (kE j).length = l2) := ⟨e1, e2⟩
  clear hT uT lT hX uX lX hh hhm lens e1 e2 e3
  have HKG : Hid (KeyG (kN j) (kE j) (kD j) nn e d sz) := K
  clear K h8
  have hlt : decide ((sz : Int) < (k : Int) + (tn : Int) + 2) = false := by simp; omega
  have HLT := hlt
  rcases hsz with rfl | rfl | rfl
  · skip
    have HPn : Hid (_ = p + tn + k + 2 ∧ 0 < k ∧ 0 < hm ∧ k ≤ 64) := ⟨hp, hA, hM, zl⟩
    have w1 : IntKind.i64.wrap ((k : Int) + (tn : Int)) = (k : Int) + tn := by rw [IntKind.wrap_i64]; omega
    have w2 : IntKind.i64.wrap ((k : Int) + tn + 2) = (k : Int) + tn + 2 := by rw [IntKind.wrap_i64]; omega
    have hl2 : decide ((64 : Int) < (k : Int) + tn + 2) = false := by simp; omega
    clear hp hA hM zl hn hlt HLT
    go_enter Tryz.func7, Tryz.ntmps7
    go_wp2_with fail
    refine (HK.out _).mono ?_
    rintro e W1 ⟨ka, kc, ea, ec, da, dc, rfl, q1, q2, q3, hb⟩
    have M1 : Hid (Sl .u32 W1 (.slice ka l1 kc) (kN j) ∧ Sl .u32 W1 (.slice ea l2 ec) (kE j) ∧ Sl .u32 W1 (.slice da l3 dc) (kD j) ∧ Below w.heap.size w W1) := ⟨q1, q2, q3, hb⟩
    clear q1 q2 q3 hb HK
    go_upto_region 2 with (fail)
    refine wp_gen (fun W => Below W1.heap.size W1 W ∧ Blk 26 W W1.heap.size [.slice ka l1 kc, .slice ea l2 ec]) ⟨al1 _, Blk.new _ _ _⟩ ?_
    rintro W2 ⟨hb, hB⟩
    obtain ⟨fb, hf⟩ : ∃ x, W1.heap.size = x := ⟨_, rfl⟩
    have M2 : Hid ((Sl .u32 W2 (.slice ka l1 kc) (kN j) ∧ Sl .u32 W2 (.slice ea l2 ec) (kE j) ∧ Sl .u32 W2 (.slice da l3 dc) (kD j)) ∧ Below w.heap.size w W2 ∧ Blk 26 W2 fb [.slice ka l1 kc, .slice ea l2 ec]) := ⟨⟨below_sl hb M1.out.1, below_sl hb M1.out.2.1, below_sl hb M1.out.2.2.1⟩, below_via M1.out.2.2.2 hb (Nat.le_refl _), hf ▸ hB⟩
    rw [hf]
    clear hb hB hf M1
    have p0 : W2.cell? ⟨fb, 0, none⟩ = some (.slice ka l1 kc) := M2.out.2.2.cell 0
    go_wp2_with fail
    refine (HB.out _ _ _ M2.out.1.1).mono ?_
    rintro e W3 ⟨rfl, hb⟩
    have M3 : Hid ((Sl .u32 W3 (.slice ka l1 kc) (kN j) ∧ Sl .u32 W3 (.slice ea l2 ec) (kE j) ∧ Sl .u32 W3 (.slice da l3 dc) (kD j)) ∧ Below w.heap.size w W3 ∧ Blk 26 W3 fb [.slice ka l1 kc, .slice ea l2 ec]) := ⟨⟨below_sl hb M2.out.1.1, below_sl hb M2.out.1.2.1, below_sl hb M2.out.1.2.2⟩, below_via M2.out.2.1 hb (Nat.le_refl _), below_blk hb M2.out.2.2.lt M2.out.2.2⟩
    clear hb p0 M2 HB
    go_upto_region 5 with (go_at_call 19; first | (refine (HZa.out _).mono ?_; rintro e w8 ⟨rfl, rfl⟩) | (refine (HZm.out _).mono ?_; rintro e w9 ⟨rfl, rfl⟩))
    go_upto_region 7 with (go_at_call 19; refine (HZm.out _).mono ?_; rintro e w9 ⟨rfl, rfl⟩)
    have HBo : Hid (X.length ≤ 64 ∧ T.length ≤ 128) := by
      have h1 := HU.out
      have h2 := HPn.out
      exact ⟨by omega, by omega⟩
    go_wp2_with (first
      | (at_make; refine wpList_mk _ rfl _ _ 22 rfl .u8 5 1 Tryz.und8 Tryz.info8 _ 8 rfl rfl rfl (by decide) (by decide) ?_; intro w4 hA4 hB4; have hr4 : Row .u8 5 W3.heap.size w4 (.slice (some ⟨W3.heap.size, 0, none⟩) 8 8) (List.replicate 8 0) := Row.arr hA4 (Nat.le_refl _) (by decide); clear hA4)
      | (replace hr5 := hr5; at_builtin; refine wpList_ap rfl (.tmp 61) (.tmp 62) 22 22 rfl .u8 5 1 Tryz.und8 Tryz.info8 (by decide) W3.heap.size _ (List.replicate 8 0 ++ X) rfl hr5 _ T rfl (src_sl Tryz.und8 (HT.out _ (below_via M3.out.2.1 hb5 (Nat.le_refl _)))) (by have := HBo.out; rw [List.length_append, List.length_replicate]; omega) hb5.size ?_; intro v6 w6 hr6 hg6; have hb6 : Below W3.heap.size W3 w6 := hb5.trans (hg6.below hr5 hb5.size))
      | (at_builtin; refine wpList_ap rfl (.tmp 59) (.tmp 60) 22 22 rfl .u8 5 1 Tryz.und8 Tryz.info8 (by decide) W3.heap.size _ (List.replicate 8 0) rfl hr4 _ X rfl (src_sl Tryz.und8 (HX.out _ (below_via M3.out.2.1 hB4 (Nat.le_refl _)))) (by have := HBo.out; rw [List.length_replicate]; omega) hB4.size ?_; intro v5 w5 hr5 hg5; have hb5 : Below W3.heap.size W3 w5 := hB4.trans (hg5.below hr4 hB4.size)))
    have H6 : Hid (Sl .u8 w6 v6 (List.replicate 8 0 ++ X ++ T) ∧ Below W3.heap.size W3 w6) := ⟨hr6.sl, hb6⟩
    clear hr4 hB4 hr5 hg5 hb5 hr6 hg6 hb6
    refine (HD.out _ v6 _ H6.out.1 (fun x hx => by
      rcases List.mem_append.1 hx with h | h
      · rcases List.mem_append.1 h with h | h
        · exact zeros_u8 8 x h
        · exact HU.out.1 x h
      · exact HU.out.2.1 x h) (by have := HBo.out; rw [List.length_append, List.length_append, List.length_replicate]; omega)).mono ?_
    rintro e W4 ⟨ha, hc, rfl, hd4, hb4⟩
    obtain ⟨H, hH⟩ : ∃ H, Sh.dig alg (List.replicate 8 0 ++ X ++ T) = H := ⟨_, rfl⟩
    rw [hH] at hd4
    have hb34 : Below W3.heap.size W3 W4 := below_via H6.out.2 hb4 (Nat.le_refl _)
    have M4 : Hid ((Sl .u32 W4 (.slice ka l1 kc) (kN j) ∧ Sl .u32 W4 (.slice ea l2 ec) (kE j) ∧ Sl .u32 W4 (.slice da l3 dc) (kD j)) ∧ Below w.heap.size w W4 ∧ Blk 26 W4 fb [.slice ka l1 kc, .slice ea l2 ec] ∧ Sl .u8 W4 (.slice ha k hc) H) := ⟨⟨below_sl hb34 M3.out.1.1, below_sl hb34 M3.out.1.2.1, below_sl hb34 M3.out.1.2.2⟩, below_via M3.out.2.1 hb34 (Nat.le_refl _), below_blk hb34 M3.out.2.2.lt M3.out.2.2, hd4⟩
    have HHs : Hid (Sh.dig alg (List.replicate 8 0 ++ X ++ T) = H) := hH
    clear hH hd4 hb4 hb34 H6 M3 HD
    have v1 : IntKind.i64.wrap ((64 : Int) - (k : Int)) = 64 - (k : Int) := by have := HPn.out; rw [IntKind.wrap_i64]; omega
    have v2 : IntKind.i64.wrap ((64 : Int) - (k : Int) - 2) = 64 - (k : Int) - 2 := by have := HPn.out; rw [IntKind.wrap_i64]; omega
    have v3 : IntKind.i64.wrap ((64 : Int) - (k : Int) - 2 - (tn : Int)) = (p : Int) := by have := HPn.out; rw [IntKind.wrap_i64]; omega
    have HPb : Hid (p ≤ 128 ∧ tn ≤ 128) := by have := HPn.out; exact ⟨by omega, by omega⟩
    go_upto_region 10 with (first
      | (at_make; refine wpList_mk _ rfl _ _ 22 rfl .u8 5 1 Tryz.und8 Tryz.info8 _ p rfl rfl rfl (by have := HPb.out; omega) (by have := HPb.out; omega) ?_; intro w7 hA7 hB7; have hr7 : Row .u8 5 W4.heap.size w7 (.slice (some ⟨W4.heap.size, 0, none⟩) p p) (List.replicate p 0) := (by have h := Row.arr hA7 (Nat.le_refl _) (by have := HPb.out; rw [List.length_replicate]; unfold maxLen; omega); rw [List.length_replicate] at h; exact h); clear hA7)
      | (replace hr8 := hr8; at_builtin; refine wpList_ap rfl (.tmp 75) (.tmp 76) 22 22 rfl .u8 5 1 Tryz.und8 Tryz.info8 (by decide) W4.heap.size _ (List.replicate p 0 ++ [1]) rfl hr8 _ T rfl (src_sl Tryz.und8 (HT.out _ (below_via M4.out.2.1 hb8 (Nat.le_refl _)))) (by have := HBo.out; have := HPb.out; rw [List.length_append, List.length_replicate]; simp; omega) hb8.size ?_; intro v9 w9 hr9 hg9; have hb9 : Below W4.heap.size W4 w9 := hb8.trans (hg9.below hr8 hb8.size))
      | (at_builtin; refine wpList_ap rfl (.tmp 73) (.tmp 74) 22 22 rfl .u8 5 1 Tryz.und8 Tryz.info8 (by decide) W4.heap.size _ (List.replicate p 0) rfl (hr7.alloc _) _ [1] rfl (src_sl Tryz.und8 (new_sl [1] _)) (by have := HPb.out; rw [List.length_replicate]; simp; omega) (by have h := hB7.size; simp; omega) ?_; intro v8 w8 hr8 hg8; have hb8 : Below W4.heap.size W4 w8 := (below_via hB7 (al1 _) (Nat.le_refl _)).trans (hg8.below (hr7.alloc _) (by have h := hB7.size; simp; omega))))
    obtain ⟨DB, hDB⟩ : ∃ D, List.replicate p 0 ++ [1] ++ T = D := ⟨_, rfl⟩
    obtain ⟨t, ht⟩ : ∃ t, p + 1 + tn = t := ⟨_, rfl⟩
    have HDB : Hid (ahd p ++ T = DB ∧ DB.length = t ∧ U8s DB ∧ p + 1 + tn = t ∧ 0 < t ∧ t ≤ 128 ∧ t + k + 1 = 64) := by
      have h1 := HU.out
      have h2 := HPn.out
      have h3 : DB.length = t := by rw [← hDB, ← ht, List.length_append, List.length_append, List.length_replicate, h1.2.2.2]; rfl
      exact ⟨hDB, h3, by rw [← hDB]; exact fun x hx => (List.mem_append.1 hx).elim (ahd_u8 p x) (h1.2.1 x), ht, by omega, by omega, by omega⟩
    rw [hDB] at hr9
    obtain ⟨b, S, rfl, hBb, hA9, hnS, hSt, hSm⟩ := hr9.open t HDB.out.2.1 HDB.out.2.2.2.2.1
    obtain ⟨c9, hc9⟩ : ∃ c, S.length = c := ⟨_, rfl⟩
    have H9 : Hid (W4.heap.size ≤ b ∧ Arr .u8 5 w9 b S ∧ S.take t = DB ∧ S.length ≤ maxLen ∧ Below W4.heap.size W4 w9 ∧ S.length = c9 ∧ t ≤ c9) := ⟨hBb, hA9, hSt, hSm, hb9, hc9, hc9 ▸ hnS⟩
    rw [hc9]
    clear hr9 hg9 hb9 hr8 hg8 hb8 hr7 hB7 hBb hA9 hnS hSt hSm hc9 hDB ht v1 v2 v3
    have HHl : Hid (U8s H ∧ H.length = k) := by rw [← HHs.out]; exact ⟨fun x hx => Sh.out_u8 _ _ x hx, (Sh.dig_len _ _).trans HH.out.1⟩
    have HMw : Hid (Calls Tryz.prog 20 #[.int .i64 mask, .slice ha k hc, .int .i64 (t : Nat)] w9 fun e w' => ∃ b c, e = .returned (.tuple #[.slice (some ⟨b, 0, none⟩) t c, .int .i64 0]) ∧ w9.heap.size ≤ b ∧ Sl .u8 w' (.slice (some ⟨b, 0, none⟩) t c) (Sh.msk mask H t) ∧ Below w9.heap.size w9 w') := by
      have h1 := HDB.out
      have h2 := HPn.out
      exact RMask_new Sh.Digest_ok mask (siz_pos.1 (by have := HH.out.2; omega)) ha k hc H (below_sl H9.out.2.2.2.2.1 M4.out.2.2.2) HHl.out.1 HHl.out.2 (by omega) t (by omega) (by omega)
    obtain ⟨V, hV⟩ : ∃ V, Sh.msk mask H t = V := ⟨_, rfl⟩
    have HV : Hid (Sh.msk mask H t = V ∧ V.length = t ∧ U8s V) := ⟨hV, by rw [← hV]; exact msk_len (by have := HH.out.2; have := HPn.out; omega), by rw [← hV]; exact msk_u8⟩
    rw [hV] at HMw
    clear hV HMk
    go_upto_region 11 with (go_at_call 20; refine HMw.out.mono ?_; rintro e W10 ⟨bv, cv, rfl, hbv, hsv, hb10⟩)
    have H10 : Hid (w9.heap.size ≤ bv ∧ Sl .u8 W10 (.slice (some ⟨bv, 0, none⟩) t cv) V ∧ Below w9.heap.size w9 W10 ∧ Arr .u8 5 W10 b S ∧ b < w9.heap.size) := ⟨hbv, hsv, hb10, below_arr hb10 H9.out.2.1.lt H9.out.2.1, H9.out.2.1.lt⟩
    clear hbv hsv hb10 HMw
    go_wp2_with fail
    go_loopw [20] (fun i wr => ∃ q : Nat, q ≤ t ∧ i = .int .i64 q ∧ Arr .u8 5 wr b ((xors DB V).take q ++ S.drop q) ∧ Upd W10 wr b) (fun i _ => t - (intOf i).toNat)
    case atStart => exact ⟨0, Nat.zero_le _, rfl, by simpa using H10.out.2.2.2.1, Upd.refl _ _⟩
    case round =>
      obtain ⟨q, hq, rfl, hA, hU⟩ := hrel
      by_cases hqt : q < t
      · obtain ⟨g1, g2, g3⟩ := xors_step (D := DB) (V := V) (S := S) (t := t) (q := q) (by rw [HV.out.2.1, HDB.out.2.1]) HDB.out.2.1 hqt H9.out.2.2.1 (by have := H9.out; omega) HDB.out.2.2.1 HV.out.2.2
        have hcd : wr.cell? ⟨b, q, none⟩ = some (.int .u8 (DB.getD q 0)) := by rw [hA.cell q (by have := H9.out; omega), g1]
        have hfr := hA.frozen q
        have hcv : wr.cell? ⟨bv, q, none⟩ = some (.int .u8 (V.getD q 0)) := by
          obtain ⟨a7, c7, e7, _, h7⟩ := H10.out.2.1
          rcases h7 with h7 | ⟨b7, o7, e8, h8, h9⟩
          · exfalso; have h1 := HV.out.2.1; rw [h7] at h1; simp at h1; omega
          · simp only [Value.slice.injEq] at e7
            have e9 := e7.1.trans e8
            simp only [Option.some.injEq, Addr.mk.injEq] at e9
            obtain ⟨rfl, rfl, _⟩ := e9
            have h3 := hU.rd h8 h9 (by have := H10.out; omega) q (by rw [HV.out.2.1]; exact hqt)
            simpa using h3
        obtain ⟨v, hv⟩ : ∃ v, V.getD q 0 = v := ⟨_, rfl⟩
        obtain ⟨m, hm'⟩ : ∃ m, DB.getD q 0 = m := ⟨_, rfl⟩
        rw [hv] at hcv g2
        rw [hm'] at hcd g2
        have HN : Hid (∀ u, Arr .u8 5 ((wr.drewN u).setCell ⟨b, q, none⟩ (.int .u8 (bits .xor .u8 m v))) b ((xors DB V).take (q + 1) ++ S.drop (q + 1)) ∧ Upd W10 ((wr.drewN u).setCell ⟨b, q, none⟩ (.int .u8 (bits .xor .u8 m v))) b) := fun u => ⟨by rw [← g2]; exact (show Arr .u8 5 (wr.drewN u) b _ from hA).set q _, (hU.drewN u).trans (Upd.set _ b q _)⟩
        have hqc : q < c9 := by have := H9.out; omega
        have ht8 : t ≤ 128 := HDB.out.2.2.2.2.2.1
        clear hA hU g1 g2 g3 hv hm'
        go_upto_region 14 with (fail)
        refine wp_region_qsd 12 (by kernel_rfl) (by kernel_rfl) ?_
        simp only [List.take_succ_cons, List.take_zero, List.drop_succ_cons, List.drop_zero]
        repeat (go_big_quiet_step (fail))
        refine wpQuiet_nil ?_
        rintro _ ⟨u, rfl⟩
        go_wp2
        go_roundw
        case rel => exact ⟨q + 1, by omega, by go_num, (HN.out u).1, (HN.out u).2⟩
        case measure => simp [intOf]; omega
      · have hqq : t = q := by omega
        subst hqq
        have hlX : (xors DB V).length = t := by rw [xors_len (by rw [HV.out.2.1, HDB.out.2.1]), HDB.out.2.1]
        rw [List.take_of_length_le (by omega)] at hA
        have ht0 : 0 < t := HDB.out.2.2.2.2.1
        obtain ⟨y, r, hyr⟩ : ∃ y r, xors DB V = y :: r := by
          cases hx : xors DB V with
          | nil => rw [hx] at hlX; simp at hlX; omega
          | cons y r => exact ⟨y, r, rfl⟩
        have hy8 : U8 y := xors_u8 HDB.out.2.2.1 HV.out.2.2 y (by rw [hyr]; simp)
        rw [hyr] at hA
        have hcy : wr.cell? ⟨b, 0, none⟩ = some (.int .u8 y) := by have := hA.cell 0 (by simp); simpa using this
        have hfr := hA.frozen 0
        have HN : Hid (Row .u8 5 W4.heap.size (wr.setCell ⟨b, 0, none⟩ (.int .u8 (y % 2 ^ (8 - 1)))) (.slice (some ⟨b, 0, none⟩) t c9) (umS DB V 1) ∧ Below W4.heap.size W4 (wr.setCell ⟨b, 0, none⟩ (.int .u8 (y % 2 ^ (8 - 1)))) ∧ (umS DB V 1).length = t ∧ U8s (umS DB V 1)) := by
          have h2 := hA.set 0 (y % 2 ^ (8 - 1))
          have h9 := H9.out
          have hl : (umS DB V 1).length = t := by rw [umS_len (by rw [HV.out.2.1, HDB.out.2.1]), HDB.out.2.1]
          have e : (y :: r ++ S.drop t).set 0 (y % 2 ^ (8 - 1)) = umS DB V 1 ++ S.drop t := by unfold umS; rw [hyr]; rfl
          rw [e] at h2
          have e2 : (umS DB V 1 ++ S.drop t).length = c9 := by rw [List.length_append, hl, List.length_drop]; omega
          refine ⟨.inr ⟨b, umS DB V 1 ++ S.drop t, by rw [hl, e2], h9.1, h2, by rw [hl, e2]; exact h9.2.2.2.2.2.2, by rw [List.take_left], by omega⟩, ?_, hl, umS_u8 HDB.out.2.2.1 HV.out.2.2⟩
          exact (hU.trans (Upd.set wr b 0 _)).below (below_via h9.2.2.2.2.1 H10.out.2.2.1 (Nat.le_refl _)) (below_via h9.2.2.2.2.1 H10.out.2.2.1 (Nat.le_refl _)).size h9.1
        have HT1 : Hid (y * 2 % 256 / 2 = y % 2 ^ (8 - 1)) := top1 hy8
        have htc : t ≤ c9 := H9.out.2.2.2.2.2.2
        have ht8 : t ≤ 128 := HDB.out.2.2.2.2.2.1
        have hUs := hU.size
        clear hA hU hlX hyr
        go_upto_region 17 with (fail)
        rw [HT1.out]
        have hbl : b < wr.heap.size := by have := H10.out; have := H10.out.2.2.1.size; have := hUs; omega
        refine wp_gen (fun W => Row .u8 5 W4.heap.size W (.slice (some ⟨b, 0, none⟩) t c9) (umS DB V 1) ∧ Below W4.heap.size W4 W ∧ b < W.heap.size) ⟨HN.out.1, HN.out.2.1, by simpa using hbl⟩ ?_
        rintro W11 ⟨hr11, hb11, hbl11⟩
        obtain ⟨M, hM⟩ : ∃ M, umS DB V 1 = M := ⟨_, rfl⟩
        have HM : Hid (umS DB V 1 = M ∧ M.length = t ∧ U8s M) := ⟨hM, by rw [← hM]; exact HN.out.2.2⟩
        rw [hM] at hr11
        clear hM HN hbl hcy hfr hy8 HT1
        have HC : Hid (∀ W, Below W4.heap.size W4 W → Below W4.heap.size W4 W ∧ W.cell? ⟨fb, 0, none⟩ = some (.slice ka l1 kc) ∧ W.cell? ⟨fb, 1, none⟩ = some (.slice ea l2 ec)) := fun W h => ⟨h, (below_blk h M4.out.2.2.1.lt M4.out.2.2.1).cell 0, (below_blk h M4.out.2.2.1.lt M4.out.2.2.1).cell 1⟩
        have HHw : Hid (∀ W, Below W4.heap.size W4 W → Sl .u8 W (.slice ha k hc) H) := fun W h => below_sl h M4.out.2.2.2
        have HB1 : (M.length + H.length) * 1 ≤ 140737488355328 := by have := HM.out.2.1; have := HHl.out.2; have := HDB.out; omega
        have HB2 : ((M ++ H).length + [(188 : Int)].length) * 1 ≤ 140737488355328 := by rw [List.length_append]; have := HM.out.2.1; have := HHl.out.2; have := HDB.out; simp; omega
        have HW : Hid (∀ (W : World) (vz : Value), Below W4.heap.size W4 W → Sl .u8 W vz (M ++ H ++ [188]) → Calls Tryz.prog 21 #[.agg #[.slice ka l1 kc, .slice ea l2 ec], .slice da l3 dc, vz] W fun e' w' => ∃ a n c, e' = .returned (.slice a n c) ∧ Sl .u8 w' (.slice a n c) (sgS nn d 64 (M ++ H ++ [188])) ∧ Below W.heap.size W w') := fun W vz h0 h1 => (power_any HKG.out ka ea l1 kc l2 ec (below_sl h0 M4.out.1.1) HE.out.1 (below_sl h0 M4.out.1.2.1) HE.out.2 _ (below_sl h0 M4.out.1.2.2) vz _ h1 (fun x hx => by
            rcases List.mem_append.1 hx with h | h
            · exact (List.mem_append.1 h).elim (HM.out.2.2 x) (HHl.out.1 x)
            · simp at h; subst h; exact ⟨by decide, by decide⟩) (by rw [List.length_append, List.length_append, HM.out.2.1, HHl.out.2]; have := HDB.out; simp; omega)).mono fun e' w' ⟨r, h5, h6, h7⟩ => by
          obtain ⟨a, c, rfl⟩ := h6.form
          exact ⟨a, _, c, h5, h6, h7⟩
        have HF : Hid (M ++ H ++ [188] = pssE alg mask X T 64) := by
          show _ = _
          have h2 := HPn.out
          have h3 := HDB.out
          unfold pssE
          rw [HHs.out, HH.out.1, HU.out.2.2.2, show 64 - 2 - k - tn = p by omega, show 64 - 1 - k = t by omega, HDB.out.1, HV.out.1, HM.out.1, List.append_assoc]
        have hne : W11.heap.size ≠ b := by omega
        go_region_held3 (fun W => Below W4.heap.size W4 W ∧ W.cell? ⟨fb, 0, none⟩ = some (.slice ka l1 kc) ∧ W.cell? ⟨fb, 1, none⟩ = some (.slice ea l2 ec)) (first | exact HC.out _ (below_via (And.left (by assumption)) hb14 (Nat.le_refl _)) | exact HC.out _ (Below.drew hb11) | exact HC.out _ (pal (And.left (by assumption))) | exact HC.out _ (Below.trans (And.left (by assumption)) (by assumption)))
          (first
          | (replace hr13 := hr13; go_at_call 21; refine (HW.out _ _ (And.left (by assumption)) hr13.sl).mono ?_; rintro e14 w14 ⟨a14, n14, c14, rfl, hs14, hb14⟩)
          | (replace hr12 := hr12; refine step_ap rfl (.tmp 121) (.tmp 122) 22 22 rfl .u8 5 1 Tryz.und8 Tryz.info8 (by decide) W4.heap.size _ (M ++ H) (by rfl) (by first | exact hr12 | exact hr12.alloc _) _ [188] (by rfl) (src_sl Tryz.und8 (by first | exact new_sl (k := .u8) [188] _ | exact grew_sl hg12 (new_sl (k := .u8) [188] _) hne)) HB2 (psz (And.left (by assumption))) ?_; intro v13 w13 hr13 hg13; have hb13 := hg13.below (B := W4.heap.size) (xs := M ++ H) (by first | exact hr12 | exact hr12.alloc _) (psz (And.left (by assumption))))
          | (refine step_ap rfl (.tmp 119) (.tmp 120) 22 22 rfl .u8 5 1 Tryz.und8 Tryz.info8 (by decide) W4.heap.size _ M (by rfl) (by first | exact hr11 | exact hr11.alloc _) _ H (by rfl) (src_sl Tryz.und8 (HHw.out _ (And.left (by assumption)))) HB1 (psz (And.left (by assumption))) ?_; intro v12 w12 hr12 hg12; have hb12 := hg12.below (B := W4.heap.size) (xs := M) (by first | exact hr11 | exact hr11.alloc _) (psz (And.left (by assumption)))))
        all_goals
          have h414 : Below W4.heap.size W4 w14 := And.left (by assumption)
          have H14 : Hid (Sl .u8 w14 (.slice a14 n14 c14) (sgS nn d 64 (pssE alg mask X T 64)) ∧ Below w.heap.size w w14) := ⟨by rw [← HF.out]; exact hs14, below_via M4.out.2.1 h414 (Nat.le_refl _)⟩
          clear hs14 hb14 hb13 hr13 hg13 hb12 hr12 hg12 hr11 hb11
          go_wp2
          go_ret
          exact ⟨_, _, _, rfl, H14.out.1, H14.out.2⟩
  · skip
    have HPn : Hid (_ = p + tn + k + 2 ∧ 0 < k ∧ 0 < hm ∧ k ≤ 64) := ⟨hp, hA, hM, zl⟩
    have w1 : IntKind.i64.wrap ((k : Int) + (tn : Int)) = (k : Int) + tn := by rw [IntKind.wrap_i64]; omega
    have w2 : IntKind.i64.wrap ((k : Int) + tn + 2) = (k : Int) + tn + 2 := by rw [IntKind.wrap_i64]; omega
    have hl2 : decide ((96 : Int) < (k : Int) + tn + 2) = false := by simp; omega
    clear hp hA hM zl hn hlt HLT
    go_enter Tryz.func7, Tryz.ntmps7
    go_wp2_with fail
    refine (HK.out _).mono ?_
    rintro e W1 ⟨ka, kc, ea, ec, da, dc, rfl, q1, q2, q3, hb⟩
    have M1 : Hid (Sl .u32 W1 (.slice ka l1 kc) (kN j) ∧ Sl .u32 W1 (.slice ea l2 ec) (kE j) ∧ Sl .u32 W1 (.slice da l3 dc) (kD j) ∧ Below w.heap.size w W1) := ⟨q1, q2, q3, hb⟩
    clear q1 q2 q3 hb HK
    go_upto_region 2 with (fail)
    refine wp_gen (fun W => Below W1.heap.size W1 W ∧ Blk 26 W W1.heap.size [.slice ka l1 kc, .slice ea l2 ec]) ⟨al1 _, Blk.new _ _ _⟩ ?_
    rintro W2 ⟨hb, hB⟩
    obtain ⟨fb, hf⟩ : ∃ x, W1.heap.size = x := ⟨_, rfl⟩
    have M2 : Hid ((Sl .u32 W2 (.slice ka l1 kc) (kN j) ∧ Sl .u32 W2 (.slice ea l2 ec) (kE j) ∧ Sl .u32 W2 (.slice da l3 dc) (kD j)) ∧ Below w.heap.size w W2 ∧ Blk 26 W2 fb [.slice ka l1 kc, .slice ea l2 ec]) := ⟨⟨below_sl hb M1.out.1, below_sl hb M1.out.2.1, below_sl hb M1.out.2.2.1⟩, below_via M1.out.2.2.2 hb (Nat.le_refl _), hf ▸ hB⟩
    rw [hf]
    clear hb hB hf M1
    have p0 : W2.cell? ⟨fb, 0, none⟩ = some (.slice ka l1 kc) := M2.out.2.2.cell 0
    go_wp2_with fail
    refine (HB.out _ _ _ M2.out.1.1).mono ?_
    rintro e W3 ⟨rfl, hb⟩
    have M3 : Hid ((Sl .u32 W3 (.slice ka l1 kc) (kN j) ∧ Sl .u32 W3 (.slice ea l2 ec) (kE j) ∧ Sl .u32 W3 (.slice da l3 dc) (kD j)) ∧ Below w.heap.size w W3 ∧ Blk 26 W3 fb [.slice ka l1 kc, .slice ea l2 ec]) := ⟨⟨below_sl hb M2.out.1.1, below_sl hb M2.out.1.2.1, below_sl hb M2.out.1.2.2⟩, below_via M2.out.2.1 hb (Nat.le_refl _), below_blk hb M2.out.2.2.lt M2.out.2.2⟩
    clear hb p0 M2 HB
    go_upto_region 5 with (go_at_call 19; first | (refine (HZa.out _).mono ?_; rintro e w8 ⟨rfl, rfl⟩) | (refine (HZm.out _).mono ?_; rintro e w9 ⟨rfl, rfl⟩))
    go_upto_region 7 with (go_at_call 19; refine (HZm.out _).mono ?_; rintro e w9 ⟨rfl, rfl⟩)
    have HBo : Hid (X.length ≤ 64 ∧ T.length ≤ 128) := by
      have h1 := HU.out
      have h2 := HPn.out
      exact ⟨by omega, by omega⟩
    go_wp2_with (first
      | (at_make; refine wpList_mk _ rfl _ _ 22 rfl .u8 5 1 Tryz.und8 Tryz.info8 _ 8 rfl rfl rfl (by decide) (by decide) ?_; intro w4 hA4 hB4; have hr4 : Row .u8 5 W3.heap.size w4 (.slice (some ⟨W3.heap.size, 0, none⟩) 8 8) (List.replicate 8 0) := Row.arr hA4 (Nat.le_refl _) (by decide); clear hA4)
      | (replace hr5 := hr5; at_builtin; refine wpList_ap rfl (.tmp 61) (.tmp 62) 22 22 rfl .u8 5 1 Tryz.und8 Tryz.info8 (by decide) W3.heap.size _ (List.replicate 8 0 ++ X) rfl hr5 _ T rfl (src_sl Tryz.und8 (HT.out _ (below_via M3.out.2.1 hb5 (Nat.le_refl _)))) (by have := HBo.out; rw [List.length_append, List.length_replicate]; omega) hb5.size ?_; intro v6 w6 hr6 hg6; have hb6 : Below W3.heap.size W3 w6 := hb5.trans (hg6.below hr5 hb5.size))
      | (at_builtin; refine wpList_ap rfl (.tmp 59) (.tmp 60) 22 22 rfl .u8 5 1 Tryz.und8 Tryz.info8 (by decide) W3.heap.size _ (List.replicate 8 0) rfl hr4 _ X rfl (src_sl Tryz.und8 (HX.out _ (below_via M3.out.2.1 hB4 (Nat.le_refl _)))) (by have := HBo.out; rw [List.length_replicate]; omega) hB4.size ?_; intro v5 w5 hr5 hg5; have hb5 : Below W3.heap.size W3 w5 := hB4.trans (hg5.below hr4 hB4.size)))
    have H6 : Hid (Sl .u8 w6 v6 (List.replicate 8 0 ++ X ++ T) ∧ Below W3.heap.size W3 w6) := ⟨hr6.sl, hb6⟩
    clear hr4 hB4 hr5 hg5 hb5 hr6 hg6 hb6
    refine (HD.out _ v6 _ H6.out.1 (fun x hx => by
      rcases List.mem_append.1 hx with h | h
      · rcases List.mem_append.1 h with h | h
        · exact zeros_u8 8 x h
        · exact HU.out.1 x h
      · exact HU.out.2.1 x h) (by have := HBo.out; rw [List.length_append, List.length_append, List.length_replicate]; omega)).mono ?_
    rintro e W4 ⟨ha, hc, rfl, hd4, hb4⟩
    obtain ⟨H, hH⟩ : ∃ H, Sh.dig alg (List.replicate 8 0 ++ X ++ T) = H := ⟨_, rfl⟩
    rw [hH] at hd4
    have hb34 : Below W3.heap.size W3 W4 := below_via H6.out.2 hb4 (Nat.le_refl _)
    have M4 : Hid ((Sl .u32 W4 (.slice ka l1 kc) (kN j) ∧ Sl .u32 W4 (.slice ea l2 ec) (kE j) ∧ Sl .u32 W4 (.slice da l3 dc) (kD j)) ∧ Below w.heap.size w W4 ∧ Blk 26 W4 fb [.slice ka l1 kc, .slice ea l2 ec] ∧ Sl .u8 W4 (.slice ha k hc) H) := ⟨⟨below_sl hb34 M3.out.1.1, below_sl hb34 M3.out.1.2.1, below_sl hb34 M3.out.1.2.2⟩, below_via M3.out.2.1 hb34 (Nat.le_refl _), below_blk hb34 M3.out.2.2.lt M3.out.2.2, hd4⟩
    have HHs : Hid (Sh.dig alg (List.replicate 8 0 ++ X ++ T) = H) := hH
    clear hH hd4 hb4 hb34 H6 M3 HD
    have v1 : IntKind.i64.wrap ((96 : Int) - (k : Int)) = 96 - (k : Int) := by have := HPn.out; rw [IntKind.wrap_i64]; omega
    have v2 : IntKind.i64.wrap ((96 : Int) - (k : Int) - 2) = 96 - (k : Int) - 2 := by have := HPn.out; rw [IntKind.wrap_i64]; omega
    have v3 : IntKind.i64.wrap ((96 : Int) - (k : Int) - 2 - (tn : Int)) = (p : Int) := by have := HPn.out; rw [IntKind.wrap_i64]; omega
    have HPb : Hid (p ≤ 128 ∧ tn ≤ 128) := by have := HPn.out; exact ⟨by omega, by omega⟩
    go_upto_region 10 with (first
      | (at_make; refine wpList_mk _ rfl _ _ 22 rfl .u8 5 1 Tryz.und8 Tryz.info8 _ p rfl rfl rfl (by have := HPb.out; omega) (by have := HPb.out; omega) ?_; intro w7 hA7 hB7; have hr7 : Row .u8 5 W4.heap.size w7 (.slice (some ⟨W4.heap.size, 0, none⟩) p p) (List.replicate p 0) := (by have h := Row.arr hA7 (Nat.le_refl _) (by have := HPb.out; rw [List.length_replicate]; unfold maxLen; omega); rw [List.length_replicate] at h; exact h); clear hA7)
      | (replace hr8 := hr8; at_builtin; refine wpList_ap rfl (.tmp 75) (.tmp 76) 22 22 rfl .u8 5 1 Tryz.und8 Tryz.info8 (by decide) W4.heap.size _ (List.replicate p 0 ++ [1]) rfl hr8 _ T rfl (src_sl Tryz.und8 (HT.out _ (below_via M4.out.2.1 hb8 (Nat.le_refl _)))) (by have := HBo.out; have := HPb.out; rw [List.length_append, List.length_replicate]; simp; omega) hb8.size ?_; intro v9 w9 hr9 hg9; have hb9 : Below W4.heap.size W4 w9 := hb8.trans (hg9.below hr8 hb8.size))
      | (at_builtin; refine wpList_ap rfl (.tmp 73) (.tmp 74) 22 22 rfl .u8 5 1 Tryz.und8 Tryz.info8 (by decide) W4.heap.size _ (List.replicate p 0) rfl (hr7.alloc _) _ [1] rfl (src_sl Tryz.und8 (new_sl [1] _)) (by have := HPb.out; rw [List.length_replicate]; simp; omega) (by have h := hB7.size; simp; omega) ?_; intro v8 w8 hr8 hg8; have hb8 : Below W4.heap.size W4 w8 := (below_via hB7 (al1 _) (Nat.le_refl _)).trans (hg8.below (hr7.alloc _) (by have h := hB7.size; simp; omega))))
    obtain ⟨DB, hDB⟩ : ∃ D, List.replicate p 0 ++ [1] ++ T = D := ⟨_, rfl⟩
    obtain ⟨t, ht⟩ : ∃ t, p + 1 + tn = t := ⟨_, rfl⟩
    have HDB : Hid (ahd p ++ T = DB ∧ DB.length = t ∧ U8s DB ∧ p + 1 + tn = t ∧ 0 < t ∧ t ≤ 128 ∧ t + k + 1 = 96) := by
      have h1 := HU.out
      have h2 := HPn.out
      have h3 : DB.length = t := by rw [← hDB, ← ht, List.length_append, List.length_append, List.length_replicate, h1.2.2.2]; rfl
      exact ⟨hDB, h3, by rw [← hDB]; exact fun x hx => (List.mem_append.1 hx).elim (ahd_u8 p x) (h1.2.1 x), ht, by omega, by omega, by omega⟩
    rw [hDB] at hr9
    obtain ⟨b, S, rfl, hBb, hA9, hnS, hSt, hSm⟩ := hr9.open t HDB.out.2.1 HDB.out.2.2.2.2.1
    obtain ⟨c9, hc9⟩ : ∃ c, S.length = c := ⟨_, rfl⟩
    have H9 : Hid (W4.heap.size ≤ b ∧ Arr .u8 5 w9 b S ∧ S.take t = DB ∧ S.length ≤ maxLen ∧ Below W4.heap.size W4 w9 ∧ S.length = c9 ∧ t ≤ c9) := ⟨hBb, hA9, hSt, hSm, hb9, hc9, hc9 ▸ hnS⟩
    rw [hc9]
    clear hr9 hg9 hb9 hr8 hg8 hb8 hr7 hB7 hBb hA9 hnS hSt hSm hc9 hDB ht v1 v2 v3
    have HHl : Hid (U8s H ∧ H.length = k) := by rw [← HHs.out]; exact ⟨fun x hx => Sh.out_u8 _ _ x hx, (Sh.dig_len _ _).trans HH.out.1⟩
    have HMw : Hid (Calls Tryz.prog 20 #[.int .i64 mask, .slice ha k hc, .int .i64 (t : Nat)] w9 fun e w' => ∃ b c, e = .returned (.tuple #[.slice (some ⟨b, 0, none⟩) t c, .int .i64 0]) ∧ w9.heap.size ≤ b ∧ Sl .u8 w' (.slice (some ⟨b, 0, none⟩) t c) (Sh.msk mask H t) ∧ Below w9.heap.size w9 w') := by
      have h1 := HDB.out
      have h2 := HPn.out
      exact RMask_new Sh.Digest_ok mask (siz_pos.1 (by have := HH.out.2; omega)) ha k hc H (below_sl H9.out.2.2.2.2.1 M4.out.2.2.2) HHl.out.1 HHl.out.2 (by omega) t (by omega) (by omega)
    obtain ⟨V, hV⟩ : ∃ V, Sh.msk mask H t = V := ⟨_, rfl⟩
    have HV : Hid (Sh.msk mask H t = V ∧ V.length = t ∧ U8s V) := ⟨hV, by rw [← hV]; exact msk_len (by have := HH.out.2; have := HPn.out; omega), by rw [← hV]; exact msk_u8⟩
    rw [hV] at HMw
    clear hV HMk
    go_upto_region 11 with (go_at_call 20; refine HMw.out.mono ?_; rintro e W10 ⟨bv, cv, rfl, hbv, hsv, hb10⟩)
    have H10 : Hid (w9.heap.size ≤ bv ∧ Sl .u8 W10 (.slice (some ⟨bv, 0, none⟩) t cv) V ∧ Below w9.heap.size w9 W10 ∧ Arr .u8 5 W10 b S ∧ b < w9.heap.size) := ⟨hbv, hsv, hb10, below_arr hb10 H9.out.2.1.lt H9.out.2.1, H9.out.2.1.lt⟩
    clear hbv hsv hb10 HMw
    go_wp2_with fail
    go_loopw [20] (fun i wr => ∃ q : Nat, q ≤ t ∧ i = .int .i64 q ∧ Arr .u8 5 wr b ((xors DB V).take q ++ S.drop q) ∧ Upd W10 wr b) (fun i _ => t - (intOf i).toNat)
    case atStart => exact ⟨0, Nat.zero_le _, rfl, by simpa using H10.out.2.2.2.1, Upd.refl _ _⟩
    case round =>
      obtain ⟨q, hq, rfl, hA, hU⟩ := hrel
      by_cases hqt : q < t
      · obtain ⟨g1, g2, g3⟩ := xors_step (D := DB) (V := V) (S := S) (t := t) (q := q) (by rw [HV.out.2.1, HDB.out.2.1]) HDB.out.2.1 hqt H9.out.2.2.1 (by have := H9.out; omega) HDB.out.2.2.1 HV.out.2.2
        have hcd : wr.cell? ⟨b, q, none⟩ = some (.int .u8 (DB.getD q 0)) := by rw [hA.cell q (by have := H9.out; omega), g1]
        have hfr := hA.frozen q
        have hcv : wr.cell? ⟨bv, q, none⟩ = some (.int .u8 (V.getD q 0)) := by
          obtain ⟨a7, c7, e7, _, h7⟩ := H10.out.2.1
          rcases h7 with h7 | ⟨b7, o7, e8, h8, h9⟩
          · exfalso; have h1 := HV.out.2.1; rw [h7] at h1; simp at h1; omega
          · simp only [Value.slice.injEq] at e7
            have e9 := e7.1.trans e8
            simp only [Option.some.injEq, Addr.mk.injEq] at e9
            obtain ⟨rfl, rfl, _⟩ := e9
            have h3 := hU.rd h8 h9 (by have := H10.out; omega) q (by rw [HV.out.2.1]; exact hqt)
            simpa using h3
        obtain ⟨v, hv⟩ : ∃ v, V.getD q 0 = v := ⟨_, rfl⟩
        obtain ⟨m, hm'⟩ : ∃ m, DB.getD q 0 = m := ⟨_, rfl⟩
        rw [hv] at hcv g2
        rw [hm'] at hcd g2
        have HN : Hid (∀ u, Arr .u8 5 ((wr.drewN u).setCell ⟨b, q, none⟩ (.int .u8 (bits .xor .u8 m v))) b ((xors DB V).take (q + 1) ++ S.drop (q + 1)) ∧ Upd W10 ((wr.drewN u).setCell ⟨b, q, none⟩ (.int .u8 (bits .xor .u8 m v))) b) := fun u => ⟨by rw [← g2]; exact (show Arr .u8 5 (wr.drewN u) b _ from hA).set q _, (hU.drewN u).trans (Upd.set _ b q _)⟩
        have hqc : q < c9 := by have := H9.out; omega
        have ht8 : t ≤ 128 := HDB.out.2.2.2.2.2.1
        clear hA hU g1 g2 g3 hv hm'
        go_upto_region 14 with (fail)
        refine wp_region_qsd 12 (by kernel_rfl) (by kernel_rfl) ?_
        simp only [List.take_succ_cons, List.take_zero, List.drop_succ_cons, List.drop_zero]
        repeat (go_big_quiet_step (fail))
        refine wpQuiet_nil ?_
        rintro _ ⟨u, rfl⟩
        go_wp2
        go_roundw
        case rel => exact ⟨q + 1, by omega, by go_num, (HN.out u).1, (HN.out u).2⟩
        case measure => simp [intOf]; omega
      · have hqq : t = q := by omega
        subst hqq
        have hlX : (xors DB V).length = t := by rw [xors_len (by rw [HV.out.2.1, HDB.out.2.1]), HDB.out.2.1]
        rw [List.take_of_length_le (by omega)] at hA
        have ht0 : 0 < t := HDB.out.2.2.2.2.1
        obtain ⟨y, r, hyr⟩ : ∃ y r, xors DB V = y :: r := by
          cases hx : xors DB V with
          | nil => rw [hx] at hlX; simp at hlX; omega
          | cons y r => exact ⟨y, r, rfl⟩
        have hy8 : U8 y := xors_u8 HDB.out.2.2.1 HV.out.2.2 y (by rw [hyr]; simp)
        rw [hyr] at hA
        have hcy : wr.cell? ⟨b, 0, none⟩ = some (.int .u8 y) := by have := hA.cell 0 (by simp); simpa using this
        have hfr := hA.frozen 0
        have HN : Hid (Row .u8 5 W4.heap.size (wr.setCell ⟨b, 0, none⟩ (.int .u8 (y % 2 ^ (8 - 1)))) (.slice (some ⟨b, 0, none⟩) t c9) (umS DB V 1) ∧ Below W4.heap.size W4 (wr.setCell ⟨b, 0, none⟩ (.int .u8 (y % 2 ^ (8 - 1)))) ∧ (umS DB V 1).length = t ∧ U8s (umS DB V 1)) := by
          have h2 := hA.set 0 (y % 2 ^ (8 - 1))
          have h9 := H9.out
          have hl : (umS DB V 1).length = t := by rw [umS_len (by rw [HV.out.2.1, HDB.out.2.1]), HDB.out.2.1]
          have e : (y :: r ++ S.drop t).set 0 (y % 2 ^ (8 - 1)) = umS DB V 1 ++ S.drop t := by unfold umS; rw [hyr]; rfl
          rw [e] at h2
          have e2 : (umS DB V 1 ++ S.drop t).length = c9 := by rw [List.length_append, hl, List.length_drop]; omega
          refine ⟨.inr ⟨b, umS DB V 1 ++ S.drop t, by rw [hl, e2], h9.1, h2, by rw [hl, e2]; exact h9.2.2.2.2.2.2, by rw [List.take_left], by omega⟩, ?_, hl, umS_u8 HDB.out.2.2.1 HV.out.2.2⟩
          exact (hU.trans (Upd.set wr b 0 _)).below (below_via h9.2.2.2.2.1 H10.out.2.2.1 (Nat.le_refl _)) (below_via h9.2.2.2.2.1 H10.out.2.2.1 (Nat.le_refl _)).size h9.1
        have HT1 : Hid (y * 2 % 256 / 2 = y % 2 ^ (8 - 1)) := top1 hy8
        have htc : t ≤ c9 := H9.out.2.2.2.2.2.2
        have ht8 : t ≤ 128 := HDB.out.2.2.2.2.2.1
        have hUs := hU.size
        clear hA hU hlX hyr
        go_upto_region 17 with (fail)
        rw [HT1.out]
        have hbl : b < wr.heap.size := by have := H10.out; have := H10.out.2.2.1.size; have := hUs; omega
        refine wp_gen (fun W => Row .u8 5 W4.heap.size W (.slice (some ⟨b, 0, none⟩) t c9) (umS DB V 1) ∧ Below W4.heap.size W4 W ∧ b < W.heap.size) ⟨HN.out.1, HN.out.2.1, by simpa using hbl⟩ ?_
        rintro W11 ⟨hr11, hb11, hbl11⟩
        obtain ⟨M, hM⟩ : ∃ M, umS DB V 1 = M := ⟨_, rfl⟩
        have HM : Hid (umS DB V 1 = M ∧ M.length = t ∧ U8s M) := ⟨hM, by rw [← hM]; exact HN.out.2.2⟩
        rw [hM] at hr11
        clear hM HN hbl hcy hfr hy8 HT1
        have HC : Hid (∀ W, Below W4.heap.size W4 W → Below W4.heap.size W4 W ∧ W.cell? ⟨fb, 0, none⟩ = some (.slice ka l1 kc) ∧ W.cell? ⟨fb, 1, none⟩ = some (.slice ea l2 ec)) := fun W h => ⟨h, (below_blk h M4.out.2.2.1.lt M4.out.2.2.1).cell 0, (below_blk h M4.out.2.2.1.lt M4.out.2.2.1).cell 1⟩
        have HHw : Hid (∀ W, Below W4.heap.size W4 W → Sl .u8 W (.slice ha k hc) H) := fun W h => below_sl h M4.out.2.2.2
        have HB1 : (M.length + H.length) * 1 ≤ 140737488355328 := by have := HM.out.2.1; have := HHl.out.2; have := HDB.out; omega
        have HB2 : ((M ++ H).length + [(188 : Int)].length) * 1 ≤ 140737488355328 := by rw [List.length_append]; have := HM.out.2.1; have := HHl.out.2; have := HDB.out; simp; omega
        have HW : Hid (∀ (W : World) (vz : Value), Below W4.heap.size W4 W → Sl .u8 W vz (M ++ H ++ [188]) → Calls Tryz.prog 21 #[.agg #[.slice ka l1 kc, .slice ea l2 ec], .slice da l3 dc, vz] W fun e' w' => ∃ a n c, e' = .returned (.slice a n c) ∧ Sl .u8 w' (.slice a n c) (sgS nn d 96 (M ++ H ++ [188])) ∧ Below W.heap.size W w') := fun W vz h0 h1 => (power_any HKG.out ka ea l1 kc l2 ec (below_sl h0 M4.out.1.1) HE.out.1 (below_sl h0 M4.out.1.2.1) HE.out.2 _ (below_sl h0 M4.out.1.2.2) vz _ h1 (fun x hx => by
            rcases List.mem_append.1 hx with h | h
            · exact (List.mem_append.1 h).elim (HM.out.2.2 x) (HHl.out.1 x)
            · simp at h; subst h; exact ⟨by decide, by decide⟩) (by rw [List.length_append, List.length_append, HM.out.2.1, HHl.out.2]; have := HDB.out; simp; omega)).mono fun e' w' ⟨r, h5, h6, h7⟩ => by
          obtain ⟨a, c, rfl⟩ := h6.form
          exact ⟨a, _, c, h5, h6, h7⟩
        have HF : Hid (M ++ H ++ [188] = pssE alg mask X T 96) := by
          show _ = _
          have h2 := HPn.out
          have h3 := HDB.out
          unfold pssE
          rw [HHs.out, HH.out.1, HU.out.2.2.2, show 96 - 2 - k - tn = p by omega, show 96 - 1 - k = t by omega, HDB.out.1, HV.out.1, HM.out.1, List.append_assoc]
        have hne : W11.heap.size ≠ b := by omega
        go_region_held3 (fun W => Below W4.heap.size W4 W ∧ W.cell? ⟨fb, 0, none⟩ = some (.slice ka l1 kc) ∧ W.cell? ⟨fb, 1, none⟩ = some (.slice ea l2 ec)) (first | exact HC.out _ (below_via (And.left (by assumption)) hb14 (Nat.le_refl _)) | exact HC.out _ (Below.drew hb11) | exact HC.out _ (pal (And.left (by assumption))) | exact HC.out _ (Below.trans (And.left (by assumption)) (by assumption)))
          (first
          | (replace hr13 := hr13; go_at_call 21; refine (HW.out _ _ (And.left (by assumption)) hr13.sl).mono ?_; rintro e14 w14 ⟨a14, n14, c14, rfl, hs14, hb14⟩)
          | (replace hr12 := hr12; refine step_ap rfl (.tmp 121) (.tmp 122) 22 22 rfl .u8 5 1 Tryz.und8 Tryz.info8 (by decide) W4.heap.size _ (M ++ H) (by rfl) (by first | exact hr12 | exact hr12.alloc _) _ [188] (by rfl) (src_sl Tryz.und8 (by first | exact new_sl (k := .u8) [188] _ | exact grew_sl hg12 (new_sl (k := .u8) [188] _) hne)) HB2 (psz (And.left (by assumption))) ?_; intro v13 w13 hr13 hg13; have hb13 := hg13.below (B := W4.heap.size) (xs := M ++ H) (by first | exact hr12 | exact hr12.alloc _) (psz (And.left (by assumption))))
          | (refine step_ap rfl (.tmp 119) (.tmp 120) 22 22 rfl .u8 5 1 Tryz.und8 Tryz.info8 (by decide) W4.heap.size _ M (by rfl) (by first | exact hr11 | exact hr11.alloc _) _ H (by rfl) (src_sl Tryz.und8 (HHw.out _ (And.left (by assumption)))) HB1 (psz (And.left (by assumption))) ?_; intro v12 w12 hr12 hg12; have hb12 := hg12.below (B := W4.heap.size) (xs := M) (by first | exact hr11 | exact hr11.alloc _) (psz (And.left (by assumption)))))
        all_goals
          have h414 : Below W4.heap.size W4 w14 := And.left (by assumption)
          have H14 : Hid (Sl .u8 w14 (.slice a14 n14 c14) (sgS nn d 96 (pssE alg mask X T 96)) ∧ Below w.heap.size w w14) := ⟨by rw [← HF.out]; exact hs14, below_via M4.out.2.1 h414 (Nat.le_refl _)⟩
          clear hs14 hb14 hb13 hr13 hg13 hb12 hr12 hg12 hr11 hb11
          go_wp2
          go_ret
          exact ⟨_, _, _, rfl, H14.out.1, H14.out.2⟩
  · skip
    have HPn : Hid (_ = p + tn + k + 2 ∧ 0 < k ∧ 0 < hm ∧ k ≤ 64) := ⟨hp, hA, hM, zl⟩
    have w1 : IntKind.i64.wrap ((k : Int) + (tn : Int)) = (k : Int) + tn := by rw [IntKind.wrap_i64]; omega
    have w2 : IntKind.i64.wrap ((k : Int) + tn + 2) = (k : Int) + tn + 2 := by rw [IntKind.wrap_i64]; omega
    have hl2 : decide ((128 : Int) < (k : Int) + tn + 2) = false := by simp; omega
    clear hp hA hM zl hn hlt HLT
    go_enter Tryz.func7, Tryz.ntmps7
    go_wp2_with fail
    refine (HK.out _).mono ?_
    rintro e W1 ⟨ka, kc, ea, ec, da, dc, rfl, q1, q2, q3, hb⟩
    have M1 : Hid (Sl .u32 W1 (.slice ka l1 kc) (kN j) ∧ Sl .u32 W1 (.slice ea l2 ec) (kE j) ∧ Sl .u32 W1 (.slice da l3 dc) (kD j) ∧ Below w.heap.size w W1) := ⟨q1, q2, q3, hb⟩
    clear q1 q2 q3 hb HK
    go_upto_region 2 with (fail)
    refine wp_gen (fun W => Below W1.heap.size W1 W ∧ Blk 26 W W1.heap.size [.slice ka l1 kc, .slice ea l2 ec]) ⟨al1 _, Blk.new _ _ _⟩ ?_
    rintro W2 ⟨hb, hB⟩
    obtain ⟨fb, hf⟩ : ∃ x, W1.heap.size = x := ⟨_, rfl⟩
    have M2 : Hid ((Sl .u32 W2 (.slice ka l1 kc) (kN j) ∧ Sl .u32 W2 (.slice ea l2 ec) (kE j) ∧ Sl .u32 W2 (.slice da l3 dc) (kD j)) ∧ Below w.heap.size w W2 ∧ Blk 26 W2 fb [.slice ka l1 kc, .slice ea l2 ec]) := ⟨⟨below_sl hb M1.out.1, below_sl hb M1.out.2.1, below_sl hb M1.out.2.2.1⟩, below_via M1.out.2.2.2 hb (Nat.le_refl _), hf ▸ hB⟩
    rw [hf]
    clear hb hB hf M1
    have p0 : W2.cell? ⟨fb, 0, none⟩ = some (.slice ka l1 kc) := M2.out.2.2.cell 0
    go_wp2_with fail
    refine (HB.out _ _ _ M2.out.1.1).mono ?_
    rintro e W3 ⟨rfl, hb⟩
    have M3 : Hid ((Sl .u32 W3 (.slice ka l1 kc) (kN j) ∧ Sl .u32 W3 (.slice ea l2 ec) (kE j) ∧ Sl .u32 W3 (.slice da l3 dc) (kD j)) ∧ Below w.heap.size w W3 ∧ Blk 26 W3 fb [.slice ka l1 kc, .slice ea l2 ec]) := ⟨⟨below_sl hb M2.out.1.1, below_sl hb M2.out.1.2.1, below_sl hb M2.out.1.2.2⟩, below_via M2.out.2.1 hb (Nat.le_refl _), below_blk hb M2.out.2.2.lt M2.out.2.2⟩
    clear hb p0 M2 HB
    go_upto_region 5 with (go_at_call 19; first | (refine (HZa.out _).mono ?_; rintro e w8 ⟨rfl, rfl⟩) | (refine (HZm.out _).mono ?_; rintro e w9 ⟨rfl, rfl⟩))
    go_upto_region 7 with (go_at_call 19; refine (HZm.out _).mono ?_; rintro e w9 ⟨rfl, rfl⟩)
    have HBo : Hid (X.length ≤ 64 ∧ T.length ≤ 128) := by
      have h1 := HU.out
      have h2 := HPn.out
      exact ⟨by omega, by omega⟩
    go_wp2_with (first
      | (at_make; refine wpList_mk _ rfl _ _ 22 rfl .u8 5 1 Tryz.und8 Tryz.info8 _ 8 rfl rfl rfl (by decide) (by decide) ?_; intro w4 hA4 hB4; have hr4 : Row .u8 5 W3.heap.size w4 (.slice (some ⟨W3.heap.size, 0, none⟩) 8 8) (List.replicate 8 0) := Row.arr hA4 (Nat.le_refl _) (by decide); clear hA4)
      | (replace hr5 := hr5; at_builtin; refine wpList_ap rfl (.tmp 61) (.tmp 62) 22 22 rfl .u8 5 1 Tryz.und8 Tryz.info8 (by decide) W3.heap.size _ (List.replicate 8 0 ++ X) rfl hr5 _ T rfl (src_sl Tryz.und8 (HT.out _ (below_via M3.out.2.1 hb5 (Nat.le_refl _)))) (by have := HBo.out; rw [List.length_append, List.length_replicate]; omega) hb5.size ?_; intro v6 w6 hr6 hg6; have hb6 : Below W3.heap.size W3 w6 := hb5.trans (hg6.below hr5 hb5.size))
      | (at_builtin; refine wpList_ap rfl (.tmp 59) (.tmp 60) 22 22 rfl .u8 5 1 Tryz.und8 Tryz.info8 (by decide) W3.heap.size _ (List.replicate 8 0) rfl hr4 _ X rfl (src_sl Tryz.und8 (HX.out _ (below_via M3.out.2.1 hB4 (Nat.le_refl _)))) (by have := HBo.out; rw [List.length_replicate]; omega) hB4.size ?_; intro v5 w5 hr5 hg5; have hb5 : Below W3.heap.size W3 w5 := hB4.trans (hg5.below hr4 hB4.size)))
    have H6 : Hid (Sl .u8 w6 v6 (List.replicate 8 0 ++ X ++ T) ∧ Below W3.heap.size W3 w6) := ⟨hr6.sl, hb6⟩
    clear hr4 hB4 hr5 hg5 hb5 hr6 hg6 hb6
    refine (HD.out _ v6 _ H6.out.1 (fun x hx => by
      rcases List.mem_append.1 hx with h | h
      · rcases List.mem_append.1 h with h | h
        · exact zeros_u8 8 x h
        · exact HU.out.1 x h
      · exact HU.out.2.1 x h) (by have := HBo.out; rw [List.length_append, List.length_append, List.length_replicate]; omega)).mono ?_
    rintro e W4 ⟨ha, hc, rfl, hd4, hb4⟩
    obtain ⟨H, hH⟩ : ∃ H, Sh.dig alg (List.replicate 8 0 ++ X ++ T) = H := ⟨_, rfl⟩
    rw [hH] at hd4
    have hb34 : Below W3.heap.size W3 W4 := below_via H6.out.2 hb4 (Nat.le_refl _)
    have M4 : Hid ((Sl .u32 W4 (.slice ka l1 kc) (kN j) ∧ Sl .u32 W4 (.slice ea l2 ec) (kE j) ∧ Sl .u32 W4 (.slice da l3 dc) (kD j)) ∧ Below w.heap.size w W4 ∧ Blk 26 W4 fb [.slice ka l1 kc, .slice ea l2 ec] ∧ Sl .u8 W4 (.slice ha k hc) H) := ⟨⟨below_sl hb34 M3.out.1.1, below_sl hb34 M3.out.1.2.1, below_sl hb34 M3.out.1.2.2⟩, below_via M3.out.2.1 hb34 (Nat.le_refl _), below_blk hb34 M3.out.2.2.lt M3.out.2.2, hd4⟩
    have HHs : Hid (Sh.dig alg (List.replicate 8 0 ++ X ++ T) = H) := hH
    clear hH hd4 hb4 hb34 H6 M3 HD
    have v1 : IntKind.i64.wrap ((128 : Int) - (k : Int)) = 128 - (k : Int) := by have := HPn.out; rw [IntKind.wrap_i64]; omega
    have v2 : IntKind.i64.wrap ((128 : Int) - (k : Int) - 2) = 128 - (k : Int) - 2 := by have := HPn.out; rw [IntKind.wrap_i64]; omega
    have v3 : IntKind.i64.wrap ((128 : Int) - (k : Int) - 2 - (tn : Int)) = (p : Int) := by have := HPn.out; rw [IntKind.wrap_i64]; omega
    have HPb : Hid (p ≤ 128 ∧ tn ≤ 128) := by have := HPn.out; exact ⟨by omega, by omega⟩
    go_upto_region 10 with (first
      | (at_make; refine wpList_mk _ rfl _ _ 22 rfl .u8 5 1 Tryz.und8 Tryz.info8 _ p rfl rfl rfl (by have := HPb.out; omega) (by have := HPb.out; omega) ?_; intro w7 hA7 hB7; have hr7 : Row .u8 5 W4.heap.size w7 (.slice (some ⟨W4.heap.size, 0, none⟩) p p) (List.replicate p 0) := (by have h := Row.arr hA7 (Nat.le_refl _) (by have := HPb.out; rw [List.length_replicate]; unfold maxLen; omega); rw [List.length_replicate] at h; exact h); clear hA7)
      | (replace hr8 := hr8; at_builtin; refine wpList_ap rfl (.tmp 75) (.tmp 76) 22 22 rfl .u8 5 1 Tryz.und8 Tryz.info8 (by decide) W4.heap.size _ (List.replicate p 0 ++ [1]) rfl hr8 _ T rfl (src_sl Tryz.und8 (HT.out _ (below_via M4.out.2.1 hb8 (Nat.le_refl _)))) (by have := HBo.out; have := HPb.out; rw [List.length_append, List.length_replicate]; simp; omega) hb8.size ?_; intro v9 w9 hr9 hg9; have hb9 : Below W4.heap.size W4 w9 := hb8.trans (hg9.below hr8 hb8.size))
      | (at_builtin; refine wpList_ap rfl (.tmp 73) (.tmp 74) 22 22 rfl .u8 5 1 Tryz.und8 Tryz.info8 (by decide) W4.heap.size _ (List.replicate p 0) rfl (hr7.alloc _) _ [1] rfl (src_sl Tryz.und8 (new_sl [1] _)) (by have := HPb.out; rw [List.length_replicate]; simp; omega) (by have h := hB7.size; simp; omega) ?_; intro v8 w8 hr8 hg8; have hb8 : Below W4.heap.size W4 w8 := (below_via hB7 (al1 _) (Nat.le_refl _)).trans (hg8.below (hr7.alloc _) (by have h := hB7.size; simp; omega))))
    obtain ⟨DB, hDB⟩ : ∃ D, List.replicate p 0 ++ [1] ++ T = D := ⟨_, rfl⟩
    obtain ⟨t, ht⟩ : ∃ t, p + 1 + tn = t := ⟨_, rfl⟩
    have HDB : Hid (ahd p ++ T = DB ∧ DB.length = t ∧ U8s DB ∧ p + 1 + tn = t ∧ 0 < t ∧ t ≤ 128 ∧ t + k + 1 = 128) := by
      have h1 := HU.out
      have h2 := HPn.out
      have h3 : DB.length = t := by rw [← hDB, ← ht, List.length_append, List.length_append, List.length_replicate, h1.2.2.2]; rfl
      exact ⟨hDB, h3, by rw [← hDB]; exact fun x hx => (List.mem_append.1 hx).elim (ahd_u8 p x) (h1.2.1 x), ht, by omega, by omega, by omega⟩
    rw [hDB] at hr9
    obtain ⟨b, S, rfl, hBb, hA9, hnS, hSt, hSm⟩ := hr9.open t HDB.out.2.1 HDB.out.2.2.2.2.1
    obtain ⟨c9, hc9⟩ : ∃ c, S.length = c := ⟨_, rfl⟩
    have H9 : Hid (W4.heap.size ≤ b ∧ Arr .u8 5 w9 b S ∧ S.take t = DB ∧ S.length ≤ maxLen ∧ Below W4.heap.size W4 w9 ∧ S.length = c9 ∧ t ≤ c9) := ⟨hBb, hA9, hSt, hSm, hb9, hc9, hc9 ▸ hnS⟩
    rw [hc9]
    clear hr9 hg9 hb9 hr8 hg8 hb8 hr7 hB7 hBb hA9 hnS hSt hSm hc9 hDB ht v1 v2 v3
    have HHl : Hid (U8s H ∧ H.length = k) := by rw [← HHs.out]; exact ⟨fun x hx => Sh.out_u8 _ _ x hx, (Sh.dig_len _ _).trans HH.out.1⟩
    have HMw : Hid (Calls Tryz.prog 20 #[.int .i64 mask, .slice ha k hc, .int .i64 (t : Nat)] w9 fun e w' => ∃ b c, e = .returned (.tuple #[.slice (some ⟨b, 0, none⟩) t c, .int .i64 0]) ∧ w9.heap.size ≤ b ∧ Sl .u8 w' (.slice (some ⟨b, 0, none⟩) t c) (Sh.msk mask H t) ∧ Below w9.heap.size w9 w') := by
      have h1 := HDB.out
      have h2 := HPn.out
      exact RMask_new Sh.Digest_ok mask (siz_pos.1 (by have := HH.out.2; omega)) ha k hc H (below_sl H9.out.2.2.2.2.1 M4.out.2.2.2) HHl.out.1 HHl.out.2 (by omega) t (by omega) (by omega)
    obtain ⟨V, hV⟩ : ∃ V, Sh.msk mask H t = V := ⟨_, rfl⟩
    have HV : Hid (Sh.msk mask H t = V ∧ V.length = t ∧ U8s V) := ⟨hV, by rw [← hV]; exact msk_len (by have := HH.out.2; have := HPn.out; omega), by rw [← hV]; exact msk_u8⟩
    rw [hV] at HMw
    clear hV HMk
    go_upto_region 11 with (go_at_call 20; refine HMw.out.mono ?_; rintro e W10 ⟨bv, cv, rfl, hbv, hsv, hb10⟩)
    have H10 : Hid (w9.heap.size ≤ bv ∧ Sl .u8 W10 (.slice (some ⟨bv, 0, none⟩) t cv) V ∧ Below w9.heap.size w9 W10 ∧ Arr .u8 5 W10 b S ∧ b < w9.heap.size) := ⟨hbv, hsv, hb10, below_arr hb10 H9.out.2.1.lt H9.out.2.1, H9.out.2.1.lt⟩
    clear hbv hsv hb10 HMw
    go_wp2_with fail
    go_loopw [20] (fun i wr => ∃ q : Nat, q ≤ t ∧ i = .int .i64 q ∧ Arr .u8 5 wr b ((xors DB V).take q ++ S.drop q) ∧ Upd W10 wr b) (fun i _ => t - (intOf i).toNat)
    case atStart => exact ⟨0, Nat.zero_le _, rfl, by simpa using H10.out.2.2.2.1, Upd.refl _ _⟩
    case round =>
      obtain ⟨q, hq, rfl, hA, hU⟩ := hrel
      by_cases hqt : q < t
      · obtain ⟨g1, g2, g3⟩ := xors_step (D := DB) (V := V) (S := S) (t := t) (q := q) (by rw [HV.out.2.1, HDB.out.2.1]) HDB.out.2.1 hqt H9.out.2.2.1 (by have := H9.out; omega) HDB.out.2.2.1 HV.out.2.2
        have hcd : wr.cell? ⟨b, q, none⟩ = some (.int .u8 (DB.getD q 0)) := by rw [hA.cell q (by have := H9.out; omega), g1]
        have hfr := hA.frozen q
        have hcv : wr.cell? ⟨bv, q, none⟩ = some (.int .u8 (V.getD q 0)) := by
          obtain ⟨a7, c7, e7, _, h7⟩ := H10.out.2.1
          rcases h7 with h7 | ⟨b7, o7, e8, h8, h9⟩
          · exfalso; have h1 := HV.out.2.1; rw [h7] at h1; simp at h1; omega
          · simp only [Value.slice.injEq] at e7
            have e9 := e7.1.trans e8
            simp only [Option.some.injEq, Addr.mk.injEq] at e9
            obtain ⟨rfl, rfl, _⟩ := e9
            have h3 := hU.rd h8 h9 (by have := H10.out; omega) q (by rw [HV.out.2.1]; exact hqt)
            simpa using h3
        obtain ⟨v, hv⟩ : ∃ v, V.getD q 0 = v := ⟨_, rfl⟩
        obtain ⟨m, hm'⟩ : ∃ m, DB.getD q 0 = m := ⟨_, rfl⟩
        rw [hv] at hcv g2
        rw [hm'] at hcd g2
        have HN : Hid (∀ u, Arr .u8 5 ((wr.drewN u).setCell ⟨b, q, none⟩ (.int .u8 (bits .xor .u8 m v))) b ((xors DB V).take (q + 1) ++ S.drop (q + 1)) ∧ Upd W10 ((wr.drewN u).setCell ⟨b, q, none⟩ (.int .u8 (bits .xor .u8 m v))) b) := fun u => ⟨by rw [← g2]; exact (show Arr .u8 5 (wr.drewN u) b _ from hA).set q _, (hU.drewN u).trans (Upd.set _ b q _)⟩
        have hqc : q < c9 := by have := H9.out; omega
        have ht8 : t ≤ 128 := HDB.out.2.2.2.2.2.1
        clear hA hU g1 g2 g3 hv hm'
        go_upto_region 14 with (fail)
        refine wp_region_qsd 12 (by kernel_rfl) (by kernel_rfl) ?_
        simp only [List.take_succ_cons, List.take_zero, List.drop_succ_cons, List.drop_zero]
        repeat (go_big_quiet_step (fail))
        refine wpQuiet_nil ?_
        rintro _ ⟨u, rfl⟩
        go_wp2
        go_roundw
        case rel => exact ⟨q + 1, by omega, by go_num, (HN.out u).1, (HN.out u).2⟩
        case measure => simp [intOf]; omega
      · have hqq : t = q := by omega
        subst hqq
        have hlX : (xors DB V).length = t := by rw [xors_len (by rw [HV.out.2.1, HDB.out.2.1]), HDB.out.2.1]
        rw [List.take_of_length_le (by omega)] at hA
        have ht0 : 0 < t := HDB.out.2.2.2.2.1
        obtain ⟨y, r, hyr⟩ : ∃ y r, xors DB V = y :: r := by
          cases hx : xors DB V with
          | nil => rw [hx] at hlX; simp at hlX; omega
          | cons y r => exact ⟨y, r, rfl⟩
        have hy8 : U8 y := xors_u8 HDB.out.2.2.1 HV.out.2.2 y (by rw [hyr]; simp)
        rw [hyr] at hA
        have hcy : wr.cell? ⟨b, 0, none⟩ = some (.int .u8 y) := by have := hA.cell 0 (by simp); simpa using this
        have hfr := hA.frozen 0
        have HN : Hid (Row .u8 5 W4.heap.size (wr.setCell ⟨b, 0, none⟩ (.int .u8 (y % 2 ^ (8 - 1)))) (.slice (some ⟨b, 0, none⟩) t c9) (umS DB V 1) ∧ Below W4.heap.size W4 (wr.setCell ⟨b, 0, none⟩ (.int .u8 (y % 2 ^ (8 - 1)))) ∧ (umS DB V 1).length = t ∧ U8s (umS DB V 1)) := by
          have h2 := hA.set 0 (y % 2 ^ (8 - 1))
          have h9 := H9.out
          have hl : (umS DB V 1).length = t := by rw [umS_len (by rw [HV.out.2.1, HDB.out.2.1]), HDB.out.2.1]
          have e : (y :: r ++ S.drop t).set 0 (y % 2 ^ (8 - 1)) = umS DB V 1 ++ S.drop t := by unfold umS; rw [hyr]; rfl
          rw [e] at h2
          have e2 : (umS DB V 1 ++ S.drop t).length = c9 := by rw [List.length_append, hl, List.length_drop]; omega
          refine ⟨.inr ⟨b, umS DB V 1 ++ S.drop t, by rw [hl, e2], h9.1, h2, by rw [hl, e2]; exact h9.2.2.2.2.2.2, by rw [List.take_left], by omega⟩, ?_, hl, umS_u8 HDB.out.2.2.1 HV.out.2.2⟩
          exact (hU.trans (Upd.set wr b 0 _)).below (below_via h9.2.2.2.2.1 H10.out.2.2.1 (Nat.le_refl _)) (below_via h9.2.2.2.2.1 H10.out.2.2.1 (Nat.le_refl _)).size h9.1
        have HT1 : Hid (y * 2 % 256 / 2 = y % 2 ^ (8 - 1)) := top1 hy8
        have htc : t ≤ c9 := H9.out.2.2.2.2.2.2
        have ht8 : t ≤ 128 := HDB.out.2.2.2.2.2.1
        have hUs := hU.size
        clear hA hU hlX hyr
        go_upto_region 17 with (fail)
        rw [HT1.out]
        have hbl : b < wr.heap.size := by have := H10.out; have := H10.out.2.2.1.size; have := hUs; omega
        refine wp_gen (fun W => Row .u8 5 W4.heap.size W (.slice (some ⟨b, 0, none⟩) t c9) (umS DB V 1) ∧ Below W4.heap.size W4 W ∧ b < W.heap.size) ⟨HN.out.1, HN.out.2.1, by simpa using hbl⟩ ?_
        rintro W11 ⟨hr11, hb11, hbl11⟩
        obtain ⟨M, hM⟩ : ∃ M, umS DB V 1 = M := ⟨_, rfl⟩
        have HM : Hid (umS DB V 1 = M ∧ M.length = t ∧ U8s M) := ⟨hM, by rw [← hM]; exact HN.out.2.2⟩
        rw [hM] at hr11
        clear hM HN hbl hcy hfr hy8 HT1
        have HC : Hid (∀ W, Below W4.heap.size W4 W → Below W4.heap.size W4 W ∧ W.cell? ⟨fb, 0, none⟩ = some (.slice ka l1 kc) ∧ W.cell? ⟨fb, 1, none⟩ = some (.slice ea l2 ec)) := fun W h => ⟨h, (below_blk h M4.out.2.2.1.lt M4.out.2.2.1).cell 0, (below_blk h M4.out.2.2.1.lt M4.out.2.2.1).cell 1⟩
        have HHw : Hid (∀ W, Below W4.heap.size W4 W → Sl .u8 W (.slice ha k hc) H) := fun W h => below_sl h M4.out.2.2.2
        have HB1 : (M.length + H.length) * 1 ≤ 140737488355328 := by have := HM.out.2.1; have := HHl.out.2; have := HDB.out; omega
        have HB2 : ((M ++ H).length + [(188 : Int)].length) * 1 ≤ 140737488355328 := by rw [List.length_append]; have := HM.out.2.1; have := HHl.out.2; have := HDB.out; simp; omega
        have HW : Hid (∀ (W : World) (vz : Value), Below W4.heap.size W4 W → Sl .u8 W vz (M ++ H ++ [188]) → Calls Tryz.prog 21 #[.agg #[.slice ka l1 kc, .slice ea l2 ec], .slice da l3 dc, vz] W fun e' w' => ∃ a n c, e' = .returned (.slice a n c) ∧ Sl .u8 w' (.slice a n c) (sgS nn d 128 (M ++ H ++ [188])) ∧ Below W.heap.size W w') := fun W vz h0 h1 => (power_any HKG.out ka ea l1 kc l2 ec (below_sl h0 M4.out.1.1) HE.out.1 (below_sl h0 M4.out.1.2.1) HE.out.2 _ (below_sl h0 M4.out.1.2.2) vz _ h1 (fun x hx => by
            rcases List.mem_append.1 hx with h | h
            · exact (List.mem_append.1 h).elim (HM.out.2.2 x) (HHl.out.1 x)
            · simp at h; subst h; exact ⟨by decide, by decide⟩) (by rw [List.length_append, List.length_append, HM.out.2.1, HHl.out.2]; have := HDB.out; simp; omega)).mono fun e' w' ⟨r, h5, h6, h7⟩ => by
          obtain ⟨a, c, rfl⟩ := h6.form
          exact ⟨a, _, c, h5, h6, h7⟩
        have HF : Hid (M ++ H ++ [188] = pssE alg mask X T 128) := by
          show _ = _
          have h2 := HPn.out
          have h3 := HDB.out
          unfold pssE
          rw [HHs.out, HH.out.1, HU.out.2.2.2, show 128 - 2 - k - tn = p by omega, show 128 - 1 - k = t by omega, HDB.out.1, HV.out.1, HM.out.1, List.append_assoc]
        have hne : W11.heap.size ≠ b := by omega
        go_region_held3 (fun W => Below W4.heap.size W4 W ∧ W.cell? ⟨fb, 0, none⟩ = some (.slice ka l1 kc) ∧ W.cell? ⟨fb, 1, none⟩ = some (.slice ea l2 ec)) (first | exact HC.out _ (below_via (And.left (by assumption)) hb14 (Nat.le_refl _)) | exact HC.out _ (Below.drew hb11) | exact HC.out _ (pal (And.left (by assumption))) | exact HC.out _ (Below.trans (And.left (by assumption)) (by assumption)))
          (first
          | (replace hr13 := hr13; go_at_call 21; refine (HW.out _ _ (And.left (by assumption)) hr13.sl).mono ?_; rintro e14 w14 ⟨a14, n14, c14, rfl, hs14, hb14⟩)
          | (replace hr12 := hr12; refine step_ap rfl (.tmp 121) (.tmp 122) 22 22 rfl .u8 5 1 Tryz.und8 Tryz.info8 (by decide) W4.heap.size _ (M ++ H) (by rfl) (by first | exact hr12 | exact hr12.alloc _) _ [188] (by rfl) (src_sl Tryz.und8 (by first | exact new_sl (k := .u8) [188] _ | exact grew_sl hg12 (new_sl (k := .u8) [188] _) hne)) HB2 (psz (And.left (by assumption))) ?_; intro v13 w13 hr13 hg13; have hb13 := hg13.below (B := W4.heap.size) (xs := M ++ H) (by first | exact hr12 | exact hr12.alloc _) (psz (And.left (by assumption))))
          | (refine step_ap rfl (.tmp 119) (.tmp 120) 22 22 rfl .u8 5 1 Tryz.und8 Tryz.info8 (by decide) W4.heap.size _ M (by rfl) (by first | exact hr11 | exact hr11.alloc _) _ H (by rfl) (src_sl Tryz.und8 (HHw.out _ (And.left (by assumption)))) HB1 (psz (And.left (by assumption))) ?_; intro v12 w12 hr12 hg12; have hb12 := hg12.below (B := W4.heap.size) (xs := M) (by first | exact hr11 | exact hr11.alloc _) (psz (And.left (by assumption)))))
        all_goals
          have h414 : Below W4.heap.size W4 w14 := And.left (by assumption)
          have H14 : Hid (Sl .u8 w14 (.slice a14 n14 c14) (sgS nn d 128 (pssE alg mask X T 128)) ∧ Below w.heap.size w w14) := ⟨by rw [← HF.out]; exact hs14, below_via M4.out.2.1 h414 (Nat.le_refl _)⟩
          clear hs14 hb14 hb13 hr13 hg13 hb12 hr12 hg12 hr11 hb11
          go_wp2
          go_ret
          exact ⟨_, _, _, rfl, H14.out.1, H14.out.2⟩
end Go.Proofs.YtjmiaakfdclfjaaGreatDoor
