/-
  Digest: the reference's Digest.
-/
import Derived.Test.YtjmiaakfdclfjaaGreatDoorK33


namespace Go.Proofs.YtjmiaakfdclfjaaGreatDoor.Sh
open Go.RowKit
set_option maxRecDepth 20000
theorem out_cut (s : St) : (out 4 s).take 48 = out 3 s := by
  unfold out
  rw [← List.map_take, List.take_range]
  refine List.map_congr_left fun i _ => ?_
  unfold outB
  rw [show blk 3 = 128 from rfl, show blk 4 = 128 from rfl]
theorem full_len {B : Nat} (n : Nat) (h : B = 64 ∨ B = 128) : ∃ K, n + fillLen n B = B * K ∧ B * K ≤ n + 400 ∧ (n + fillLen n B) / B = K := by
  have h0 : 0 < B := by omega
  have e : n + fillLen n B = B * ((n + B / 8) / B + 1) := by
    unfold fillLen
    have := Nat.mod_lt (n + B / 8) h0
    have h2 := Nat.div_add_mod (n + B / 8) B
    rw [Nat.mul_succ]; omega
  refine ⟨(n + B / 8) / B + 1, e, ?_, by rw [e, Nat.mul_div_cancel_left _ h0]⟩
  have h2 := Nat.div_add_mod (n + B / 8) B
  rw [Nat.mul_succ]; rcases h with rfl | rfl <;> omega
theorem row_rd {B : Nat} {w : World} {v : Value} {Y : List Int} (n : Nat) (h : Row .u8 5 B w v Y) (hn : Y.length = n) (h0 : 0 < n) : ∃ b c, v = .slice (some ⟨b, 0, none⟩) n c ∧ n ≤ c ∧ b < w.heap.size ∧ Rd .u8 w b 0 Y := by
  obtain ⟨b, S, rfl, _, hA, hl, ht, _⟩ := h.open n hn h0
  refine ⟨b, _, rfl, hl, hA.lt, ?_⟩
  have := hA.rd 0 n (by omega)
  rw [List.drop_zero, ht] at this; exact this
theorem full_u8 {X : List Int} (h : U8s X) (B : Nat) : U8s (X ++ fill X.length B) := h.append (fill_u8 _ _)
theorem full_n {X : List Int} {B : Nat} (h : B = 64 ∨ B = 128) : (X ++ fill X.length B).length = X.length + fillLen X.length B := by rw [List.length_append, fill_len h]
theorem fillLen_pos {n B : Nat} (h : B = 64 ∨ B = 128) : 0 < fillLen n B := by
  unfold fillLen
  have := Nat.mod_lt (n + B / 8) (show 0 < B by omega)
  omega
set_option maxHeartbeats 1000000 in
theorem RDigest_1 {w : World} (v : Value) (X : List Int) (hX : Sl .u8 w v X) (uX : U8s X) (hl : X.length ≤ 65536) :
    Calls Tryz.prog 6 #[.int .i64 1, v] w fun e w' => ∃ r, e = .returned r ∧ Sl .u8 w' r (dig 1 X) ∧ Below w.heap.size w w' := by
  obtain ⟨K, hK, hKl, hKd⟩ := full_len (B := 64) X.length (.inl rfl)
  have hn := full_n (X := X) (B := 64) (.inl rfl)
  have hp := fillLen_pos (n := X.length) (B := 64) (.inl rfl)
  obtain ⟨Y, hY⟩ : ∃ Y, X ++ fill X.length 64 = Y := ⟨_, rfl⟩
  obtain ⟨N, hN⟩ : ∃ N, 64 * K = N := ⟨_, rfl⟩
  obtain ⟨D, hD⟩ : ∃ D, dig 1 X = D := ⟨_, rfl⟩
  have hD2 : D = out 1 (run 1 Y K) := by rw [← hD, ← hY]; unfold dig; rw [show blk 1 = 64 from rfl, hKd]
  have uY : U8s Y := by rw [← hY]; exact full_u8 uX _
  rw [hY] at hn
  have HF : Hid (∀ r w1, Row .u8 5 w.heap.size w1 r Y → ∃ b c, r = .slice (some ⟨b, 0, none⟩) N c ∧ Calls Tryz.prog 14 #[.slice (some ⟨b, 0, none⟩) N c] w1 fun e w' => ∃ r, e = .returned r ∧ Row .u8 5 w1.heap.size w' r D ∧ Below w1.heap.size w1 w') := fun r w1 h => by
    obtain ⟨b, c, e, h1, h2, h3⟩ := row_rd N h (by omega) (by omega)
    rw [hD2]
    exact ⟨b, c, e, sha1_any b 0 _ c _ K h2 h3 uY (by omega) hN.symm (by omega) h1⟩
  have HX : Hid (Sl .u8 w v X ∧ X.length ≤ 65536 ∧ X ++ fill X.length 64 = Y) := ⟨hX, hl, hY⟩
  rw [hD]
  obtain ⟨a, n, cp, rfl⟩ : ∃ a n c, v = .slice a n c := by obtain ⟨a, c, h, h', _⟩ := hX; exact ⟨a, _, c, h⟩
  clear hK hKl hKd hn hp hX uX hl hD hD2 hY hN uY
  go_enter Tryz.func6, Tryz.ntmps6
  go_wp2_with fail
  refine (filled_64 _ X HX.out.1 (by have := HX.out.2.1; omega)).mono ?_
  rintro e w1 ⟨r1, rfl, hr1, hb1⟩
  rw [HX.out.2.2] at hr1
  obtain ⟨b1, c1, rfl, hc⟩ := HF.out _ _ hr1
  have HB : Hid (Below w.heap.size w w1) := hb1
  have HCl : Hid (Calls Tryz.prog 14 #[.slice (some ⟨b1, 0, none⟩) N c1] w1 fun e w' => ∃ r, e = .returned r ∧ Row .u8 5 w1.heap.size w' r D ∧ Below w1.heap.size w1 w') := hc
  clear hr1 hb1 hc
  go_wp2_with fail
  refine HCl.out.mono ?_
  rintro e w2 ⟨r2, rfl, hr2, hb2⟩
  have H2 : Hid (Row .u8 5 w1.heap.size w2 r2 D ∧ Below w1.heap.size w1 w2) := ⟨hr2, hb2⟩
  clear hr2 hb2
  go_wp2
  go_ret
  exact ⟨_, rfl, H2.out.1.sl, below_via HB.out H2.out.2 (Nat.le_refl _)⟩
set_option maxHeartbeats 1000000 in
theorem RDigest_2 {w : World} (v : Value) (X : List Int) (hX : Sl .u8 w v X) (uX : U8s X) (hl : X.length ≤ 65536) :
    Calls Tryz.prog 6 #[.int .i64 2, v] w fun e w' => ∃ r, e = .returned r ∧ Sl .u8 w' r (dig 2 X) ∧ Below w.heap.size w w' := by
  obtain ⟨K, hK, hKl, hKd⟩ := full_len (B := 64) X.length (.inl rfl)
  have hn := full_n (X := X) (B := 64) (.inl rfl)
  have hp := fillLen_pos (n := X.length) (B := 64) (.inl rfl)
  obtain ⟨Y, hY⟩ : ∃ Y, X ++ fill X.length 64 = Y := ⟨_, rfl⟩
  obtain ⟨N, hN⟩ : ∃ N, 64 * K = N := ⟨_, rfl⟩
  obtain ⟨D, hD⟩ : ∃ D, dig 2 X = D := ⟨_, rfl⟩
  have hD2 : D = out 2 (run 2 Y K) := by rw [← hD, ← hY]; unfold dig; rw [show blk 2 = 64 from rfl, hKd]
  have uY : U8s Y := by rw [← hY]; exact full_u8 uX _
  rw [hY] at hn
  have HF : Hid (∀ r w1, Row .u8 5 w.heap.size w1 r Y → ∃ b c, r = .slice (some ⟨b, 0, none⟩) N c ∧ Calls Tryz.prog 16 #[.slice (some ⟨b, 0, none⟩) N c] w1 fun e w' => ∃ r, e = .returned r ∧ Row .u8 5 w1.heap.size w' r D ∧ Below w1.heap.size w1 w') := fun r w1 h => by
    obtain ⟨b, c, e, h1, h2, h3⟩ := row_rd N h (by omega) (by omega)
    rw [hD2]
    exact ⟨b, c, e, sha256_any b 0 _ c _ K h2 h3 uY (by omega) hN.symm (by omega) h1⟩
  have HX : Hid (Sl .u8 w v X ∧ X.length ≤ 65536 ∧ X ++ fill X.length 64 = Y) := ⟨hX, hl, hY⟩
  rw [hD]
  obtain ⟨a, n, cp, rfl⟩ : ∃ a n c, v = .slice a n c := by obtain ⟨a, c, h, h', _⟩ := hX; exact ⟨a, _, c, h⟩
  clear hK hKl hKd hn hp hX uX hl hD hD2 hY hN uY
  go_enter Tryz.func6, Tryz.ntmps6
  go_wp2_with fail
  refine (filled_64 _ X HX.out.1 (by have := HX.out.2.1; omega)).mono ?_
  rintro e w1 ⟨r1, rfl, hr1, hb1⟩
  rw [HX.out.2.2] at hr1
  obtain ⟨b1, c1, rfl, hc⟩ := HF.out _ _ hr1
  have HB : Hid (Below w.heap.size w w1) := hb1
  have HCl : Hid (Calls Tryz.prog 16 #[.slice (some ⟨b1, 0, none⟩) N c1] w1 fun e w' => ∃ r, e = .returned r ∧ Row .u8 5 w1.heap.size w' r D ∧ Below w1.heap.size w1 w') := hc
  clear hr1 hb1 hc
  go_wp2_with fail
  refine HCl.out.mono ?_
  rintro e w2 ⟨r2, rfl, hr2, hb2⟩
  have H2 : Hid (Row .u8 5 w1.heap.size w2 r2 D ∧ Below w1.heap.size w1 w2) := ⟨hr2, hb2⟩
  clear hr2 hb2
  go_wp2
  go_ret
  exact ⟨_, rfl, H2.out.1.sl, below_via HB.out H2.out.2 (Nat.le_refl _)⟩
theorem sl_cut {w : World} {b c : Nat} {D E : List Int} (hb : b < w.heap.size) (hc : 48 ≤ c) (hr : Rd .u8 w b 0 D) (he : D.take 48 = E) (hl : D.length = 64) : Sl .u8 w (.slice (some ⟨b, 0, none⟩) 48 c) E := by
  have hle : E.length = 48 := by rw [← he, List.length_take]; omega
  refine ⟨_, _, by rw [hle], by omega, .inr ⟨b, 0, rfl, hb, ?_⟩⟩
  rw [← he]; exact hr.take 48
set_option maxRecDepth 4000 in
set_option maxHeartbeats 1000000 in
theorem RDigest_3 {w : World} (v : Value) (X : List Int) (hX : Sl .u8 w v X) (uX : U8s X) (hl : X.length ≤ 65536) :
    Calls Tryz.prog 6 #[.int .i64 3, v] w fun e w' => ∃ r, e = .returned r ∧ Sl .u8 w' r (dig 3 X) ∧ Below w.heap.size w w' := by
  obtain ⟨K, hK, hKl, hKd⟩ := full_len (B := 128) X.length (.inr rfl)
  have hn := full_n (X := X) (B := 128) (.inr rfl)
  have hp := fillLen_pos (n := X.length) (B := 128) (.inr rfl)
  obtain ⟨Y, hY⟩ : ∃ Y, X ++ fill X.length 128 = Y := ⟨_, rfl⟩
  obtain ⟨N, hN⟩ : ∃ N, 128 * K = N := ⟨_, rfl⟩
  obtain ⟨E, hE⟩ : ∃ E, dig 3 X = E := ⟨_, rfl⟩
  obtain ⟨D, hD⟩ : ∃ D, out 4 (run 3 Y K) = D := ⟨_, rfl⟩
  have HD : Hid (D.take 48 = E ∧ D.length = 64) := by
    refine ⟨?_, by rw [← hD]; exact out_len 4 _⟩
    rw [← hE, ← hD, ← hY]; rw [out_cut]; unfold dig; rw [show blk 3 = 128 from rfl, hKd]
  have uY : U8s Y := by rw [← hY]; exact full_u8 uX _
  rw [hY] at hn
  have HF : Hid (∀ r w1, Row .u8 5 w.heap.size w1 r Y → ∃ b c, r = .slice (some ⟨b, 0, none⟩) N c ∧ Calls Tryz.prog 17 #[.slice (some ⟨b, 0, none⟩) N c, .agg #[.int .u64 14680500436340154072, .int .u64 7105036623409894663, .int .u64 10473403895298186519, .int .u64 1526699215303891257, .int .u64 7436329637833083697, .int .u64 10282925794625328401, .int .u64 15784041429090275239, .int .u64 5167115440072839076]] w1 fun e w' => ∃ r, e = .returned r ∧ Row .u8 5 w1.heap.size w' r D ∧ Below w1.heap.size w1 w') := fun r w1 h => by
    obtain ⟨b, c, e, h1, h2, h3⟩ := row_rd N h (by omega) (by omega)
    rw [← hD]
    exact ⟨b, c, e, sha512_any 3 (.inl rfl) b 0 _ c _ K ⟨14680500436340154072, 7105036623409894663, 10473403895298186519, 1526699215303891257, 7436329637833083697, 10282925794625328401, 15784041429090275239, 5167115440072839076⟩ rfl h2 h3 uY (by omega) hN.symm (by omega) h1⟩
  have HX : Hid (Sl .u8 w v X ∧ X.length ≤ 65536 ∧ X ++ fill X.length 128 = Y) := ⟨hX, hl, hY⟩
  rw [hE]
  obtain ⟨a, n, cp, rfl⟩ : ∃ a n c, v = .slice a n c := by obtain ⟨a, c, h, h', _⟩ := hX; exact ⟨a, _, c, h⟩
  clear hK hKl hKd hn hp hX uX hl hD hE hY hN uY
  go_enter Tryz.func6, Tryz.ntmps6
  go_wp2_with fail
  refine (filled_128 _ X HX.out.1 (by have := HX.out.2.1; omega)).mono ?_
  rintro e w1 ⟨r1, rfl, hr1, hb1⟩
  rw [HX.out.2.2] at hr1
  obtain ⟨b1, c1, rfl, hc⟩ := HF.out _ _ hr1
  have HB : Hid (Below w.heap.size w w1) := hb1
  have HCl : Hid (Calls Tryz.prog 17 #[.slice (some ⟨b1, 0, none⟩) N c1, .agg #[.int .u64 14680500436340154072, .int .u64 7105036623409894663, .int .u64 10473403895298186519, .int .u64 1526699215303891257, .int .u64 7436329637833083697, .int .u64 10282925794625328401, .int .u64 15784041429090275239, .int .u64 5167115440072839076]] w1 fun e w' => ∃ r, e = .returned r ∧ Row .u8 5 w1.heap.size w' r D ∧ Below w1.heap.size w1 w') := hc
  clear hr1 hb1 hc
  go_wp2_with fail
  refine HCl.out.mono ?_
  rintro e w2 ⟨r2, rfl, hr2, hb2⟩
  have H2 : Hid (Row .u8 5 w1.heap.size w2 r2 D ∧ Below w1.heap.size w1 w2) := ⟨hr2, hb2⟩
  clear hr2 hb2
  obtain ⟨b2, c2, rfl, hc2, hl2, hrd⟩ := row_rd 64 H2.out.1 HD.out.2 (by omega)
  have HR : Hid (b2 < w2.heap.size ∧ Rd .u8 w2 b2 0 D) := ⟨hl2, hrd⟩
  clear hl2 hrd
  go_wp2
  go_ret
  exact ⟨_, rfl, sl_cut HR.out.1 (by omega) HR.out.2 HD.out.1 HD.out.2, below_via HB.out H2.out.2 (Nat.le_refl _)⟩
set_option maxRecDepth 4000 in
set_option maxHeartbeats 1000000 in
theorem RDigest_4 {w : World} (v : Value) (X : List Int) (hX : Sl .u8 w v X) (uX : U8s X) (hl : X.length ≤ 65536) :
    Calls Tryz.prog 6 #[.int .i64 4, v] w fun e w' => ∃ r, e = .returned r ∧ Sl .u8 w' r (dig 4 X) ∧ Below w.heap.size w w' := by
  obtain ⟨K, hK, hKl, hKd⟩ := full_len (B := 128) X.length (.inr rfl)
  have hn := full_n (X := X) (B := 128) (.inr rfl)
  have hp := fillLen_pos (n := X.length) (B := 128) (.inr rfl)
  obtain ⟨Y, hY⟩ : ∃ Y, X ++ fill X.length 128 = Y := ⟨_, rfl⟩
  obtain ⟨N, hN⟩ : ∃ N, 128 * K = N := ⟨_, rfl⟩
  obtain ⟨E, hE⟩ : ∃ E, dig 4 X = E := ⟨_, rfl⟩
  obtain ⟨D, hD⟩ : ∃ D, out 4 (run 4 Y K) = D := ⟨_, rfl⟩
  have HD : Hid (D = E ∧ D.length = 64) := by
    refine ⟨?_, by rw [← hD]; exact out_len 4 _⟩
    rw [← hE, ← hD, ← hY]; unfold dig; rw [show blk 4 = 128 from rfl, hKd]
  have uY : U8s Y := by rw [← hY]; exact full_u8 uX _
  rw [hY] at hn
  have HF : Hid (∀ r w1, Row .u8 5 w.heap.size w1 r Y → ∃ b c, r = .slice (some ⟨b, 0, none⟩) N c ∧ Calls Tryz.prog 17 #[.slice (some ⟨b, 0, none⟩) N c, .agg #[.int .u64 7640891576956012808, .int .u64 13503953896175478587, .int .u64 4354685564936845355, .int .u64 11912009170470909681, .int .u64 5840696475078001361, .int .u64 11170449401992604703, .int .u64 2270897969802886507, .int .u64 6620516959819538809]] w1 fun e w' => ∃ r, e = .returned r ∧ Row .u8 5 w1.heap.size w' r D ∧ Below w1.heap.size w1 w') := fun r w1 h => by
    obtain ⟨b, c, e, h1, h2, h3⟩ := row_rd N h (by omega) (by omega)
    rw [← hD]
    exact ⟨b, c, e, sha512_any 4 (.inr rfl) b 0 _ c _ K ⟨7640891576956012808, 13503953896175478587, 4354685564936845355, 11912009170470909681, 5840696475078001361, 11170449401992604703, 2270897969802886507, 6620516959819538809⟩ rfl h2 h3 uY (by omega) hN.symm (by omega) h1⟩
  have HX : Hid (Sl .u8 w v X ∧ X.length ≤ 65536 ∧ X ++ fill X.length 128 = Y) := ⟨hX, hl, hY⟩
  rw [hE]
  obtain ⟨a, n, cp, rfl⟩ : ∃ a n c, v = .slice a n c := by obtain ⟨a, c, h, h', _⟩ := hX; exact ⟨a, _, c, h⟩
  clear hK hKl hKd hn hp hX uX hl hD hE hY hN uY
  go_enter Tryz.func6, Tryz.ntmps6
  go_wp2_with fail
  refine (filled_128 _ X HX.out.1 (by have := HX.out.2.1; omega)).mono ?_
  rintro e w1 ⟨r1, rfl, hr1, hb1⟩
  rw [HX.out.2.2] at hr1
  obtain ⟨b1, c1, rfl, hc⟩ := HF.out _ _ hr1
  have HB : Hid (Below w.heap.size w w1) := hb1
  have HCl : Hid (Calls Tryz.prog 17 #[.slice (some ⟨b1, 0, none⟩) N c1, .agg #[.int .u64 7640891576956012808, .int .u64 13503953896175478587, .int .u64 4354685564936845355, .int .u64 11912009170470909681, .int .u64 5840696475078001361, .int .u64 11170449401992604703, .int .u64 2270897969802886507, .int .u64 6620516959819538809]] w1 fun e w' => ∃ r, e = .returned r ∧ Row .u8 5 w1.heap.size w' r D ∧ Below w1.heap.size w1 w') := hc
  clear hr1 hb1 hc
  go_wp2_with fail
  refine HCl.out.mono ?_
  rintro e w2 ⟨r2, rfl, hr2, hb2⟩
  have H2 : Hid (Row .u8 5 w1.heap.size w2 r2 D ∧ Below w1.heap.size w1 w2) := ⟨hr2, hb2⟩
  clear hr2 hb2
  go_wp2
  go_ret
  exact ⟨_, rfl, by rw [← HD.out.1]; exact H2.out.1.sl, below_via HB.out H2.out.2 (Nat.le_refl _)⟩
theorem Digest_ok : DigestC := fun alg ha w v X h1 h2 h3 => by
  rcases ha with rfl | rfl | rfl | rfl
  · exact RDigest_1 v X h1 h2 h3
  · exact RDigest_2 v X h1 h2 h3
  · exact RDigest_3 v X h1 h2 h3
  · exact RDigest_4 v X h1 h2 h3
end Go.Proofs.YtjmiaakfdclfjaaGreatDoor.Sh
/-
  Rsa: Mask where its arguments may not be; the law RsaMasks.
-/
namespace Go.Proofs.YtjmiaakfdclfjaaGreatDoor
open Go.RowKit
set_option maxRecDepth 20000
theorem msk_len {alg : Int} {X : List Int} {n : Nat} (h : 0 < Sh.siz alg) : (Sh.msk alg X n).length = n := by
  unfold Sh.msk
  rw [List.length_take, Sh.mdg_len]
  have h1 := Nat.div_add_mod n (Sh.siz alg)
  have h2 := Nat.mod_lt n h
  rw [Nat.add_mul, Nat.one_mul, Nat.mul_comm]
  omega
end Go.Proofs.YtjmiaakfdclfjaaGreatDoor
/-
  Rsa: signatures in the second way: what is cut of a message.
-/
namespace Go.Proofs.YtjmiaakfdclfjaaGreatDoor
open Go.RowKit
set_option maxRecDepth 20000
/-- The bytes from a place in a block. -/
def At (w : World) (b off n c : Nat) (L : List Int) : Prop := L.length = n ∧ n ≤ c ∧ b < w.heap.size ∧ Rd .u8 w b off L
theorem At.sl {w : World} {b off n c : Nat} {L : List Int} (h : At w b off n c L) : Sl .u8 w (.slice (some ⟨b, off, none⟩) n c) L :=
  ⟨_, _, by rw [h.1], by rw [h.1]; exact h.2.1, .inr ⟨b, off, rfl, h.2.2.1, h.2.2.2⟩⟩
theorem At.below {w w' : World} {b off n c : Nat} {L : List Int} (h : At w b off n c L) (hb : Below w.heap.size w w') : At w' b off n c L := ⟨h.1, h.2.1, Nat.lt_of_lt_of_le h.2.2.1 hb.size, below_rd hb h.2.2.1 h.2.2.2⟩
theorem At.drop {w : World} {b off n c : Nat} {L : List Int} (h : At w b off n c L) (k : Nat) (hk : k ≤ n) : At w b (off + k) (n - k) (c - k) (L.drop k) :=
  ⟨by rw [List.length_drop, h.1], by have := h.2.1; omega, h.2.2.1, fun i hi => by
    have h1 := h.1
    simp at hi
    have := h.2.2.2 (k + i) (by omega)
    rw [show off + k + i = off + (k + i) by omega, this]; simp [List.getElem?_drop]⟩
theorem At.take {w : World} {b off n c : Nat} {L : List Int} (h : At w b off n c L) (k : Nat) (hk : k ≤ n) : At w b off k c (L.take k) :=
  ⟨by rw [List.length_take, h.1]; omega, by have := h.2.1; omega, h.2.2.1, h.2.2.2.take k⟩
theorem at_of {w : World} {a : Option Addr} {n c : Nat} {L : List Int} (h : Sl .u8 w (.slice a n c) L) (hL : L.length = n) (h0 : 0 < n) : ∃ b off, a = some ⟨b, off, none⟩ ∧ At w b off n c L := by
  obtain ⟨a', c', he, hc, h⟩ := h
  cases he
  rcases h with h | ⟨b, off, rfl, hb, hr⟩
  · rw [h] at h0; simp at h0
  · exact ⟨b, off, rfl, rfl, hc, hb, hr⟩
theorem At.cell {w : World} {b off n c : Nat} {L : List Int} (h : At w b off n c L) (i : Nat) (hi : i < n) : w.cell? ⟨b, off + i, none⟩ = some (.int .u8 (L.getD i 0)) := h.2.2.2 i (by rw [h.1]; exact hi)
set_option maxHeartbeats 1000000 in
theorem lowest_any {w : World} (b off Z c n k : Nat) (L : List Int) (h : At w b off Z c L) (hk : Z = n + k) (hk1 : k ≤ 1) (hn : 0 < n) (hZ : Z ≤ 100000) (q : Bool) (hq : (decide (k = 0) || decide (L.getD 0 0 = 0)) = q) :
    Calls Tryz.prog 26 #[.slice (some ⟨b, off, none⟩) Z c, .int .i64 n] w fun e w' => e = .returned (.tuple #[.slice (some ⟨b, off + k, none⟩) n (c - k), .bool q]) ∧ Below w.heap.size w w' := by
  have hc0 : w.cell? ⟨b, off, none⟩ = some (.int .u8 (L.getD 0 0)) := by have := h.cell 0 (by omega); simpa using this
  have hcZ := h.2.1
  obtain ⟨x, hx⟩ : ∃ x, L.getD 0 0 = x := ⟨_, rfl⟩
  rw [hx] at hc0 hq
  clear hx h
  rcases Nat.lt_or_ge 0 k with h0 | h0
  · have hk0 : k = 1 := by omega
    subst hk0
    have d1 : ((Z : Int) == (n : Int)) = false := by simp; omega
    have d2 : (x == 0) = q := by rw [← hq]; simp; rfl
    have e1 : IntKind.i64.wrap ((Z : Int) - (n : Int)) = 1 := by rw [show (Z : Int) - (n : Int) = 1 by omega]; decide
    have hc1 : ¬ c = 1 := by omega
    have hZ1 : 1 ≤ Z := by omega
    have HZn : Hid (Z = n + 1) := hk
    clear hk hq h0 hk1
    go_enter Tryz.func26, Tryz.ntmps26
    go_wp2
    go_quiet (fail)
    go_wp2
    go_ret2
    have e3 : Z - 1 = n := by have := HZn.out; omega
    exact ⟨by show Ending.returned (.tuple #[.slice (some ⟨b, off + 1, none⟩) (Z - 1) (c - 1), .bool q]) = _; rw [e3], below_drewN nq (Below.refl _ _)⟩
  · have hk0 : k = 0 := by omega
    subst hk0
    have hZn : Z = n := by omega
    subst hZn
    have d2 : q = true := by rw [← hq]; simp
    have e1 : IntKind.i64.wrap ((Z : Int) - (Z : Int)) = 0 := by rw [show (Z : Int) - (Z : Int) = 0 by omega]; decide
    have hc1 : ¬ c = 0 := by omega
    subst d2
    clear hk hq h0 hk1
    go_enter Tryz.func26, Tryz.ntmps26
    go_wp2
    go_quiet (fail)
    go_wp2
    go_ret2
    exact ⟨rfl, below_drewN nq (Below.refl _ _)⟩
set_option maxHeartbeats 1000000 in
theorem cutMessage_no {w : World} (b off c m h : Nat) (s : Int) (L : List Int) (hL : At w b off (m + 1) c L) (hm : m ≤ 100000) (hh : h ≤ 100) (_hs : 0 ≤ s) (_hs1 : s ≤ 9223372036854775807) (hn : (m : Int) - h - 1 < s ∨ L.getD m 0 ≠ 188) :
    Calls Tryz.prog 28 #[.slice (some ⟨b, off, none⟩) (m + 1) c, .int .i64 h, .int .i64 s] w fun e w' => e = .returned (.tuple #[.slice none 0 0, .slice none 0 0, .bool false]) ∧ w' = w := by
  have hc0 : w.cell? ⟨b, off + m, none⟩ = some (.int .u8 (L.getD m 0)) := hL.cell m (by omega)
  have hc := hL.2.1
  obtain ⟨x, hx⟩ : ∃ x, L.getD m 0 = x := ⟨_, rfl⟩
  rw [hx] at hc0 hn
  clear hx hL
  by_cases h1 : (m : Int) - h - 1 < s
  · have d1 : decide ((m : Int) - h - 1 < s) = true := by simpa using h1
    clear hn h1
    go_enter Tryz.func28, Tryz.ntmps28
    go_wp2
    refine bodyPost_ret (results_tmp3 rfl _ _ _) rfl ?_
    exact ⟨rfl, rfl⟩
  · have d1 : decide ((m : Int) - h - 1 < s) = false := by simpa using h1
    have d2 : (x != 188) = true := by simpa using hn.resolve_left h1
    clear hn h1
    go_enter Tryz.func28, Tryz.ntmps28
    go_wp2
    refine bodyPost_ret (results_tmp3 rfl _ _ _) rfl ?_
    exact ⟨rfl, rfl⟩
set_option maxHeartbeats 1000000 in
theorem cutMessage_yes {w : World} (b off c m h t : Nat) (s : Int) (L : List Int) (hL : At w b off (m + 1) c L) (hm : m ≤ 100000) (hh : h ≤ 100) (_hs : 0 ≤ s) (_hs1 : s ≤ 9223372036854775807) (hn : ¬ (m : Int) - h - 1 < s) (hx : L.getD m 0 = 188) (ht : m = t + h) :
    Calls Tryz.prog 28 #[.slice (some ⟨b, off, none⟩) (m + 1) c, .int .i64 h, .int .i64 s] w fun e w' => e = .returned (.tuple #[.slice (some ⟨b, off, none⟩) t c, .slice (some ⟨b, off + t, none⟩) h (c - t), .bool true]) ∧ Below w.heap.size w w' := by
  have hc0 : w.cell? ⟨b, off + m, none⟩ = some (.int .u8 (L.getD m 0)) := hL.cell m (by omega)
  have hc := hL.2.1
  rw [hx] at hc0
  have d1 : decide ((m : Int) - h - 1 < s) = false := by simpa using hn
  have e1 : IntKind.i64.wrap ((m : Int) - (h : Int)) = (t : Int) := by rw [show (m : Int) - (h : Int) = t by omega, IntKind.wrap_i64]; omega
  have d3 : decide ((t : Int) - 1 < s) = false := by simp; omega
  have hct : ¬ c = t := by omega
  have htm : t ≤ m := by omega
  have htc : t ≤ c := by omega
  have HT : Hid (m - t = h) := by show _ = _; omega
  clear hx hL hn ht
  go_enter Tryz.func28, Tryz.ntmps28
  go_wp2
  go_quiet (fail)
  go_wp2
  refine bodyPost_ret (results_tmp3 rfl _ _ _) rfl ?_
  exact ⟨by show Ending.returned (.tuple #[.slice (some ⟨b, off, none⟩) t c, .slice (some ⟨b, off + t, none⟩) (m - t) (c - t), .bool true]) = _; rw [HT.out], below_drewN nq (Below.refl _ _)⟩
end Go.Proofs.YtjmiaakfdclfjaaGreatDoor
/-
  Rsa: signatures in the second way: what was masked; what stands ahead of the salt.
-/
namespace Go.Proofs.YtjmiaakfdclfjaaGreatDoor
open Go.RowKit
set_option maxRecDepth 20000
/-- Two rows, byte against byte. -/
def xors (M V : List Int) : List Int := List.zipWith (fun x v => bits .xor .u8 v x) M V
theorem xor_nat8 (a b : Nat) (ha : a < 256) (hb : b < 256) : bits .xor .u8 a b = ((a ^^^ b : Nat) : Int) := by
  have ha' : a % 2 ^ IntKind.u8.bits = a := Nat.mod_eq_of_lt ha
  have hb' : b % 2 ^ IntKind.u8.bits = b := Nat.mod_eq_of_lt hb
  simp only [bits, BitVec.ofInt_natCast, BitVec.toNat_xor, BitVec.toNat_ofNat, ha', hb']
  refine wraps_u8 _ (Int.natCast_nonneg _) ?_
  have : a ^^^ b < 2 ^ 8 := Nat.xor_lt_two_pow ha hb
  exact_mod_cast this
theorem xor_u8 {x y : Int} (hx : U8 x) (hy : U8 y) : U8 (bits .xor .u8 x y) := by
  obtain ⟨a, rfl⟩ : ∃ a : Nat, x = a := ⟨x.toNat, by have := hx.1; omega⟩
  obtain ⟨b, rfl⟩ : ∃ b : Nat, y = b := ⟨y.toNat, by have := hy.1; omega⟩
  have h1 := hx.2; have h2 := hy.2
  rw [xor_nat8 a b (by omega) (by omega)]
  have : a ^^^ b < 2 ^ 8 := Nat.xor_lt_two_pow (by omega) (by omega)
  exact ⟨by omega, by omega⟩
theorem xor_comm8 {x y : Int} (hx : U8 x) (hy : U8 y) : bits .xor .u8 x y = bits .xor .u8 y x := by
  obtain ⟨a, rfl⟩ : ∃ a : Nat, x = a := ⟨x.toNat, by have := hx.1; omega⟩
  obtain ⟨b, rfl⟩ : ∃ b : Nat, y = b := ⟨y.toNat, by have := hy.1; omega⟩
  have h1 := hx.2; have h2 := hy.2
  rw [xor_nat8 a b (by omega) (by omega), xor_nat8 b a (by omega) (by omega), Nat.xor_comm]
/-- What the highest bits leave room for. -/
def room (sp : Nat) : Int := (255 : Int) / 2 ^ sp
theorem and_room {x : Int} (hx : U8 x) (sp : Nat) (hs : sp ≤ 7) : bits .and .u8 x (room sp) = x % 2 ^ (8 - sp) := by
  obtain ⟨a, rfl⟩ : ∃ a : Nat, x = a := ⟨x.toNat, by have := hx.1; omega⟩
  have h1 := hx.2
  have : ∀ (a : Fin 256) (s : Fin 8), bits .and .u8 ((a : Nat) : Int) ((255 : Int) / 2 ^ (s : Nat)) = ((a : Nat) : Int) % 2 ^ (8 - (s : Nat)) := by decide +kernel
  exact this ⟨a, by omega⟩ ⟨sp, by omega⟩
theorem andNot_room {x : Int} (hx : U8 x) (sp : Nat) (hs : sp ≤ 7) : (bits .andNot .u8 x (room sp) != 0) = decide (x / 2 ^ (8 - sp) ≠ 0) := by
  obtain ⟨a, rfl⟩ : ∃ a : Nat, x = a := ⟨x.toNat, by have := hx.1; omega⟩
  have h1 := hx.2
  have : ∀ (a : Fin 256) (s : Fin 8), (bits .andNot .u8 ((a : Nat) : Int) ((255 : Int) / 2 ^ (s : Nat)) != 0) = decide (((a : Nat) : Int) / 2 ^ (8 - (s : Nat)) ≠ 0) := by decide +kernel
  exact this ⟨a, by omega⟩ ⟨sp, by omega⟩
/-- What was masked: byte against byte, the highest bits of the first one taken off. -/
def umS (M V : List Int) (sp : Nat) : List Int := match xors M V with
  | [] => []
  | y :: r => y % 2 ^ (8 - sp) :: r
theorem xors_len {M V : List Int} (h : V.length = M.length) : (xors M V).length = M.length := by simp [xors, h]
theorem umS_len {M V : List Int} {sp : Nat} (h : V.length = M.length) : (umS M V sp).length = M.length := by
  have h1 := xors_len h
  unfold umS
  cases hx : xors M V with
  | nil => rw [hx] at h1; exact h1
  | cons y r => rw [hx] at h1; exact h1
theorem xors_get {M V : List Int} (h : V.length = M.length) (i : Nat) (hi : i < M.length) : (xors M V).getD i 0 = bits .xor .u8 (V.getD i 0) (M.getD i 0) := by
  simp [xors, List.getElem?_zipWith, List.getElem?_eq_getElem hi, List.getElem?_eq_getElem (show i < V.length by omega)]
theorem xors_u8 {M V : List Int} (uM : U8s M) (uV : U8s V) : U8s (xors M V) := by
  intro x hx
  unfold xors at hx
  obtain ⟨i, hi, rfl⟩ := List.mem_iff_getElem.1 hx
  simp at hi
  simp
  exact xor_u8 (uV _ (List.getElem_mem _)) (uM _ (List.getElem_mem _))
theorem umS_u8 {M V : List Int} {sp : Nat} (uM : U8s M) (uV : U8s V) : U8s (umS M V sp) := by
  have h := xors_u8 uM uV
  unfold umS
  cases hx : xors M V with
  | nil => intro x hx; simp at hx
  | cons y r =>
    rw [hx] at h
    intro z hz
    simp at hz
    rcases hz with rfl | hz
    · have hy := h y (by simp)
      have hp : (0 : Int) < 2 ^ (8 - sp) := Int.pow_pos (by decide)
      refine ⟨Int.emod_nonneg _ (by omega), ?_⟩
      obtain ⟨a, rfl⟩ : ∃ a : Nat, y = a := ⟨y.toNat, by have := hy.1; omega⟩
      have e : ((a : Int) % (2 : Int) ^ (8 - sp)) = ((a % 2 ^ (8 - sp) : Nat) : Int) := by simp
      have h1 := Nat.mod_le a (2 ^ (8 - sp))
      have h2 := hy.2
      rw [e]; omega
    · exact h z (by simp [hz])
theorem msk_u8 {alg : Int} {X : List Int} {n : Nat} : U8s (Sh.msk alg X n) := by
  intro x hx
  unfold Sh.msk at hx
  have h := List.mem_of_mem_take hx
  unfold Sh.mdg at h
  obtain ⟨i, _, h⟩ := List.mem_flatMap.1 h
  unfold Sh.dig at h
  exact Sh.out_u8 _ _ x h
set_option maxHeartbeats 4000000 in
theorem unmask_any {w : World} (hT : Sh.Tabs w) (b off t c : Nat) (M : List Int) (hM : At w b off t c M) (uM : U8s M) (h0 : 0 < t) (ht : t ≤ 2048) (b' off' h c' : Nat) (H : List Int) (hH : At w b' off' h c' H) (uH : U8s H) (hh : h ≤ 8192) (mask : Int) (hm : 0 < Sh.siz mask) (sp : Nat) (hs : sp ≤ 7) :
    Calls Tryz.prog 29 #[.slice (some ⟨b, off, none⟩) t c, .slice (some ⟨b', off', none⟩) h c', .int .i64 mask, .int .i64 sp] w fun e w' =>
      ((M.getD 0 0 / 2 ^ (8 - sp) ≠ 0 ∧ e = .returned (.tuple #[.slice none 0 0, .bool false])) ∨
       (M.getD 0 0 / 2 ^ (8 - sp) = 0 ∧ ∃ d, e = .returned (.tuple #[.slice (some ⟨d, 0, none⟩) t t, .bool true]) ∧ At w' d 0 t t (umS M (Sh.msk mask H t) sp))) ∧ Below w.heap.size w w' := by
  have hML := hM.1
  have HMk : Hid (Calls Tryz.prog 10 #[.int .i64 mask, .slice (some ⟨b', off', none⟩) h c', .int .i64 t] w fun e w' => ∃ d, e = .returned (.tuple #[.slice (some ⟨d, 0, none⟩) t t, .int .i64 0]) ∧ w.heap.size ≤ d ∧ Arr .u8 5 w' d (Sh.msk mask H t) ∧ Below w.heap.size w w') := by
    refine (Sh.Mask_any mask (siz_pos.1 hm) hT _ H hH.sl uH (by have := hH.1; omega) t ht).mono ?_
    rintro e w' ⟨rfl, hA, hB⟩
    exact ⟨_, rfl, Nat.le_refl _, hA, hB⟩
  obtain ⟨V, hV⟩ : ∃ V, Sh.msk mask H t = V := ⟨_, rfl⟩
  have HVl : Hid (V.length = t ∧ U8s V) := ⟨by rw [← hV]; exact msk_len hm, by rw [← hV]; exact msk_u8⟩
  rw [hV] at HMk ⊢
  have HMt : Hid (At w b off t c M ∧ U8s M ∧ M.length = t) := ⟨hM, uM, hML⟩
  obtain ⟨x0, hx0⟩ : ∃ x, M.getD 0 0 = x := ⟨_, rfl⟩
  have HX0 : Hid (M.getD 0 0 = x0) := hx0
  have hu0 : U8 x0 := by rw [← hx0]; exact uM.at 0
  have HA1 : Hid (∀ y, U8 y → bits .and .u8 y (room sp) = y % 2 ^ (8 - sp)) := fun y hy => and_room hy sp hs
  have HA2 : Hid ((bits .andNot .u8 x0 (room sp) != 0) = decide (x0 / 2 ^ (8 - sp) ≠ 0)) := andNot_room hu0 sp hs
  rw [hx0]
  clear hV hT hM uM hML hH uH hh hm hx0
  go_enter Tryz.func29, Tryz.ntmps29
  go_wp2_with fail
  refine HMk.out.mono ?_
  rintro e w1 ⟨d, rfl, hd, hA1, hb1⟩
  have hc0 : w1.cell? ⟨b, off, none⟩ = some (.int .u8 x0) := by have := (HMt.out.1.below hb1).cell 0 h0; rw [HX0.out] at this; simpa using this
  have H1 : Hid (w.heap.size ≤ d ∧ Arr .u8 5 w1 d V ∧ Below w.heap.size w w1) := ⟨hd, hA1, hb1⟩
  clear hd hA1 hb1
  have HA3 : Hid ((bits .andNot .u8 x0 ((255 : Int) / 2 ^ sp) != 0) = decide (x0 / 2 ^ (8 - sp) ≠ 0)) := HA2.out
  by_cases hz : x0 / 2 ^ (8 - sp) = 0
  · have dz : (bits .andNot .u8 x0 ((255 : Int) / 2 ^ sp) != 0) = false := by rw [HA3.out]; simpa using hz
    have HZ : Hid (x0 / 2 ^ (8 - sp) = 0) := hz
    clear hz HA2 HA3
    go_wp2_with fail
    clear dz
    go_loopw [36] (fun i wr => ∃ k : Nat, k ≤ t ∧ i = .int .i64 k ∧ Arr .u8 5 wr d ((xors M V).take k ++ V.drop k) ∧ Upd w1 wr d) (fun i _ => t - (intOf i).toNat)
    case atStart => exact ⟨0, Nat.zero_le _, rfl, by simpa using H1.out.2.1, Upd.refl _ _⟩
    case round =>
      obtain ⟨k, hk, rfl, hA, hU⟩ := hrel
      have hlX : (xors M V).length = t := by rw [xors_len (by rw [HVl.out.1, HMt.out.2.2]), HMt.out.2.2]
      have hlN : ((xors M V).take k ++ V.drop k).length = t := by rw [List.length_append, List.length_take, List.length_drop, hlX, HVl.out.1]; omega
      by_cases hkt : k < t
      · have hgk : ((xors M V).take k ++ V.drop k).getD k 0 = V.getD k 0 := by
          rw [List.getD_eq_getElem?_getD, List.getElem?_append_right (by rw [List.length_take, hlX]; omega), List.length_take, hlX, List.getElem?_drop]
          simp [show min k t = k by omega]
        have hcv : wr.cell? ⟨d, k, none⟩ = some (.int .u8 (V.getD k 0)) := by rw [hA.cell k (by omega), hgk]
        have hfr := hA.frozen k
        have hb := H1.out.1
        have hcm : wr.cell? ⟨b, off + k, none⟩ = some (.int .u8 (M.getD k 0)) := by
          have h1 := (HMt.out.1.below H1.out.2.2)
          exact hU.rd h1.2.2.1 h1.2.2.2 (by have := HMt.out.1.2.2.1; omega) k (by rw [HMt.out.2.2]; exact hkt)
        obtain ⟨v, hv⟩ : ∃ v, V.getD k 0 = v := ⟨_, rfl⟩
        obtain ⟨m, hm⟩ : ∃ m, M.getD k 0 = m := ⟨_, rfl⟩
        rw [hv] at hcv
        rw [hm] at hcm
        have HN : Hid (Arr .u8 5 (wr.setCell ⟨d, k, none⟩ (.int .u8 (bits .xor .u8 v m))) d ((xors M V).take (k + 1) ++ V.drop (k + 1)) ∧ Upd w1 (wr.setCell ⟨d, k, none⟩ (.int .u8 (bits .xor .u8 v m))) d) := by
          refine ⟨?_, hU.trans (Upd.set wr d k _)⟩
          have h2 := hA.set k (bits .xor .u8 v m)
          have e : ((xors M V).take k ++ V.drop k).set k (bits .xor .u8 v m) = (xors M V).take (k + 1) ++ V.drop (k + 1) := by
            have hx := xors_get (M := M) (V := V) (by rw [HVl.out.1, HMt.out.2.2]) k (by rw [HMt.out.2.2]; exact hkt)
            rw [hv, hm] at hx
            have hlV := HVl.out.1
            rw [List.set_append_right _ _ (by rw [List.length_take, hlX]; omega), List.length_take, hlX, show k - min k t = 0 by omega, List.drop_eq_getElem_cons (by omega), List.set_cons_zero, List.take_succ_eq_append_getElem (by omega), List.append_assoc]
            congr 1
            simp [List.getD, List.getElem?_eq_getElem (show k < (xors M V).length by omega)] at hx
            rw [hx]; rfl
          rw [e] at h2; exact h2
        have hkc : k < c := by have := HMt.out.1.2.1; omega
        clear hA hU hlX hlN hgk hb hv hm
        go_wp2
        go_roundw
        case rel => exact ⟨k + 1, by omega, by go_num, HN.out.1, HN.out.2⟩
        case measure => simp [intOf]; omega
      · have hkk : k = t := by omega
        subst hkk
        have hlV := HVl.out.1
        rw [List.take_of_length_le (by omega), List.drop_of_length_le (by omega), List.append_nil] at hA
        obtain ⟨y, r, hyr⟩ : ∃ y r, xors M V = y :: r := by
          cases hx : xors M V with
          | nil => rw [hx] at hlX; simp at hlX; omega
          | cons y r => exact ⟨y, r, rfl⟩
        have hy8 : U8 y := xors_u8 HMt.out.2.1 HVl.out.2 y (by rw [hyr]; simp)
        have hand : bits .and .u8 y ((255 : Int) / 2 ^ sp) = y % 2 ^ (8 - sp) := HA1.out y hy8
        rw [hyr] at hA
        have hcv : wr.cell? ⟨d, 0, none⟩ = some (.int .u8 y) := by have := hA.cell 0 (by simp); simpa using this
        have hfr := hA.frozen 0
        have HN : Hid (Arr .u8 5 (wr.setCell ⟨d, 0, none⟩ (.int .u8 (y % 2 ^ (8 - sp)))) d (umS M V sp) ∧ Below w.heap.size w (wr.setCell ⟨d, 0, none⟩ (.int .u8 (y % 2 ^ (8 - sp)))) ∧ (umS M V sp).length = k) := by
          have h2 := hA.set 0 (y % 2 ^ (8 - sp))
          refine ⟨by unfold umS; rw [hyr]; exact h2, (hU.trans (Upd.set wr d 0 _)).below H1.out.2.2 H1.out.2.2.size H1.out.1, by rw [umS_len (by rw [hlV, HMt.out.2.2]), HMt.out.2.2]⟩
        clear hA hU hlX hlN hyr hy8 hlV
        go_wp2
        refine bodyPost_ret (results_tmp2 rfl _ _ _) rfl ?_
        refine ⟨.inr ⟨HZ.out, d, rfl, HN.out.2.2, Nat.le_refl _, HN.out.1.lt, ?_⟩, HN.out.2.1⟩
        have h3 := HN.out.1.rd 0 k (by rw [HN.out.2.2]; omega)
        rw [List.drop_zero, List.take_of_length_le (by rw [HN.out.2.2]; exact Nat.le_refl _)] at h3
        exact h3
  · have dz : (bits .andNot .u8 x0 ((255 : Int) / 2 ^ sp) != 0) = true := by rw [HA3.out]; simpa using hz
    have HZ : Hid (x0 / 2 ^ (8 - sp) ≠ 0) := hz
    clear hz HA2 HA3
    go_wp2
    refine bodyPost_ret (results_tmp2 rfl _ _ _) rfl ?_
    exact ⟨.inl ⟨HZ.out, rfl⟩, H1.out.2.2⟩
end Go.Proofs.YtjmiaakfdclfjaaGreatDoor
/-
  Rsa: signatures in the second way: what stands ahead of the salt.
-/
namespace Go.Proofs.YtjmiaakfdclfjaaGreatDoor
open Go.RowKit
set_option maxRecDepth 20000
/-- Noughts and a byte 1. -/
def ahd (p : Nat) : List Int := List.replicate p 0 ++ [1]
theorem ahd_set (p : Nat) : (List.replicate (p + 1) (0 : Int)).set p 1 = ahd p := by
  unfold ahd
  rw [List.replicate_succ', List.set_append_right _ _ (by simp)]
  simp
theorem ahd_u8 (p : Nat) : U8s (ahd p) := by
  intro x hx
  unfold ahd at hx
  rcases List.mem_append.1 hx with h | h
  · rw [(List.mem_replicate.1 h).2]; exact ⟨by decide, by decide⟩
  · simp at h; subst h; exact ⟨by decide, by decide⟩
theorem ahd_len (p : Nat) : (ahd p).length = p + 1 := by simp [ahd]
set_option maxHeartbeats 4000000 in
theorem cutSalt_any {w : World} (b off t c s p : Nat) (L : List Int) (hL : At w b off t c L) (uL : U8s L) (ht : t ≤ 2048) (hp : t = (p + 1) + s) :
    Calls Tryz.prog 30 #[.slice (some ⟨b, off, none⟩) t c, .int .i64 s] w fun e w' => ∃ a' c', e = .returned (.tuple #[.slice a' s c', .bool (decide (L.take (p + 1) = ahd p))]) ∧ Sl .u8 w' (.slice a' s c') (L.drop (p + 1)) ∧ Below w.heap.size w w' := by
  have hc := hL.2.1
  have e0 : (t : Int) - (s : Int) = ((p + 1 : Nat) : Int) := by omega
  obtain ⟨n, hn⟩ : ∃ n, p + 1 = n := ⟨_, rfl⟩
  obtain ⟨Q, hQ⟩ : ∃ Q, decide (L.take (p + 1) = ahd p) = Q := ⟨_, rfl⟩
  have HQ : Hid (decide (L.take n = ahd p) = Q) := by show _ = _; rw [← hn]; exact hQ
  have HL : Hid (At w b off t c L ∧ U8s L) := ⟨hL, uL⟩
  rw [hQ]
  rw [hn] at e0 hp ⊢
  have hnt : n ≤ t := by omega
  have hnc : n ≤ c := by omega
  have hn1 : (n : Int) - 1 = (p : Int) := by omega
  have hpn : p < n := by omega
  have HN : Hid (p + 1 = n ∧ t - n = s) := ⟨hn, by omega⟩
  clear hQ hL uL hn hp
  go_enter Tryz.func30, Tryz.ntmps30
  go_wp2_with (refine wpList_mk w rfl (.tmp 12) (.tmp 12) 22 rfl .u8 5 1 Tryz.und8 Tryz.info8 n n rfl rfl rfl (by omega) (by omega) ?_; intro w2 hA2 hB2; have hcp : w2.cell? ⟨w.heap.size, p, none⟩ = some (.int .u8 0) := (by have h := hA2.cell p (by simpa using hpn); simpa [hpn] using h); have hfp := hA2.frozen p; have H2 : Hid (Arr .u8 5 w2 w.heap.size (List.replicate n 0) ∧ Below w.heap.size w w2) := ⟨hA2, hB2⟩; clear hA2 hB2)
  refine Sh.wp_gen (fun W => Arr .u8 5 W w.heap.size (ahd p) ∧ Below w.heap.size w W) ⟨by have h := H2.out.1.set p 1; rw [← HN.out.1, ahd_set] at h; exact h, (Upd.set w2 w.heap.size p _).below H2.out.2 H2.out.2.size (Nat.le_refl _)⟩ ?_
  rintro W3 ⟨hA3, hb3⟩
  have H3 : Hid (Arr .u8 5 W3 w.heap.size (ahd p) ∧ Below w.heap.size w W3) := ⟨hA3, hb3⟩
  have HE : Hid (Calls Tryz.prog 32 #[.slice (some ⟨b, off, none⟩) n c, .slice (some ⟨w.heap.size, 0, none⟩) n n] W3.drew fun e w' => e = .returned (.bool Q) ∧ W3.drew = w') := by
    have h1 : Sl .u8 W3.drew (.slice (some ⟨b, off, none⟩) n c) (L.take n) := ((HL.out.1.below (Below.drew hb3)).take n hnt).sl
    have h2 : Sl .u8 W3.drew (.slice (some ⟨w.heap.size, 0, none⟩) n n) (ahd p) := by have h := hA3.sl; rw [ahd_len, HN.out.1] at h; exact h
    exact BEq_any _ _ _ _ _ _ _ _ h1 h2 (HL.out.2.take n) (ahd_u8 p) Q HQ.out
  have HD : Hid (At W3.drew b (off + n) s (c - n) (L.drop n)) := by have h := (HL.out.1.below (Below.drew hb3)).drop n hnt; rw [HN.out.2] at h; exact h
  have hwn : IntKind.i64.wrap (n : Int) = (n : Int) := by rw [IntKind.wrap_i64]; omega
  clear hA3 hb3 hcp hfp H2
  by_cases hcn : c = n
  · have hs0 : s = 0 := by have := HN.out.2; omega
    have HT : Hid (t - n = 0) := by show _ = _; omega
    subst hcn
    subst hs0
    go_region_held3 (fun _ => True) (trivial)
      (first
      | (go_at_call 32; refine HE.out.mono ?_; rintro e w4 ⟨rfl, hw4⟩; subst hw4))
    go_wp2
    go_ret2
    have hl0 : L.drop c = [] := List.eq_nil_of_length_eq_zero (by rw [List.length_drop, HL.out.1.1]; exact HT.out)
    exact ⟨_, _, rfl, by rw [hl0]; exact ⟨_, _, rfl, Nat.zero_le _, .inl rfl⟩, Below.drew H3.out.2⟩
  · have HT : Hid (t - n = s) := HN.out.2
    go_region_held3 (fun _ => True) (trivial)
      (first
      | (go_at_call 32; refine HE.out.mono ?_; rintro e w4 ⟨rfl, hw4⟩; subst hw4))
    go_wp2
    go_ret2
    rw [HT.out]
    exact ⟨_, _, rfl, HD.out.sl, Below.drew H3.out.2⟩
end Go.Proofs.YtjmiaakfdclfjaaGreatDoor
/-
  Rsa: signatures in the second way: VerifyPss of the program.
-/
namespace Go.Proofs.YtjmiaakfdclfjaaGreatDoor
open Go.RowKit
set_option maxRecDepth 20000
theorem raw_ok {ns es sg : List Int} (h : (rawS ns es sg).2 = 0) : keyOk ns es = true ∧ (rawS ns es sg).1.length = keySz ns es := by
  unfold rawS at h ⊢
  by_cases h1 : keyOk ns es = false
  · rw [if_pos h1] at h; cases h
  · rw [if_neg h1] at h ⊢
    refine ⟨by simpa using h1, ?_⟩
    by_cases h2 : sg.length ≠ keySz ns es
    · rw [if_pos h2] at h; cases h
    · rw [if_neg h2] at h ⊢
      by_cases h3 : val ns ≤ Nt.bv sg.reverse
      · rw [if_pos h3] at h; cases h
      · rw [if_neg h3] at h ⊢
        unfold Nt.bytS at h ⊢
        split at h
        · cases h
        · rename_i h4
          rw [if_neg h4]
          split at h
          · cases h
          · rename_i h5
            rw [if_neg h5]
            split at h
            · cases h
            · rename_i h6
              rw [if_neg h6, Nt.beb_len]; rfl
/-- What VerifyPss tells of what a signature says. -/
def pssT (alg mask salt : Int) (X : List Int) (B : Nat) (Rl : List Int) : Int :=
  if Rl.length - (B + 6) / 8 ≠ 0 ∧ Rl.getD 0 0 ≠ 0 then 112
  else if (((B + 6) / 8 - 1 : Nat) : Int) - Sh.siz alg - 1 < salt ∨ (Rl.drop (Rl.length - (B + 6) / 8)).getD ((B + 6) / 8 - 1) 0 ≠ 188 then 112
  else if ((Rl.drop (Rl.length - (B + 6) / 8)).take ((B + 6) / 8 - 1 - Sh.siz alg)).getD 0 0 / 2 ^ (8 - (8 * ((B + 6) / 8) - (B - 1))) ≠ 0 then 112
  else
    let em := Rl.drop (Rl.length - (B + 6) / 8)
    let t := (B + 6) / 8 - 1 - Sh.siz alg
    let hs := (em.drop t).take (Sh.siz alg)
    let db := umS (em.take t) (Sh.msk mask hs t) (8 * ((B + 6) / 8) - (B - 1))
    let p := t - 1 - salt.toNat
    if db.take (p + 1) ≠ ahd p then 112
    else if Sh.dig alg (List.replicate 8 0 ++ X ++ db.drop (p + 1)) ≠ hs then 112 else 0
def pssS (alg mask salt : Int) (X ns es sg : List Int) : Int :=
  if isD alg X.length = false ∨ Sh.siz mask = 0 ∨ salt < 0 then 1 else if (rawS ns es sg).2 ≠ 0 then (rawS ns es sg).2 else pssT alg mask salt X (bts ns) (rawS ns es sg).1
theorem SlsB {w : World} {T : TypeId} (v u x : Value) : Sh.SlS (w.alloc (.cells #[v, u, x] T)) (.slice (some ⟨w.heap.size, 0, none⟩) 3 3) [v, u, x] := Sh.Blk.sls (Blk.new T w [v, u, x])
theorem Msg3 {w : World} {v u x : Value} {m n l : List Int} (h : Sl .u8 w v m) (um : U8s m) (h' : Sl .u8 w u n) (un : U8s n) (h3 : Sl .u8 w x l) (ul : U8s l) : Sh.Msgs w [v, u, x] [m, n, l] := ⟨rfl, fun i hi => by
  simp at hi
  match i, hi with
  | 0, _ => exact ⟨h, um⟩
  | 1, _ => exact ⟨h', un⟩
  | 2, _ => exact ⟨h3, ul⟩⟩
theorem zeros_u8 (n : Nat) : U8s (List.replicate n (0 : Int)) := by intro x hx; rw [(List.mem_replicate.1 hx).2]; exact ⟨by decide, by decide⟩
theorem DSum3 {w : World} (alg : Int) (h0 : 0 < Sh.siz alg) (hT : Sh.Tabs w) (T : TypeId) (v u x : Value) (m n l : List Int) (h : Sl .u8 w v m) (um : U8s m) (h' : Sl .u8 w u n) (un : U8s n) (h3 : Sl .u8 w x l) (ul : U8s l) (hl : m.length + n.length + l.length ≤ 100000) :
    Calls Tryz.prog 31 #[.int .i64 alg, .slice (some ⟨w.heap.size, 0, none⟩) 3 3] (w.alloc (.cells #[v, u, x] T)) fun e w' => ∃ a c, e = .returned (.tuple #[.slice a (Sh.siz alg) c, .int .i64 0]) ∧ Sl .u8 w' (.slice a (Sh.siz alg) c) (Sh.dig alg (m ++ n ++ l)) ∧ Below w.heap.size w w' := by
  have hb := al1 (w := w) (.cells #[v, u, x] T)
  refine (Sh.Sum_any alg (siz_pos.1 h0) (hT.below hb) _ _ [m, n, l] (SlsB v u x) (Msg3 (below_sl hb h) um (below_sl hb h') un (below_sl hb h3) ul) (by simp; omega) (by simp)).mono ?_
  rintro e w' ⟨d, rfl, hd, hA, hb2⟩
  have e : [m, n, l].flatten = m ++ n ++ l := by simp
  rw [e] at hA
  refine ⟨_, _, rfl, ?_, below_via hb hb2 (Nat.le_refl _)⟩
  have hs := hA.sl
  rw [Sh.dig_len] at hs
  exact hs
end Go.Proofs.YtjmiaakfdclfjaaGreatDoor
