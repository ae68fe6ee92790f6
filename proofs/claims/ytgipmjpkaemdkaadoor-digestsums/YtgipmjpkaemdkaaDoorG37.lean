/-
  Digest: the reference's Digest.
-/


import Derived.Test.YtgipmjpkaemdkaaDoorG32
import Derived.Test.YtgipmjpkaemdkaaDoorG34
import Derived.Test.YtgipmjpkaemdkaaDoorG35
import Derived.Test.YtgipmjpkaemdkaaDoorG41
namespace Go.Proofs.YtgipmjpkaemdkaaDoor
open Go.RowKit
theorem out_cut (s : St) : (out 4 s).take 48 = out 3 s := by
  unfold out
  rw [← List.map_take, List.take_range]
  refine List.map_congr_left fun i _ => ?_
  unfold outB
  rw [show blk 3 = 128 from rfl, show blk 4 = 128 from rfl]
theorem full_len {B : Nat} (n : Nat) (h : B = 64 ∨ B = 128) : ∃ K, n + fillLen n B = B * K ∧ B * K ≤ n + 400 ∧ (n + fillLen n B) / B = K := by
  have h0 : 0 < B := by omega
  have e : n + fillLen n B = B * ((n + B / 8) / B + 1) := by
    unfold fillLen
    have := Nat.mod_lt (n + B / 8) h0
    have h2 := Nat.div_add_mod (n + B / 8) B
    rw [Nat.mul_succ]; omega
  refine ⟨(n + B / 8) / B + 1, e, ?_, by rw [e, Nat.mul_div_cancel_left _ h0]⟩
  have h2 := Nat.div_add_mod (n + B / 8) B
  rw [Nat.mul_succ]; rcases h with rfl | rfl <;> omega
theorem row_rd {B : Nat} {w : World} {v : Value} {Y : List Int} (n : Nat) (h : Row .u8 5 B w v Y) (hn : Y.length = n) (h0 : 0 < n) : ∃ b c, v = .slice (some ⟨b, 0, none⟩) n c ∧ n ≤ c ∧ b < w.heap.size ∧ Rd .u8 w b 0 Y := by
  obtain ⟨b, S, rfl, _, hA, hl, ht, _⟩ := h.open n hn h0
  refine ⟨b, _, rfl, hl, hA.lt, ?_⟩
  have := hA.rd 0 n (by omega)
  rw [List.drop_zero, ht] at this; exact this
theorem full_u8 {X : List Int} (h : U8s X) (B : Nat) : U8s (X ++ fill X.length B) := h.append (fill_u8 _ _)
theorem full_n {X : List Int} {B : Nat} (h : B = 64 ∨ B = 128) : (X ++ fill X.length B).length = X.length + fillLen X.length B := by rw [List.length_append, fill_len h]
theorem fillLen_pos {n B : Nat} (h : B = 64 ∨ B = 128) : 0 < fillLen n B := by
  unfold fillLen
  have := Nat.mod_lt (n + B / 8) (show 0 < B by omega)
  omega
set_option maxHeartbeats 1000000 in
theorem RDigest_1 {w : World} (v : Value) (X : List Int) (hX : Sl .u8 w v X) (uX : U8s X) (hl : X.length ≤ 65536) :
    Calls Tryd.prog 25 #[.int .i64 1, v] w fun e w' => ∃ r, e = .returned r ∧ Sl .u8 w' r (dig 1 X) ∧ Below w.heap.size w w' := by
  obtain ⟨K, hK, hKl, hKd⟩ := full_len (B := 64) X.length (.inl rfl)
  have hn := full_n (X := X) (B := 64) (.inl rfl)
  have hp := fillLen_pos (n := X.length) (B := 64) (.inl rfl)
  obtain ⟨Y, hY⟩ : ∃ Y, X ++ fill X.length 64 = Y := ⟨_, rfl⟩
  obtain ⟨N, hN⟩ : ∃ N, 64 * K = N := ⟨_, rfl⟩
  obtain ⟨D, hD⟩ : ∃ D, dig 1 X = D := ⟨_, rfl⟩
  have hD2 : D = out 1 (run 1 Y K) := by rw [← hD, ← hY]; unfold dig; rw [show blk 1 = 64 from rfl, hKd]
  have uY : U8s Y := by rw [← hY]; exact full_u8 uX _
  rw [hY] at hn
  have HF : Hid (∀ r w1, Row .u8 5 w.heap.size w1 r Y → ∃ b c, r = .slice (some ⟨b, 0, none⟩) N c ∧ Calls Tryd.prog 34 #[.slice (some ⟨b, 0, none⟩) N c] w1 fun e w' => ∃ r, e = .returned r ∧ Row .u8 5 w1.heap.size w' r D ∧ Below w1.heap.size w1 w') := fun r w1 h => by
    obtain ⟨b, c, e, h1, h2, h3⟩ := row_rd N h (by omega) (by omega)
    rw [hD2]
    exact ⟨b, c, e, sha1_any b 0 _ c _ K h2 h3 uY (by omega) hN.symm (by omega) h1⟩
  have HX : Hid (Sl .u8 w v X ∧ X.length ≤ 65536 ∧ X ++ fill X.length 64 = Y) := ⟨hX, hl, hY⟩
  rw [hD]
  obtain ⟨a, n, cp, rfl⟩ : ∃ a n c, v = .slice a n c := by obtain ⟨a, c, h, h', _⟩ := hX; exact ⟨a, _, c, h⟩
  clear hK hKl hKd hn hp hX uX hl hD hD2 hY hN uY
  go_enter Tryd.func25, Tryd.ntmps25
  go_wp2_with fail
  refine (filled_64 _ X HX.out.1 (by have := HX.out.2.1; omega)).mono ?_
  rintro e w1 ⟨r1, rfl, hr1, hb1⟩
  rw [HX.out.2.2] at hr1
  obtain ⟨b1, c1, rfl, hc⟩ := HF.out _ _ hr1
  have HB : Hid (Below w.heap.size w w1) := hb1
  have HCl : Hid (Calls Tryd.prog 34 #[.slice (some ⟨b1, 0, none⟩) N c1] w1 fun e w' => ∃ r, e = .returned r ∧ Row .u8 5 w1.heap.size w' r D ∧ Below w1.heap.size w1 w') := hc
  clear hr1 hb1 hc
  go_wp2_with fail
  refine HCl.out.mono ?_
  rintro e w2 ⟨r2, rfl, hr2, hb2⟩
  have H2 : Hid (Row .u8 5 w1.heap.size w2 r2 D ∧ Below w1.heap.size w1 w2) := ⟨hr2, hb2⟩
  clear hr2 hb2
  go_wp2
  go_ret
  exact ⟨_, rfl, H2.out.1.sl, below_via HB.out H2.out.2 (Nat.le_refl _)⟩
set_option maxHeartbeats 1000000 in
theorem RDigest_2 {w : World} (v : Value) (X : List Int) (hX : Sl .u8 w v X) (uX : U8s X) (hl : X.length ≤ 65536) :
    Calls Tryd.prog 25 #[.int .i64 2, v] w fun e w' => ∃ r, e = .returned r ∧ Sl .u8 w' r (dig 2 X) ∧ Below w.heap.size w w' := by
  obtain ⟨K, hK, hKl, hKd⟩ := full_len (B := 64) X.length (.inl rfl)
  have hn := full_n (X := X) (B := 64) (.inl rfl)
  have hp := fillLen_pos (n := X.length) (B := 64) (.inl rfl)
  obtain ⟨Y, hY⟩ : ∃ Y, X ++ fill X.length 64 = Y := ⟨_, rfl⟩
  obtain ⟨N, hN⟩ : ∃ N, 64 * K = N := ⟨_, rfl⟩
  obtain ⟨D, hD⟩ : ∃ D, dig 2 X = D := ⟨_, rfl⟩
  have hD2 : D = out 2 (run 2 Y K) := by rw [← hD, ← hY]; unfold dig; rw [show blk 2 = 64 from rfl, hKd]
  have uY : U8s Y := by rw [← hY]; exact full_u8 uX _
  rw [hY] at hn
  have HF : Hid (∀ r w1, Row .u8 5 w.heap.size w1 r Y → ∃ b c, r = .slice (some ⟨b, 0, none⟩) N c ∧ Calls Tryd.prog 36 #[.slice (some ⟨b, 0, none⟩) N c] w1 fun e w' => ∃ r, e = .returned r ∧ Row .u8 5 w1.heap.size w' r D ∧ Below w1.heap.size w1 w') := fun r w1 h => by
    obtain ⟨b, c, e, h1, h2, h3⟩ := row_rd N h (by omega) (by omega)
    rw [hD2]
    exact ⟨b, c, e, sha256_any b 0 _ c _ K h2 h3 uY (by omega) hN.symm (by omega) h1⟩
  have HX : Hid (Sl .u8 w v X ∧ X.length ≤ 65536 ∧ X ++ fill X.length 64 = Y) := ⟨hX, hl, hY⟩
  rw [hD]
  obtain ⟨a, n, cp, rfl⟩ : ∃ a n c, v = .slice a n c := by obtain ⟨a, c, h, h', _⟩ := hX; exact ⟨a, _, c, h⟩
  clear hK hKl hKd hn hp hX uX hl hD hD2 hY hN uY
  go_enter Tryd.func25, Tryd.ntmps25
  go_wp2_with fail
  refine (filled_64 _ X HX.out.1 (by have := HX.out.2.1; omega)).mono ?_
  rintro e w1 ⟨r1, rfl, hr1, hb1⟩
  rw [HX.out.2.2] at hr1
  obtain ⟨b1, c1, rfl, hc⟩ := HF.out _ _ hr1
  have HB : Hid (Below w.heap.size w w1) := hb1
  have HCl : Hid (Calls Tryd.prog 36 #[.slice (some ⟨b1, 0, none⟩) N c1] w1 fun e w' => ∃ r, e = .returned r ∧ Row .u8 5 w1.heap.size w' r D ∧ Below w1.heap.size w1 w') := hc
  clear hr1 hb1 hc
  go_wp2_with fail
  refine HCl.out.mono ?_
  rintro e w2 ⟨r2, rfl, hr2, hb2⟩
  have H2 : Hid (Row .u8 5 w1.heap.size w2 r2 D ∧ Below w1.heap.size w1 w2) := ⟨hr2, hb2⟩
  clear hr2 hb2
  go_wp2
  go_ret
  exact ⟨_, rfl, H2.out.1.sl, below_via HB.out H2.out.2 (Nat.le_refl _)⟩
theorem sl_cut {w : World} {b c : Nat} {D E : List Int} (hb : b < w.heap.size) (hc : 48 ≤ c) (hr : Rd .u8 w b 0 D) (he : D.take 48 = E) (hl : D.length = 64) : Sl .u8 w (.slice (some ⟨b, 0, none⟩) 48 c) E := by
  have hle : E.length = 48 := by rw [← he, List.length_take]; omega
  refine ⟨_, _, by rw [hle], by omega, .inr ⟨b, 0, rfl, hb, ?_⟩⟩
  rw [← he]; exact hr.take 48
set_option maxRecDepth 4000 in
set_option maxHeartbeats 1000000 in
theorem RDigest_3 {w : World} (v : Value) (X : List Int) (hX : Sl .u8 w v X) (uX : U8s X) (hl : X.length ≤ 65536) :
    Calls Tryd.prog 25 #[.int .i64 3, v] w fun e w' => ∃ r, e = .returned r ∧ Sl .u8 w' r (dig 3 X) ∧ Below w.heap.size w w' := by
  obtain ⟨K, hK, hKl, hKd⟩ := full_len (B := 128) X.length (.inr rfl)
  have hn := full_n (X := X) (B := 128) (.inr rfl)
  have hp := fillLen_pos (n := X.length) (B := 128) (.inr rfl)
  obtain ⟨Y, hY⟩ : ∃ Y, X ++ fill X.length 128 = Y := ⟨_, rfl⟩
  obtain ⟨N, hN⟩ : ∃ N, 128 * K = N := ⟨_, rfl⟩
  obtain ⟨E, hE⟩ : ∃ E, dig 3 X = E := ⟨_, rfl⟩
  obtain ⟨D, hD⟩ : ∃ D, out 4 (run 3 Y K) = D := ⟨_, rfl⟩
  have HD : Hid (D.take 48 = E ∧ D.length = 64) := by
    refine ⟨?_, by rw [← hD]; exact out_len 4 _⟩
    rw [← hE, ← hD, ← hY]; rw [out_cut]; unfold dig; rw [show blk 3 = 128 from rfl, hKd]
  have uY : U8s Y := by rw [← hY]; exact full_u8 uX _
  rw [hY] at hn
  have HF : Hid (∀ r w1, Row .u8 5 w.heap.size w1 r Y → ∃ b c, r = .slice (some ⟨b, 0, none⟩) N c ∧ Calls Tryd.prog 37 #[.slice (some ⟨b, 0, none⟩) N c, .agg #[.int .u64 14680500436340154072, .int .u64 7105036623409894663, .int .u64 10473403895298186519, .int .u64 1526699215303891257, .int .u64 7436329637833083697, .int .u64 10282925794625328401, .int .u64 15784041429090275239, .int .u64 5167115440072839076]] w1 fun e w' => ∃ r, e = .returned r ∧ Row .u8 5 w1.heap.size w' r D ∧ Below w1.heap.size w1 w') := fun r w1 h => by
    obtain ⟨b, c, e, h1, h2, h3⟩ := row_rd N h (by omega) (by omega)
    rw [← hD]
    exact ⟨b, c, e, sha512_any 3 (.inl rfl) b 0 _ c _ K ⟨14680500436340154072, 7105036623409894663, 10473403895298186519, 1526699215303891257, 7436329637833083697, 10282925794625328401, 15784041429090275239, 5167115440072839076⟩ rfl h2 h3 uY (by omega) hN.symm (by omega) h1⟩
  have HX : Hid (Sl .u8 w v X ∧ X.length ≤ 65536 ∧ X ++ fill X.length 128 = Y) := ⟨hX, hl, hY⟩
  rw [hE]
  obtain ⟨a, n, cp, rfl⟩ : ∃ a n c, v = .slice a n c := by obtain ⟨a, c, h, h', _⟩ := hX; exact ⟨a, _, c, h⟩
  clear hK hKl hKd hn hp hX uX hl hD hE hY hN uY
  go_enter Tryd.func25, Tryd.ntmps25
  go_wp2_with fail
  refine (filled_128 _ X HX.out.1 (by have := HX.out.2.1; omega)).mono ?_
  rintro e w1 ⟨r1, rfl, hr1, hb1⟩
  rw [HX.out.2.2] at hr1
  obtain ⟨b1, c1, rfl, hc⟩ := HF.out _ _ hr1
  have HB : Hid (Below w.heap.size w w1) := hb1
  have HCl : Hid (Calls Tryd.prog 37 #[.slice (some ⟨b1, 0, none⟩) N c1, .agg #[.int .u64 14680500436340154072, .int .u64 7105036623409894663, .int .u64 10473403895298186519, .int .u64 1526699215303891257, .int .u64 7436329637833083697, .int .u64 10282925794625328401, .int .u64 15784041429090275239, .int .u64 5167115440072839076]] w1 fun e w' => ∃ r, e = .returned r ∧ Row .u8 5 w1.heap.size w' r D ∧ Below w1.heap.size w1 w') := hc
  clear hr1 hb1 hc
  go_wp2_with fail
  refine HCl.out.mono ?_
  rintro e w2 ⟨r2, rfl, hr2, hb2⟩
  have H2 : Hid (Row .u8 5 w1.heap.size w2 r2 D ∧ Below w1.heap.size w1 w2) := ⟨hr2, hb2⟩
  clear hr2 hb2
  obtain ⟨b2, c2, rfl, hc2, hl2, hrd⟩ := row_rd 64 H2.out.1 HD.out.2 (by omega)
  have HR : Hid (b2 < w2.heap.size ∧ Rd .u8 w2 b2 0 D) := ⟨hl2, hrd⟩
  clear hl2 hrd
  go_wp2
  go_ret
  exact ⟨_, rfl, sl_cut HR.out.1 (by omega) HR.out.2 HD.out.1 HD.out.2, below_via HB.out H2.out.2 (Nat.le_refl _)⟩
set_option maxRecDepth 4000 in
set_option maxHeartbeats 1000000 in
theorem RDigest_4 {w : World} (v : Value) (X : List Int) (hX : Sl .u8 w v X) (uX : U8s X) (hl : X.length ≤ 65536) :
    Calls Tryd.prog 25 #[.int .i64 4, v] w fun e w' => ∃ r, e = .returned r ∧ Sl .u8 w' r (dig 4 X) ∧ Below w.heap.size w w' := by
  obtain ⟨K, hK, hKl, hKd⟩ := full_len (B := 128) X.length (.inr rfl)
  have hn := full_n (X := X) (B := 128) (.inr rfl)
  have hp := fillLen_pos (n := X.length) (B := 128) (.inr rfl)
  obtain ⟨Y, hY⟩ : ∃ Y, X ++ fill X.length 128 = Y := ⟨_, rfl⟩
  obtain ⟨N, hN⟩ : ∃ N, 128 * K = N := ⟨_, rfl⟩
  obtain ⟨E, hE⟩ : ∃ E, dig 4 X = E := ⟨_, rfl⟩
  obtain ⟨D, hD⟩ : ∃ D, out 4 (run 4 Y K) = D := ⟨_, rfl⟩
  have HD : Hid (D = E ∧ D.length = 64) := by
    refine ⟨?_, by rw [← hD]; exact out_len 4 _⟩
    rw [← hE, ← hD, ← hY]; unfold dig; rw [show blk 4 = 128 from rfl, hKd]
  have uY : U8s Y := by rw [← hY]; exact full_u8 uX _
  rw [hY] at hn
  have HF : Hid (∀ r w1, Row .u8 5 w.heap.size w1 r Y → ∃ b c, r = .slice (some ⟨b, 0, none⟩) N c ∧ Calls Tryd.prog 37 #[.slice (some ⟨b, 0, none⟩) N c, .agg #[.int .u64 7640891576956012808, .int .u64 13503953896175478587, .int .u64 4354685564936845355, .int .u64 11912009170470909681, .int .u64 5840696475078001361, .int .u64 11170449401992604703, .int .u64 2270897969802886507, .int .u64 6620516959819538809]] w1 fun e w' => ∃ r, e = .returned r ∧ Row .u8 5 w1.heap.size w' r D ∧ Below w1.heap.size w1 w') := fun r w1 h => by
    obtain ⟨b, c, e, h1, h2, h3⟩ := row_rd N h (by omega) (by omega)
    rw [← hD]
    exact ⟨b, c, e, sha512_any 4 (.inr rfl) b 0 _ c _ K ⟨7640891576956012808, 13503953896175478587, 4354685564936845355, 11912009170470909681, 5840696475078001361, 11170449401992604703, 2270897969802886507, 6620516959819538809⟩ rfl h2 h3 uY (by omega) hN.symm (by omega) h1⟩
  have HX : Hid (Sl .u8 w v X ∧ X.length ≤ 65536 ∧ X ++ fill X.length 128 = Y) := ⟨hX, hl, hY⟩
  rw [hE]
  obtain ⟨a, n, cp, rfl⟩ : ∃ a n c, v = .slice a n c := by obtain ⟨a, c, h, h', _⟩ := hX; exact ⟨a, _, c, h⟩
  clear hK hKl hKd hn hp hX uX hl hD hE hY hN uY
  go_enter Tryd.func25, Tryd.ntmps25
  go_wp2_with fail
  refine (filled_128 _ X HX.out.1 (by have := HX.out.2.1; omega)).mono ?_
  rintro e w1 ⟨r1, rfl, hr1, hb1⟩
  rw [HX.out.2.2] at hr1
  obtain ⟨b1, c1, rfl, hc⟩ := HF.out _ _ hr1
  have HB : Hid (Below w.heap.size w w1) := hb1
  have HCl : Hid (Calls Tryd.prog 37 #[.slice (some ⟨b1, 0, none⟩) N c1, .agg #[.int .u64 7640891576956012808, .int .u64 13503953896175478587, .int .u64 4354685564936845355, .int .u64 11912009170470909681, .int .u64 5840696475078001361, .int .u64 11170449401992604703, .int .u64 2270897969802886507, .int .u64 6620516959819538809]] w1 fun e w' => ∃ r, e = .returned r ∧ Row .u8 5 w1.heap.size w' r D ∧ Below w1.heap.size w1 w') := hc
  clear hr1 hb1 hc
  go_wp2_with fail
  refine HCl.out.mono ?_
  rintro e w2 ⟨r2, rfl, hr2, hb2⟩
  have H2 : Hid (Row .u8 5 w1.heap.size w2 r2 D ∧ Below w1.heap.size w1 w2) := ⟨hr2, hb2⟩
  clear hr2 hb2
  go_wp2
  go_ret
  exact ⟨_, rfl, by rw [← HD.out.1]; exact H2.out.1.sl, below_via HB.out H2.out.2 (Nat.le_refl _)⟩
theorem Digest_ok : DigestC := fun alg ha w v X h1 h2 h3 => by
  rcases ha with rfl | rfl | rfl | rfl
  · exact RDigest_1 v X h1 h2 h3
  · exact RDigest_2 v X h1 h2 h3
  · exact RDigest_3 v X h1 h2 h3
  · exact RDigest_4 v X h1 h2 h3
end Go.Proofs.YtgipmjpkaemdkaaDoor
