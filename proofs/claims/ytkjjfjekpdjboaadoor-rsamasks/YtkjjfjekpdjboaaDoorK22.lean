/-
  Digest: the reference's Digest.
-/
import Derived.Test.YtkjjfjekpdjboaaDoorRows
import Derived.Lib.LaidTab
import Derived.LaidSub
import Derived.MakeChecks
import Derived.OpenShut
import Derived.ProofKit
import Derived.Test.YtkjjfjekpdjboaaDoorK21


namespace Go.Proofs.YtkjjfjekpdjboaaDoor.Sh
open Go.RowKit
set_option maxRecDepth 20000
theorem out_cut (s : St) : (out 4 s).take 48 = out 3 s := by
  unfold out
  rw [← List.map_take, List.take_range]
  refine List.map_congr_left fun i _ => ?_
  unfold outB
  rw [show blk 3 = 128 from rfl, show blk 4 = 128 from rfl]
theorem full_len {B : Nat} (n : Nat) (h : B = 64 ∨ B = 128) : ∃ K, n + fillLen n B = B * K ∧ B * K ≤ n + 400 ∧ (n + fillLen n B) / B = K := by
  have h0 : 0 < B := by omega
  have e : n + fillLen n B = B * ((n + B / 8) / B + 1) := by
    unfold fillLen
    have := Nat.mod_lt (n + B / 8) h0
    have h2 := Nat.div_add_mod (n + B / 8) B
    rw [Nat.mul_succ]; omega
  refine ⟨(n + B / 8) / B + 1, e, ?_, by rw [e, Nat.mul_div_cancel_left _ h0]⟩
  have h2 := Nat.div_add_mod (n + B / 8) B
  rw [Nat.mul_succ]; rcases h with rfl | rfl <;> omega
theorem row_rd {B : Nat} {w : World} {v : Value} {Y : List Int} (n : Nat) (h : Row .u8 5 B w v Y) (hn : Y.length = n) (h0 : 0 < n) : ∃ b c, v = .slice (some ⟨b, 0, none⟩) n c ∧ n ≤ c ∧ b < w.heap.size ∧ Rd .u8 w b 0 Y := by
  obtain ⟨b, S, rfl, _, hA, hl, ht, _⟩ := h.open n hn h0
  refine ⟨b, _, rfl, hl, hA.lt, ?_⟩
  have := hA.rd 0 n (by omega)
  rw [List.drop_zero, ht] at this; exact this
theorem full_u8 {X : List Int} (h : U8s X) (B : Nat) : U8s (X ++ fill X.length B) := h.append (fill_u8 _ _)
theorem full_n {X : List Int} {B : Nat} (h : B = 64 ∨ B = 128) : (X ++ fill X.length B).length = X.length + fillLen X.length B := by rw [List.length_append, fill_len h]
theorem fillLen_pos {n B : Nat} (h : B = 64 ∨ B = 128) : 0 < fillLen n B := by
  unfold fillLen
  have := Nat.mod_lt (n + B / 8) (show 0 < B by omega)
  omega
set_option maxHeartbeats 1000000 in
theorem RDigest_1 {w : World} (v : Value) (X : List Int) (hX : Sl .u8 w v X) (uX : U8s X) (hl : X.length ≤ 65536) :
    Calls Tryd.prog 28 #[.int .i64 1, v] w fun e w' => ∃ r, e = .returned r ∧ Sl .u8 w' r (dig 1 X) ∧ Below w.heap.size w w' := by
  obtain ⟨K, hK, hKl, hKd⟩ := full_len (B := 64) X.length (.inl rfl)
  have hn := full_n (X := X) (B := 64) (.inl rfl)
  have hp := fillLen_pos (n := X.length) (B := 64) (.inl rfl)
  obtain ⟨Y, hY⟩ : ∃ Y, X ++ fill X.length 64 = Y := ⟨_, rfl⟩
  obtain ⟨N, hN⟩ : ∃ N, 64 * K = N := ⟨_, rfl⟩
  obtain ⟨D, hD⟩ : ∃ D, dig 1 X = D := ⟨_, rfl⟩
  have hD2 : D = out 1 (run 1 Y K) := by rw [← hD, ← hY]; unfold dig; rw [show blk 1 = 64 from rfl, hKd]
  have uY : U8s Y := by rw [← hY]; exact full_u8 uX _
  rw [hY] at hn
  have HF : Hid (∀ r w1, Row .u8 5 w.heap.size w1 r Y → ∃ b c, r = .slice (some ⟨b, 0, none⟩) N c ∧ Calls Tryd.prog 44 #[.slice (some ⟨b, 0, none⟩) N c] w1 fun e w' => ∃ r, e = .returned r ∧ Row .u8 5 w1.heap.size w' r D ∧ Below w1.heap.size w1 w') := fun r w1 h => by
    obtain ⟨b, c, e, h1, h2, h3⟩ := row_rd N h (by omega) (by omega)
    rw [hD2]
    exact ⟨b, c, e, sha1_any b 0 _ c _ K h2 h3 uY (by omega) hN.symm (by omega) h1⟩
  have HX : Hid (Sl .u8 w v X ∧ X.length ≤ 65536 ∧ X ++ fill X.length 64 = Y) := ⟨hX, hl, hY⟩
  rw [hD]
  obtain ⟨a, n, cp, rfl⟩ : ∃ a n c, v = .slice a n c := by obtain ⟨a, c, h, h', _⟩ := hX; exact ⟨a, _, c, h⟩
  clear hK hKl hKd hn hp hX uX hl hD hD2 hY hN uY
  go_enter Tryd.func28, Tryd.ntmps28
  go_wp2_with fail
  refine (filled_64 _ X HX.out.1 (by have := HX.out.2.1; omega)).mono ?_
  rintro e w1 ⟨r1, rfl, hr1, hb1⟩
  rw [HX.out.2.2] at hr1
  obtain ⟨b1, c1, rfl, hc⟩ := HF.out _ _ hr1
  have HB : Hid (Below w.heap.size w w1) := hb1
  have HCl : Hid (Calls Tryd.prog 44 #[.slice (some ⟨b1, 0, none⟩) N c1] w1 fun e w' => ∃ r, e = .returned r ∧ Row .u8 5 w1.heap.size w' r D ∧ Below w1.heap.size w1 w') := hc
  clear hr1 hb1 hc
  go_wp2_with fail
  refine HCl.out.mono ?_
  rintro e w2 ⟨r2, rfl, hr2, hb2⟩
  have H2 : Hid (Row .u8 5 w1.heap.size w2 r2 D ∧ Below w1.heap.size w1 w2) := ⟨hr2, hb2⟩
  clear hr2 hb2
  go_wp2
  go_ret
  exact ⟨_, rfl, H2.out.1.sl, below_via HB.out H2.out.2 (Nat.le_refl _)⟩
set_option maxHeartbeats 1000000 in
theorem RDigest_2 {w : World} (v : Value) (X : List Int) (hX : Sl .u8 w v X) (uX : U8s X) (hl : X.length ≤ 65536) :
    Calls Tryd.prog 28 #[.int .i64 2, v] w fun e w' => ∃ r, e = .returned r ∧ Sl .u8 w' r (dig 2 X) ∧ Below w.heap.size w w' := by
  obtain ⟨K, hK, hKl, hKd⟩ := full_len (B := 64) X.length (.inl rfl)
  have hn := full_n (X := X) (B := 64) (.inl rfl)
  have hp := fillLen_pos (n := X.length) (B := 64) (.inl rfl)
  obtain ⟨Y, hY⟩ : ∃ Y, X ++ fill X.length 64 = Y := ⟨_, rfl⟩
  obtain ⟨N, hN⟩ : ∃ N, 64 * K = N := ⟨_, rfl⟩
  obtain ⟨D, hD⟩ : ∃ D, dig 2 X = D := ⟨_, rfl⟩
  have hD2 : D = out 2 (run 2 Y K) := by rw [← hD, ← hY]; unfold dig; rw [show blk 2 = 64 from rfl, hKd]
  have uY : U8s Y := by rw [← hY]; exact full_u8 uX _
  rw [hY] at hn
  have HF : Hid (∀ r w1, Row .u8 5 w.heap.size w1 r Y → ∃ b c, r = .slice (some ⟨b, 0, none⟩) N c ∧ Calls Tryd.prog 46 #[.slice (some ⟨b, 0, none⟩) N c] w1 fun e w' => ∃ r, e = .returned r ∧ Row .u8 5 w1.heap.size w' r D ∧ Below w1.heap.size w1 w') := fun r w1 h => by
    obtain ⟨b, c, e, h1, h2, h3⟩ := row_rd N h (by omega) (by omega)
    rw [hD2]
    exact ⟨b, c, e, sha256_any b 0 _ c _ K h2 h3 uY (by omega) hN.symm (by omega) h1⟩
  have HX : Hid (Sl .u8 w v X ∧ X.length ≤ 65536 ∧ X ++ fill X.length 64 = Y) := ⟨hX, hl, hY⟩
  rw [hD]
  obtain ⟨a, n, cp, rfl⟩ : ∃ a n c, v = .slice a n c := by obtain ⟨a, c, h, h', _⟩ := hX; exact ⟨a, _, c, h⟩
  clear hK hKl hKd hn hp hX uX hl hD hD2 hY hN uY
  go_enter Tryd.func28, Tryd.ntmps28
  go_wp2_with fail
  refine (filled_64 _ X HX.out.1 (by have := HX.out.2.1; omega)).mono ?_
  rintro e w1 ⟨r1, rfl, hr1, hb1⟩
  rw [HX.out.2.2] at hr1
  obtain ⟨b1, c1, rfl, hc⟩ := HF.out _ _ hr1
  have HB : Hid (Below w.heap.size w w1) := hb1
  have HCl : Hid (Calls Tryd.prog 46 #[.slice (some ⟨b1, 0, none⟩) N c1] w1 fun e w' => ∃ r, e = .returned r ∧ Row .u8 5 w1.heap.size w' r D ∧ Below w1.heap.size w1 w') := hc
  clear hr1 hb1 hc
  go_wp2_with fail
  refine HCl.out.mono ?_
  rintro e w2 ⟨r2, rfl, hr2, hb2⟩
  have H2 : Hid (Row .u8 5 w1.heap.size w2 r2 D ∧ Below w1.heap.size w1 w2) := ⟨hr2, hb2⟩
  clear hr2 hb2
  go_wp2
  go_ret
  exact ⟨_, rfl, H2.out.1.sl, below_via HB.out H2.out.2 (Nat.le_refl _)⟩
theorem sl_cut {w : World} {b c : Nat} {D E : List Int} (hb : b < w.heap.size) (hc : 48 ≤ c) (hr : Rd .u8 w b 0 D) (he : D.take 48 = E) (hl : D.length = 64) : Sl .u8 w (.slice (some ⟨b, 0, none⟩) 48 c) E := by
  have hle : E.length = 48 := by rw [← he, List.length_take]; omega
  refine ⟨_, _, by rw [hle], by omega, .inr ⟨b, 0, rfl, hb, ?_⟩⟩
  rw [← he]; exact hr.take 48
set_option maxRecDepth 4000 in
set_option maxHeartbeats 1000000 in
theorem RDigest_3 {w : World} (v : Value) (X : List Int) (hX : Sl .u8 w v X) (uX : U8s X) (hl : X.length ≤ 65536) :
    Calls Tryd.prog 28 #[.int .i64 3, v] w fun e w' => ∃ r, e = .returned r ∧ Sl .u8 w' r (dig 3 X) ∧ Below w.heap.size w w' := by
  obtain ⟨K, hK, hKl, hKd⟩ := full_len (B := 128) X.length (.inr rfl)
  have hn := full_n (X := X) (B := 128) (.inr rfl)
  have hp := fillLen_pos (n := X.length) (B := 128) (.inr rfl)
  obtain ⟨Y, hY⟩ : ∃ Y, X ++ fill X.length 128 = Y := ⟨_, rfl⟩
  obtain ⟨N, hN⟩ : ∃ N, 128 * K = N := ⟨_, rfl⟩
  obtain ⟨E, hE⟩ : ∃ E, dig 3 X = E := ⟨_, rfl⟩
  obtain ⟨D, hD⟩ : ∃ D, out 4 (run 3 Y K) = D := ⟨_, rfl⟩
  have HD : Hid (D.take 48 = E ∧ D.length = 64) := by
    refine ⟨?_, by rw [← hD]; exact out_len 4 _⟩
    rw [← hE, ← hD, ← hY]; rw [out_cut]; unfold dig; rw [show blk 3 = 128 from rfl, hKd]
  have uY : U8s Y := by rw [← hY]; exact full_u8 uX _
  rw [hY] at hn
  have HF : Hid (∀ r w1, Row .u8 5 w.heap.size w1 r Y → ∃ b c, r = .slice (some ⟨b, 0, none⟩) N c ∧ Calls Tryd.prog 47 #[.slice (some ⟨b, 0, none⟩) N c, .agg #[.int .u64 14680500436340154072, .int .u64 7105036623409894663, .int .u64 10473403895298186519, .int .u64 1526699215303891257, .int .u64 7436329637833083697, .int .u64 10282925794625328401, .int .u64 15784041429090275239, .int .u64 5167115440072839076]] w1 fun e w' => ∃ r, e = .returned r ∧ Row .u8 5 w1.heap.size w' r D ∧ Below w1.heap.size w1 w') := fun r w1 h => by
    obtain ⟨b, c, e, h1, h2, h3⟩ := row_rd N h (by omega) (by omega)
    rw [← hD]
    exact ⟨b, c, e, sha512_any 3 (.inl rfl) b 0 _ c _ K ⟨14680500436340154072, 7105036623409894663, 10473403895298186519, 1526699215303891257, 7436329637833083697, 10282925794625328401, 15784041429090275239, 5167115440072839076⟩ rfl h2 h3 uY (by omega) hN.symm (by omega) h1⟩
  have HX : Hid (Sl .u8 w v X ∧ X.length ≤ 65536 ∧ X ++ fill X.length 128 = Y) := ⟨hX, hl, hY⟩
  rw [hE]
  obtain ⟨a, n, cp, rfl⟩ : ∃ a n c, v = .slice a n c := by obtain ⟨a, c, h, h', _⟩ := hX; exact ⟨a, _, c, h⟩
  clear hK hKl hKd hn hp hX uX hl hD hE hY hN uY
  go_enter Tryd.func28, Tryd.ntmps28
  go_wp2_with fail
  refine (filled_128 _ X HX.out.1 (by have := HX.out.2.1; omega)).mono ?_
  rintro e w1 ⟨r1, rfl, hr1, hb1⟩
  rw [HX.out.2.2] at hr1
  obtain ⟨b1, c1, rfl, hc⟩ := HF.out _ _ hr1
  have HB : Hid (Below w.heap.size w w1) := hb1
  have HCl : Hid (Calls Tryd.prog 47 #[.slice (some ⟨b1, 0, none⟩) N c1, .agg #[.int .u64 14680500436340154072, .int .u64 7105036623409894663, .int .u64 10473403895298186519, .int .u64 1526699215303891257, .int .u64 7436329637833083697, .int .u64 10282925794625328401, .int .u64 15784041429090275239, .int .u64 5167115440072839076]] w1 fun e w' => ∃ r, e = .returned r ∧ Row .u8 5 w1.heap.size w' r D ∧ Below w1.heap.size w1 w') := hc
  clear hr1 hb1 hc
  go_wp2_with fail
  refine HCl.out.mono ?_
  rintro e w2 ⟨r2, rfl, hr2, hb2⟩
  have H2 : Hid (Row .u8 5 w1.heap.size w2 r2 D ∧ Below w1.heap.size w1 w2) := ⟨hr2, hb2⟩
  clear hr2 hb2
  obtain ⟨b2, c2, rfl, hc2, hl2, hrd⟩ := row_rd 64 H2.out.1 HD.out.2 (by omega)
  have HR : Hid (b2 < w2.heap.size ∧ Rd .u8 w2 b2 0 D) := ⟨hl2, hrd⟩
  clear hl2 hrd
  go_wp2
  go_ret
  exact ⟨_, rfl, sl_cut HR.out.1 (by omega) HR.out.2 HD.out.1 HD.out.2, below_via HB.out H2.out.2 (Nat.le_refl _)⟩
set_option maxRecDepth 4000 in
set_option maxHeartbeats 1000000 in
theorem RDigest_4 {w : World} (v : Value) (X : List Int) (hX : Sl .u8 w v X) (uX : U8s X) (hl : X.length ≤ 65536) :
    Calls Tryd.prog 28 #[.int .i64 4, v] w fun e w' => ∃ r, e = .returned r ∧ Sl .u8 w' r (dig 4 X) ∧ Below w.heap.size w w' := by
  obtain ⟨K, hK, hKl, hKd⟩ := full_len (B := 128) X.length (.inr rfl)
  have hn := full_n (X := X) (B := 128) (.inr rfl)
  have hp := fillLen_pos (n := X.length) (B := 128) (.inr rfl)
  obtain ⟨Y, hY⟩ : ∃ Y, X ++ fill X.length 128 = Y := ⟨_, rfl⟩
  obtain ⟨N, hN⟩ : ∃ N, 128 * K = N := ⟨_, rfl⟩
  obtain ⟨E, hE⟩ : ∃ E, dig 4 X = E := ⟨_, rfl⟩
  obtain ⟨D, hD⟩ : ∃ D, out 4 (run 4 Y K) = D := ⟨_, rfl⟩
  have HD : Hid (D = E ∧ D.length = 64) := by
    refine ⟨?_, by rw [← hD]; exact out_len 4 _⟩
    rw [← hE, ← hD, ← hY]; unfold dig; rw [show blk 4 = 128 from rfl, hKd]
  have uY : U8s Y := by rw [← hY]; exact full_u8 uX _
  rw [hY] at hn
  have HF : Hid (∀ r w1, Row .u8 5 w.heap.size w1 r Y → ∃ b c, r = .slice (some ⟨b, 0, none⟩) N c ∧ Calls Tryd.prog 47 #[.slice (some ⟨b, 0, none⟩) N c, .agg #[.int .u64 7640891576956012808, .int .u64 13503953896175478587, .int .u64 4354685564936845355, .int .u64 11912009170470909681, .int .u64 5840696475078001361, .int .u64 11170449401992604703, .int .u64 2270897969802886507, .int .u64 6620516959819538809]] w1 fun e w' => ∃ r, e = .returned r ∧ Row .u8 5 w1.heap.size w' r D ∧ Below w1.heap.size w1 w') := fun r w1 h => by
    obtain ⟨b, c, e, h1, h2, h3⟩ := row_rd N h (by omega) (by omega)
    rw [← hD]
    exact ⟨b, c, e, sha512_any 4 (.inr rfl) b 0 _ c _ K ⟨7640891576956012808, 13503953896175478587, 4354685564936845355, 11912009170470909681, 5840696475078001361, 11170449401992604703, 2270897969802886507, 6620516959819538809⟩ rfl h2 h3 uY (by omega) hN.symm (by omega) h1⟩
  have HX : Hid (Sl .u8 w v X ∧ X.length ≤ 65536 ∧ X ++ fill X.length 128 = Y) := ⟨hX, hl, hY⟩
  rw [hE]
  obtain ⟨a, n, cp, rfl⟩ : ∃ a n c, v = .slice a n c := by obtain ⟨a, c, h, h', _⟩ := hX; exact ⟨a, _, c, h⟩
  clear hK hKl hKd hn hp hX uX hl hD hE hY hN uY
  go_enter Tryd.func28, Tryd.ntmps28
  go_wp2_with fail
  refine (filled_128 _ X HX.out.1 (by have := HX.out.2.1; omega)).mono ?_
  rintro e w1 ⟨r1, rfl, hr1, hb1⟩
  rw [HX.out.2.2] at hr1
  obtain ⟨b1, c1, rfl, hc⟩ := HF.out _ _ hr1
  have HB : Hid (Below w.heap.size w w1) := hb1
  have HCl : Hid (Calls Tryd.prog 47 #[.slice (some ⟨b1, 0, none⟩) N c1, .agg #[.int .u64 7640891576956012808, .int .u64 13503953896175478587, .int .u64 4354685564936845355, .int .u64 11912009170470909681, .int .u64 5840696475078001361, .int .u64 11170449401992604703, .int .u64 2270897969802886507, .int .u64 6620516959819538809]] w1 fun e w' => ∃ r, e = .returned r ∧ Row .u8 5 w1.heap.size w' r D ∧ Below w1.heap.size w1 w') := hc
  clear hr1 hb1 hc
  go_wp2_with fail
  refine HCl.out.mono ?_
  rintro e w2 ⟨r2, rfl, hr2, hb2⟩
  have H2 : Hid (Row .u8 5 w1.heap.size w2 r2 D ∧ Below w1.heap.size w1 w2) := ⟨hr2, hb2⟩
  clear hr2 hb2
  go_wp2
  go_ret
  exact ⟨_, rfl, by rw [← HD.out.1]; exact H2.out.1.sl, below_via HB.out H2.out.2 (Nat.le_refl _)⟩
theorem Digest_ok : DigestC := fun alg ha w v X h1 h2 h3 => by
  rcases ha with rfl | rfl | rfl | rfl
  · exact RDigest_1 v X h1 h2 h3
  · exact RDigest_2 v X h1 h2 h3
  · exact RDigest_3 v X h1 h2 h3
  · exact RDigest_4 v X h1 h2 h3
end Go.Proofs.YtkjjfjekpdjboaaDoor.Sh
/-
  Rsa: Mask where its arguments may not be; the law RsaMasks.
-/
namespace Go.Proofs.YtkjjfjekpdjboaaDoor
open Go.RowKit
set_option maxRecDepth 20000
set_option maxHeartbeats 4000000 in
theorem Mask_arg {w : World} (alg : Int) (v : Value) (n : Int) (h : Sh.siz alg = 0 ∨ n < 0 ∨ 2048 < n) :
    Calls Tryd.prog 13 #[.int .i64 alg, v, .int .i64 n] w fun e w' => e = .returned (.tuple #[.slice none 0 0, .int .i64 1]) ∧ Below w.heap.size w w' := by
  have HSz : Hid (∀ w' : World, Calls Tryd.prog 25 #[.int .i64 alg] w' fun e w'' => e = .returned (.int .i64 (Sh.siz alg)) ∧ w' = w'') := fun w' => (Sh.Size_any alg).mono fun _ _ h => ⟨h.1, h.2.symm⟩
  obtain ⟨z, hz⟩ : ∃ z, Sh.siz alg = z := ⟨_, rfl⟩
  rw [hz] at HSz h
  clear hz
  refine (callsIn_wide (n := 10)).1 (callsIn_of_wp_marks Tryd.func13 rfl trivial (wpIn_wide.2 ?_) rfl)
  simp only [Tryd.ntmps13, List.size_toArray, List.length_cons, List.length_nil, Nat.reduceAdd, Nat.reduceSub, Array.replicate_succ, Array.replicate_zero, List.push_toArray, List.append_toArray, List.nil_append, List.cons_append]
  by_cases h0 : z = 0
  · have d0 : ((z : Int) == 0) = true := by simp [h0]
    clear h h0
    go_wp2_with (go_at_call 25; refine (HSz.out _).mono ?_; rintro e w' ⟨rfl, rfl⟩)
    refine ⟨_, results_tmp2 rfl _ _ _, rfl, ?_⟩
    exact Below.refl _ _
  have d0 : ((z : Int) == 0) = false := by simp; exact h0
  by_cases h1 : n < 0
  · have d1 : decide (n < 0) = true := by simpa using h1
    clear h h0
    go_wp2_with (go_at_call 25; refine (HSz.out _).mono ?_; rintro e w' ⟨rfl, rfl⟩)
    refine ⟨_, results_tmp2 rfl _ _ _, rfl, ?_⟩
    exact Below.refl _ _
  have d1 : decide (n < 0) = false := by simpa using h1
  have h2 : 2048 < n := by omega
  have d2 : decide ((2048 : Int) < n) = true := by simpa using h2
  clear h h0
  go_wp2_with (go_at_call 25; refine (HSz.out _).mono ?_; rintro e w' ⟨rfl, rfl⟩)
  refine ⟨_, results_tmp2 rfl _ _ _, rfl, ?_⟩
  exact Below.refl _ _
set_option maxHeartbeats 4000000 in
theorem RMask_arg {w : World} (alg : Int) (v : Value) (n : Int) (h : Sh.siz alg = 0 ∨ n < 0 ∨ 2048 < n) :
    Calls Tryd.prog 14 #[.int .i64 alg, v, .int .i64 n] w fun e w' => e = .returned (.tuple #[.slice none 0 0, .int .i64 1]) ∧ Below w.heap.size w w' := by
  have HSz : Hid (∀ w' : World, Calls Tryd.prog 27 #[.int .i64 alg] w' fun e w'' => e = .returned (.int .i64 (Sh.siz alg)) ∧ w' = w'') := fun w' => RSize8 alg
  obtain ⟨z, hz⟩ : ∃ z, Sh.siz alg = z := ⟨_, rfl⟩
  rw [hz] at HSz h
  clear hz
  go_enter Tryd.func14, Tryd.ntmps14
  by_cases h0 : z = 0
  · have d0 : ((z : Int) == 0) = true := by simp [h0]
    clear h h0
    go_wp2_with (go_at_call 27; refine (HSz.out _).mono ?_; rintro e w' ⟨rfl, rfl⟩)
    go_ret2
    exact ⟨rfl, Below.refl _ _⟩
  have d0 : ((z : Int) == 0) = false := by simp; exact h0
  by_cases h1 : n < 0
  · have d1 : decide (n < 0) = true := by simpa using h1
    clear h h0
    go_wp2_with (go_at_call 27; refine (HSz.out _).mono ?_; rintro e w' ⟨rfl, rfl⟩)
    go_ret2
    exact ⟨rfl, Below.refl _ _⟩
  have d1 : decide (n < 0) = false := by simpa using h1
  have h2 : 2048 < n := by omega
  have d2 : decide ((2048 : Int) < n) = true := by simpa using h2
  clear h h0
  go_wp2_with (go_at_call 27; refine (HSz.out _).mono ?_; rintro e w' ⟨rfl, rfl⟩)
  go_ret2
  exact ⟨rfl, Below.refl _ _⟩
def mskE (alg n : Int) : Int := if Sh.siz alg = 0 ∨ n < 0 ∨ 2048 < n then 1 else 0
def mskV (alg : Int) (X : List Int) (n : Int) : List Int := if mskE alg n = 0 then Sh.msk alg X n.toNat else []
theorem msk_len {alg : Int} {X : List Int} {n : Nat} (h : 0 < Sh.siz alg) : (Sh.msk alg X n).length = n := by
  unfold Sh.msk
  rw [List.length_take, Sh.mdg_len]
  have h1 := Nat.div_add_mod n (Sh.siz alg)
  have h2 := Nat.mod_lt n h
  rw [Nat.add_mul, Nat.one_mul, Nat.mul_comm]
  omega
theorem mskV_len (alg : Int) (X : List Int) (n : Int) : (mskV alg X n).length ≤ 2048 := by
  unfold mskV
  split
  · next h =>
    unfold mskE at h
    split at h
    · cases h
    · rw [msk_len (by omega)]; omega
  · simp
theorem MaskC {w : World} (alg : Int) (a : Option Addr) (len cap : Nat) (X : List Int) (hX : Sl .u8 w (.slice a len cap) X) (uX : U8s X) (hl : X.length = len) (hb : len ≤ 8192) (n : Int) (hT : Sh.Tabs w) :
    Calls Tryd.prog 13 #[.int .i64 alg, .slice a len cap, .int .i64 n] w fun e w' => ∃ v, e = .returned (.tuple #[v, .int .i64 (mskE alg n)]) ∧ Sl .u8 w' v (mskV alg X n) ∧ Below w.heap.size w w' := by
  by_cases h1 : Sh.siz alg = 0 ∨ n < 0 ∨ 2048 < n
  · have e1 : mskE alg n = 1 := by unfold mskE; rw [if_pos h1]
    have e2 : mskV alg X n = [] := by unfold mskV; rw [e1]; rfl
    rw [e1, e2]
    refine (Mask_arg alg _ n h1).mono ?_
    rintro e w' ⟨rfl, hb⟩
    exact ⟨_, rfl, nil_sl _, hb⟩
  · have e1 : mskE alg n = 0 := by unfold mskE; rw [if_neg h1]
    have e2 : mskV alg X n = Sh.msk alg X n.toNat := by unfold mskV; rw [e1]; rfl
    rw [e1, e2]
    have h0 : 0 < Sh.siz alg := by omega
    obtain ⟨N, rfl⟩ : ∃ N : Nat, n = N := ⟨n.toNat, by omega⟩
    refine (Sh.Mask_any alg (siz_pos.1 h0) hT _ X hX uX (by omega) N (by omega)).mono ?_
    rintro e w' ⟨rfl, hA, hB⟩
    refine ⟨_, rfl, ?_, hB⟩
    have hs := hA.sl
    rw [msk_len h0] at hs
    exact hs
theorem RMaskC {w : World} (alg : Int) (a : Option Addr) (len cap : Nat) (X : List Int) (hX : Sl .u8 w (.slice a len cap) X) (uX : U8s X) (hl : X.length = len) (hb : len ≤ 8192) (n : Int) :
    Calls Tryd.prog 14 #[.int .i64 alg, .slice a len cap, .int .i64 n] w fun e w' => ∃ v, e = .returned (.tuple #[v, .int .i64 (mskE alg n)]) ∧ Sl .u8 w' v (mskV alg X n) ∧ Below w.heap.size w w' := by
  by_cases h1 : Sh.siz alg = 0 ∨ n < 0 ∨ 2048 < n
  · have e1 : mskE alg n = 1 := by unfold mskE; rw [if_pos h1]
    have e2 : mskV alg X n = [] := by unfold mskV; rw [e1]; rfl
    rw [e1, e2]
    refine (RMask_arg alg _ n h1).mono ?_
    rintro e w' ⟨rfl, hb⟩
    exact ⟨_, rfl, nil_sl _, hb⟩
  · have e1 : mskE alg n = 0 := by unfold mskE; rw [if_neg h1]
    have e2 : mskV alg X n = Sh.msk alg X n.toNat := by unfold mskV; rw [e1]; rfl
    rw [e1, e2]
    have h0 : 0 < Sh.siz alg := by omega
    obtain ⟨N, rfl⟩ : ∃ N : Nat, n = N := ⟨n.toNat, by omega⟩
    exact RMask_any Sh.Digest_ok alg (siz_pos.1 h0) a len cap X hX uX hl hb N (by omega)
set_option maxHeartbeats 2000000 in
theorem RsaMasks_any {w : World} (alg : Int) (a : Option Addr) (len cap : Nat) (X : List Int) (hX : Sl .u8 w (.slice a len cap) X) (uX : U8s X) (hl : X.length = len) (n : Int) (hT : Sh.Tabs w) :
    Calls Tryd.prog 4 #[.int .i64 alg, .slice a len cap, .int .i64 n] w fun e w' => e = .returned (.bool true) ∧ Below w.heap.size w w' := by
  by_cases h1 : ¬ len ≤ 8192
  · have h1I : (8192 : Int) < (len : Int) := by omega
    have HT : Hid (Sh.Tabs w) := hT
    clear hX uX hl hT
    go_enter Tryd.func4, Tryd.ntmps4
    go_wp2_with (go_at_call 6; refine (live8_any HT.out).mono ?_; rintro e w2 ⟨rfl, hb⟩)
    go_ret
    exact ⟨rfl, hb⟩
  have h1 := Decidable.not_not.1 h1
  have h1I : (len : Int) ≤ 8192 := by omega
  have HX : Hid (Sl .u8 w (.slice a len cap) X ∧ U8s X ∧ X.length = len ∧ Sh.Tabs w) := ⟨hX, uX, hl, hT⟩
  clear hX uX hl hT
  go_enter Tryd.func4, Tryd.ntmps4
  go_wp2_with fail
  refine (Lent8_n X _ w len HX.out.2.2.1 HX.out.1 (by omega)).mono ?_
  rintro e w1 ⟨b1, S1, c1, rfl, hl1, _, _, _, hb1⟩
  have H1 : Hid (LentR8 w.heap.size w1 (.slice (some ⟨b1, 0, none⟩) len c1) X ∧ Below w.heap.size w w1) := ⟨hl1, hb1⟩
  clear hl1 hb1
  go_wp2_with fail
  refine (MaskC alg _ len c1 X H1.out.1.sl HX.out.2.1 HX.out.2.2.1 h1 n (HX.out.2.2.2.below H1.out.2)).mono ?_
  rintro e w2 ⟨v2, rfl, hs2, hb2⟩
  have H2 : Hid (LentR8 w.heap.size w2 (.slice (some ⟨b1, 0, none⟩) len c1) X ∧ Sl .u8 w2 v2 (mskV alg X n) ∧ Below w.heap.size w w2) := ⟨H1.out.1.below hb2, hs2, below_via H1.out.2 hb2 (Nat.le_refl _)⟩
  obtain ⟨a2, c2, hf2⟩ := hs2.form
  subst hf2
  clear hs2 hb2
  obtain ⟨E, hE⟩ : ∃ E, mskE alg n = E := ⟨_, rfl⟩
  have HE : Hid (mskE alg n = E) := hE
  simp only [hE]
  clear hE
  go_wp2_with fail
  refine (RMaskC alg a len cap X (below_sl H2.out.2.2 HX.out.1) HX.out.2.1 HX.out.2.2.1 h1 n).mono ?_
  rintro e w3 ⟨v3, rfl, hs3, hb3⟩
  have H3 : Hid (LentR8 w.heap.size w3 (.slice (some ⟨b1, 0, none⟩) len c1) X ∧ Sl .u8 w3 (.slice a2 (mskV alg X n).length c2) (mskV alg X n) ∧ Sl .u8 w3 v3 (mskV alg X n) ∧ Below w.heap.size w w3) := ⟨H2.out.1.below hb3, below_sl hb3 H2.out.2.1, hs3, below_via H2.out.2.2 hb3 (Nat.le_refl _)⟩
  obtain ⟨a3, c3, hf3⟩ := hs3.form
  subst hf3
  clear hs3 hb3
  simp only [HE.out]
  go_wp2_with (first
    | (go_at_call 7; refine (num8_any _ _).mono ?_; rintro e w' ⟨rfl, rfl⟩)
    | (go_at_call 15; refine (SameBytes_any _ _ (mskV alg X n) H3.out.2.1 H3.out.2.2.1 (by have := mskV_len alg X n; omega)).mono ?_; rintro e w4 ⟨rfl, hb4⟩; have H4 : Hid (LentR8 w.heap.size w4 (.slice (some ⟨b1, 0, none⟩) len c1) X ∧ Below w.heap.size w w4) := ⟨H3.out.1.below hb4, below_via H3.out.2.2.2 hb4 (Nat.le_refl _)⟩; clear hb4)
    | (go_at_call 16; refine (Kept8_any _ _ X H4.out.1 (below_sl H4.out.2 HX.out.1) (by have := HX.out.2.2.1; omega)).mono ?_; rintro e w5 ⟨rfl, hb5⟩; have H5 : Hid (Below w.heap.size w w5) := below_via H4.out.2 hb5 (Nat.le_refl _); clear hb5)
    | (go_at_call 6; refine (live8_any (HX.out.2.2.2.below H5.out)).mono ?_; rintro e w6 ⟨rfl, hb6⟩; have H6 : Hid (Below w.heap.size w w6) := below_via H5.out hb6 (Nat.le_refl _); clear hb6))
  go_ret
  exact ⟨rfl, H6.out⟩
end Go.Proofs.YtkjjfjekpdjboaaDoor
/-
  Rsa: what the tied list of tables gives; a world for the witness; how an argument reads.
-/
namespace Go.Proofs.YtkjjfjekpdjboaaDoor
open Go.ChangeShapes Go.WideShapes Go.ChangeAt Go.RowKit
/-! ### how an argument reads -/
def IsRow (k : IntKind) (w : World) (a : Option Addr) (len cap : Nat) (zs : List Int) : Prop :=
  (a = none ∧ len = 0 ∧ cap = 0 ∧ zs = []) ∨
  ∃ x, a = some x ∧ len ≤ cap ∧ cap ≤ maxLen ∧ zs.length = cap ∧ (∀ i, i < zs.length → w.cell? (x.add i) = some (.int k (zs.getD i 0))) ∧ ∀ n ∈ zs, (Lit.int k n).wf = true
theorem cell_spot {w : World} {x : Addr} {v : Value} (h : w.cell? x = some v) : x.spot = none ∧ x.block < w.heap.size := by
  unfold World.cell? at h
  split at h
  · rename_i c t f hh
    refine ⟨?_, (Array.getElem?_eq_some_iff.1 hh).1⟩
    by_cases hs : x.spot.isSome
    · simp [hs] at h
    · simpa using hs
  · cases h
theorem IsRow.sl {k : IntKind} {w : World} {a : Option Addr} {len cap : Nat} {zs : List Int} (h : IsRow k w a len cap zs) :
    ∃ X, X.length = len ∧ Sl k w (.slice a len cap) X ∧ ∀ n ∈ X, (Lit.int k n).wf = true := by
  rcases h with ⟨rfl, rfl, rfl, rfl⟩ | ⟨x, rfl, hl, hm, hz, hc, hw⟩
  · exact ⟨[], rfl, ⟨none, 0, rfl, Nat.le_refl _, .inl rfl⟩, by simp⟩
  · refine ⟨zs.take len, by simp; omega, ⟨some x, cap, by simp; omega, by simp; omega, ?_⟩, fun n hn => hw n (List.mem_of_mem_take hn)⟩
    by_cases h0 : len = 0
    · subst h0; exact .inl (by simp)
    · right
      obtain ⟨b, off, sp⟩ := x
      have h1 := cell_spot (hc 0 (by omega))
      have hsp : sp = none := by
        have := h1.1
        cases sp with
        | none => rfl
        | some s => simp [Addr.add] at this
      subst hsp
      have hb : b < w.heap.size := by have := h1.2; simpa [Addr.add] using this
      refine ⟨b, off, rfl, hb, fun i hi => ?_⟩
      simp at hi
      have := hc i (by omega)
      have hadd : (⟨b, off, none⟩ : Addr).add i = ⟨b, off + i, none⟩ := by simp [Addr.add]
      rw [hadd] at this
      rw [this]
      simp [show i < len by omega]
theorem IsRow.sl8 {w : World} {a : Option Addr} {len cap : Nat} {zs : List Int} (h : IsRow .u8 w a len cap zs) : ∃ X, X.length = len ∧ Sl .u8 w (.slice a len cap) X ∧ U8s X := by
  obtain ⟨X, h1, h2, h3⟩ := h.sl
  exact ⟨X, h1, h2, fun n hn => by have := bounds_u8 (h3 n hn); exact ⟨this.1, by omega⟩⟩
theorem Tryd.g_first1 : Tryd.prog.globalNamed "chirograph/sha.first1" = some 0 := by kernel_rfl
theorem Tryd.gt_first1 : (Tryd.prog.globals[0]?).map (·.type) = some 60 := by kernel_rfl
theorem Tryd.gc_first1 : Tryd.prog.cellsOf 60 = 8 := by kernel_rfl
theorem Tryd.lf_first1 : Rows.rsaChecksRow.laid.filter (fun x => x.1 == "chirograph/sha.first1") = [("chirograph/sha.first1", Lib.tabData .u32 Sh.first1L)] := by kernel_rfl
theorem Tryd.g_first256 : Tryd.prog.globalNamed "chirograph/sha.first256" = some 1 := by kernel_rfl
theorem Tryd.gt_first256 : (Tryd.prog.globals[1]?).map (·.type) = some 60 := by kernel_rfl
theorem Tryd.gc_first256 : Tryd.prog.cellsOf 60 = 8 := by kernel_rfl
theorem Tryd.lf_first256 : Rows.rsaChecksRow.laid.filter (fun x => x.1 == "chirograph/sha.first256") = [("chirograph/sha.first256", Lib.tabData .u32 Sh.first256L)] := by kernel_rfl
theorem Tryd.g_first384 : Tryd.prog.globalNamed "chirograph/sha.first384" = some 2 := by kernel_rfl
theorem Tryd.gt_first384 : (Tryd.prog.globals[2]?).map (·.type) = some 61 := by kernel_rfl
theorem Tryd.gc_first384 : Tryd.prog.cellsOf 61 = 8 := by kernel_rfl
theorem Tryd.lf_first384 : Rows.rsaChecksRow.laid.filter (fun x => x.1 == "chirograph/sha.first384") = [("chirograph/sha.first384", Lib.tabData .u64 Sh.first384L)] := by kernel_rfl
theorem Tryd.g_first512 : Tryd.prog.globalNamed "chirograph/sha.first512" = some 3 := by kernel_rfl
theorem Tryd.gt_first512 : (Tryd.prog.globals[3]?).map (·.type) = some 61 := by kernel_rfl
theorem Tryd.gc_first512 : Tryd.prog.cellsOf 61 = 8 := by kernel_rfl
theorem Tryd.lf_first512 : Rows.rsaChecksRow.laid.filter (fun x => x.1 == "chirograph/sha.first512") = [("chirograph/sha.first512", Lib.tabData .u64 Sh.first512L)] := by kernel_rfl
theorem Tryd.g_adds1 : Tryd.prog.globalNamed "chirograph/sha.adds1" = some 5 := by kernel_rfl
theorem Tryd.gt_adds1 : (Tryd.prog.globals[5]?).map (·.type) = some 109 := by kernel_rfl
theorem Tryd.gc_adds1 : Tryd.prog.cellsOf 109 = 4 := by kernel_rfl
theorem Tryd.lf_adds1 : Rows.rsaChecksRow.laid.filter (fun x => x.1 == "chirograph/sha.adds1") = [("chirograph/sha.adds1", Lib.tabData .u32 Sh.adds1L)] := by kernel_rfl
theorem Tryd.g_adds256 : Tryd.prog.globalNamed "chirograph/sha.adds256" = some 6 := by kernel_rfl
theorem Tryd.gt_adds256 : (Tryd.prog.globals[6]?).map (·.type) = some 83 := by kernel_rfl
theorem Tryd.gc_adds256 : Tryd.prog.cellsOf 83 = 64 := by kernel_rfl
theorem Tryd.lf_adds256 : Rows.rsaChecksRow.laid.filter (fun x => x.1 == "chirograph/sha.adds256") = [("chirograph/sha.adds256", Lib.tabData .u32 Sh.adds256L)] := by kernel_rfl
theorem Tryd.g_adds512 : Tryd.prog.globalNamed "chirograph/sha.adds512" = some 7 := by kernel_rfl
theorem Tryd.gt_adds512 : (Tryd.prog.globals[7]?).map (·.type) = some 85 := by kernel_rfl
theorem Tryd.gc_adds512 : Tryd.prog.cellsOf 85 = 80 := by kernel_rfl
theorem Tryd.lf_adds512 : Rows.rsaChecksRow.laid.filter (fun x => x.1 == "chirograph/sha.adds512") = [("chirograph/sha.adds512", Lib.tabData .u64 Sh.adds512L)] := by kernel_rfl
theorem Tryd.c32 : Tryd.prog.cellsOf 41 = 1 := by kernel_rfl
theorem Tryd.c64 : Tryd.prog.cellsOf 57 = 1 := by kernel_rfl
theorem Tryd.u32 : Tryd.prog.underlying 41 = some (.int .u32) := by kernel_rfl
theorem Tryd.u64 : Tryd.prog.underlying 57 = some (.int .u64) := by kernel_rfl
theorem rd_tab {W : World} {name : String} {k : IntKind} {zs : List Int} {g : Nat} (h : Lib.TabIs Tryd.prog W name k zs) (hg : Tryd.prog.globalNamed name = some g) : Rd k W g 0 zs := fun i hi => by
  rw [Nat.zero_add]; exact h.cell hg i hi
theorem laid_one {W : World} {n : String} {d : DataW Unit} (hd : d.handleName?.isNone = true) (h : laidMetH Tryd.prog [(n, d)] W) : laidMet Tryd.prog [(n, d)] W := by
  have e : ([(n, d)] : List (String × DataW Unit)).filter (fun x => x.2.handleName?.isSome) = [] := by
    have h0 : d.handleName?.isSome = false := by cases hx : d.handleName? <;> simp_all
    simp [h0]
  unfold laidMetH at h
  rw [e] at h
  exact h
theorem tabs_of_laid {W : World} (h : laidMetH Tryd.prog Rows.rsaChecksRow.laid W) : Sh.Tabs W := by
  have h_f1 : Rd .u32 W 0 0 Sh.first1L := by
    have h1 := laidMetH.filter (fun x => x.1 == "chirograph/sha.first1") h
    rw [Tryd.lf_first1] at h1
    exact rd_tab (Lib.tabIs_of_head (rest := []) Tryd.g_first1 Tryd.gt_first1 Tryd.underlying60 Tryd.u32 Tryd.c32 Tryd.gc_first1 (laid_one rfl h1)) Tryd.g_first1
  have h_f256 : Rd .u32 W 1 0 Sh.first256L := by
    have h1 := laidMetH.filter (fun x => x.1 == "chirograph/sha.first256") h
    rw [Tryd.lf_first256] at h1
    exact rd_tab (Lib.tabIs_of_head (rest := []) Tryd.g_first256 Tryd.gt_first256 Tryd.underlying60 Tryd.u32 Tryd.c32 Tryd.gc_first256 (laid_one rfl h1)) Tryd.g_first256
  have h_f384 : Rd .u64 W 2 0 Sh.first384L := by
    have h1 := laidMetH.filter (fun x => x.1 == "chirograph/sha.first384") h
    rw [Tryd.lf_first384] at h1
    exact rd_tab (Lib.tabIs_of_head (rest := []) Tryd.g_first384 Tryd.gt_first384 Tryd.underlying61 Tryd.u64 Tryd.c64 Tryd.gc_first384 (laid_one rfl h1)) Tryd.g_first384
  have h_f512 : Rd .u64 W 3 0 Sh.first512L := by
    have h1 := laidMetH.filter (fun x => x.1 == "chirograph/sha.first512") h
    rw [Tryd.lf_first512] at h1
    exact rd_tab (Lib.tabIs_of_head (rest := []) Tryd.g_first512 Tryd.gt_first512 Tryd.underlying61 Tryd.u64 Tryd.c64 Tryd.gc_first512 (laid_one rfl h1)) Tryd.g_first512
  have h_a1 : Rd .u32 W 5 0 Sh.adds1L := by
    have h1 := laidMetH.filter (fun x => x.1 == "chirograph/sha.adds1") h
    rw [Tryd.lf_adds1] at h1
    exact rd_tab (Lib.tabIs_of_head (rest := []) Tryd.g_adds1 Tryd.gt_adds1 Tryd.underlying109 Tryd.u32 Tryd.c32 Tryd.gc_adds1 (laid_one rfl h1)) Tryd.g_adds1
  have h_a256 : Rd .u32 W 6 0 Sh.adds256L := by
    have h1 := laidMetH.filter (fun x => x.1 == "chirograph/sha.adds256") h
    rw [Tryd.lf_adds256] at h1
    exact rd_tab (Lib.tabIs_of_head (rest := []) Tryd.g_adds256 Tryd.gt_adds256 Tryd.underlying83 Tryd.u32 Tryd.c32 Tryd.gc_adds256 (laid_one rfl h1)) Tryd.g_adds256
  have h_a512 : Rd .u64 W 7 0 Sh.adds512L := by
    have h1 := laidMetH.filter (fun x => x.1 == "chirograph/sha.adds512") h
    rw [Tryd.lf_adds512] at h1
    exact rd_tab (Lib.tabIs_of_head (rest := []) Tryd.g_adds512 Tryd.gt_adds512 Tryd.underlying85 Tryd.u64 Tryd.c64 Tryd.gc_adds512 (laid_one rfl h1)) Tryd.g_adds512
  refine ⟨?_, h_f1, h_f256, h_f384, h_f512, h_a1, h_a256, h_a512⟩
  have := (cell_spot (h_a512 0 (by decide))).2
  simp at this
  omega
/-- A world for the witness: the settled one, the tables holding what their initialisers lay. -/
noncomputable def laidWorld (os : Os) : World :=
  { World.holding Tryd.prog os ⟨#[], #[], []⟩ with heap := ((((((((World.holding Tryd.prog os ⟨#[], #[], []⟩).heap.modify 0 fun | .cells _ t frozen => .cells (Sh.first1L.map (Value.int .u32)).toArray t frozen | o => o).modify 1 fun | .cells _ t frozen => .cells (Sh.first256L.map (Value.int .u32)).toArray t frozen | o => o).modify 2 fun | .cells _ t frozen => .cells (Sh.first384L.map (Value.int .u64)).toArray t frozen | o => o).modify 3 fun | .cells _ t frozen => .cells (Sh.first512L.map (Value.int .u64)).toArray t frozen | o => o).modify 5 fun | .cells _ t frozen => .cells (Sh.adds1L.map (Value.int .u32)).toArray t frozen | o => o).modify 6 fun | .cells _ t frozen => .cells (Sh.adds256L.map (Value.int .u32)).toArray t frozen | o => o).modify 7 fun | .cells _ t frozen => .cells (Sh.adds512L.map (Value.int .u64)).toArray t frozen | o => o) }
end Go.Proofs.YtkjjfjekpdjboaaDoor
