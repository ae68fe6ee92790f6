/-
  Digest: the reference's Digest.
-/
import Derived.Test.YtmfdhfdcokkclaaGreatDoorRows
import Derived.Lib.LaidTab
import Derived.LaidSub
import Derived.MakeChecks
import Derived.OpenShut
import Derived.ProofKit
import Derived.Test.YtmfdhfdcokkclaaGreatDoorK36


namespace Go.Proofs.YtmfdhfdcokkclaaGreatDoor.Sh
open Go.RowKit
set_option maxRecDepth 20000
theorem out_cut (s : St) : (out 4 s).take 48 = out 3 s := by
  unfold out
  rw [← List.map_take, List.take_range]
  refine List.map_congr_left fun i _ => ?_
  unfold outB
  rw [show blk 3 = 128 from rfl, show blk 4 = 128 from rfl]
theorem full_len {B : Nat} (n : Nat) (h : B = 64 ∨ B = 128) : ∃ K, n + fillLen n B = B * K ∧ B * K ≤ n + 400 ∧ (n + fillLen n B) / B = K := by
  have h0 : 0 < B := by omega
  have e : n + fillLen n B = B * ((n + B / 8) / B + 1) := by
    unfold fillLen
    have := Nat.mod_lt (n + B / 8) h0
    have h2 := Nat.div_add_mod (n + B / 8) B
    rw [Nat.mul_succ]; omega
  refine ⟨(n + B / 8) / B + 1, e, ?_, by rw [e, Nat.mul_div_cancel_left _ h0]⟩
  have h2 := Nat.div_add_mod (n + B / 8) B
  rw [Nat.mul_succ]; rcases h with rfl | rfl <;> omega
theorem row_rd {B : Nat} {w : World} {v : Value} {Y : List Int} (n : Nat) (h : Row .u8 5 B w v Y) (hn : Y.length = n) (h0 : 0 < n) : ∃ b c, v = .slice (some ⟨b, 0, none⟩) n c ∧ n ≤ c ∧ b < w.heap.size ∧ Rd .u8 w b 0 Y := by
  obtain ⟨b, S, rfl, _, hA, hl, ht, _⟩ := h.open n hn h0
  refine ⟨b, _, rfl, hl, hA.lt, ?_⟩
  have := hA.rd 0 n (by omega)
  rw [List.drop_zero, ht] at this; exact this
theorem full_u8 {X : List Int} (h : U8s X) (B : Nat) : U8s (X ++ fill X.length B) := h.append (fill_u8 _ _)
theorem full_n {X : List Int} {B : Nat} (h : B = 64 ∨ B = 128) : (X ++ fill X.length B).length = X.length + fillLen X.length B := by rw [List.length_append, fill_len h]
theorem fillLen_pos {n B : Nat} (h : B = 64 ∨ B = 128) : 0 < fillLen n B := by
  unfold fillLen
  have := Nat.mod_lt (n + B / 8) (show 0 < B by omega)
  omega
set_option maxHeartbeats 1000000 in
theorem RDigest_1 {w : World} (v : Value) (X : List Int) (hX : Sl .u8 w v X) (uX : U8s X) (hl : X.length ≤ 65536) :
    Calls Tryz.prog 9 #[.int .i64 1, v] w fun e w' => ∃ r, e = .returned r ∧ Sl .u8 w' r (dig 1 X) ∧ Below w.heap.size w w' := by
  obtain ⟨K, hK, hKl, hKd⟩ := full_len (B := 64) X.length (.inl rfl)
  have hn := full_n (X := X) (B := 64) (.inl rfl)
  have hp := fillLen_pos (n := X.length) (B := 64) (.inl rfl)
  obtain ⟨Y, hY⟩ : ∃ Y, X ++ fill X.length 64 = Y := ⟨_, rfl⟩
  obtain ⟨N, hN⟩ : ∃ N, 64 * K = N := ⟨_, rfl⟩
  obtain ⟨D, hD⟩ : ∃ D, dig 1 X = D := ⟨_, rfl⟩
  have hD2 : D = out 1 (run 1 Y K) := by rw [← hD, ← hY]; unfold dig; rw [show blk 1 = 64 from rfl, hKd]
  have uY : U8s Y := by rw [← hY]; exact full_u8 uX _
  rw [hY] at hn
  have HF : Hid (∀ r w1, Row .u8 5 w.heap.size w1 r Y → ∃ b c, r = .slice (some ⟨b, 0, none⟩) N c ∧ Calls Tryz.prog 20 #[.slice (some ⟨b, 0, none⟩) N c] w1 fun e w' => ∃ r, e = .returned r ∧ Row .u8 5 w1.heap.size w' r D ∧ Below w1.heap.size w1 w') := fun r w1 h => by
    obtain ⟨b, c, e, h1, h2, h3⟩ := row_rd N h (by omega) (by omega)
    rw [hD2]
    exact ⟨b, c, e, sha1_any b 0 _ c _ K h2 h3 uY (by omega) hN.symm (by omega) h1⟩
  have HX : Hid (Sl .u8 w v X ∧ X.length ≤ 65536 ∧ X ++ fill X.length 64 = Y) := ⟨hX, hl, hY⟩
  rw [hD]
  obtain ⟨a, n, cp, rfl⟩ : ∃ a n c, v = .slice a n c := by obtain ⟨a, c, h, h', _⟩ := hX; exact ⟨a, _, c, h⟩
  clear hK hKl hKd hn hp hX uX hl hD hD2 hY hN uY
  go_enter Tryz.func9, Tryz.ntmps9
  go_wp2_with fail
  refine (filled_64 _ X HX.out.1 (by have := HX.out.2.1; omega)).mono ?_
  rintro e w1 ⟨r1, rfl, hr1, hb1⟩
  rw [HX.out.2.2] at hr1
  obtain ⟨b1, c1, rfl, hc⟩ := HF.out _ _ hr1
  have HB : Hid (Below w.heap.size w w1) := hb1
  have HCl : Hid (Calls Tryz.prog 20 #[.slice (some ⟨b1, 0, none⟩) N c1] w1 fun e w' => ∃ r, e = .returned r ∧ Row .u8 5 w1.heap.size w' r D ∧ Below w1.heap.size w1 w') := hc
  clear hr1 hb1 hc
  go_wp2_with fail
  refine HCl.out.mono ?_
  rintro e w2 ⟨r2, rfl, hr2, hb2⟩
  have H2 : Hid (Row .u8 5 w1.heap.size w2 r2 D ∧ Below w1.heap.size w1 w2) := ⟨hr2, hb2⟩
  clear hr2 hb2
  go_wp2
  go_ret
  exact ⟨_, rfl, H2.out.1.sl, below_via HB.out H2.out.2 (Nat.le_refl _)⟩
set_option maxHeartbeats 1000000 in
theorem RDigest_2 {w : World} (v : Value) (X : List Int) (hX : Sl .u8 w v X) (uX : U8s X) (hl : X.length ≤ 65536) :
    Calls Tryz.prog 9 #[.int .i64 2, v] w fun e w' => ∃ r, e = .returned r ∧ Sl .u8 w' r (dig 2 X) ∧ Below w.heap.size w w' := by
  obtain ⟨K, hK, hKl, hKd⟩ := full_len (B := 64) X.length (.inl rfl)
  have hn := full_n (X := X) (B := 64) (.inl rfl)
  have hp := fillLen_pos (n := X.length) (B := 64) (.inl rfl)
  obtain ⟨Y, hY⟩ : ∃ Y, X ++ fill X.length 64 = Y := ⟨_, rfl⟩
  obtain ⟨N, hN⟩ : ∃ N, 64 * K = N := ⟨_, rfl⟩
  obtain ⟨D, hD⟩ : ∃ D, dig 2 X = D := ⟨_, rfl⟩
  have hD2 : D = out 2 (run 2 Y K) := by rw [← hD, ← hY]; unfold dig; rw [show blk 2 = 64 from rfl, hKd]
  have uY : U8s Y := by rw [← hY]; exact full_u8 uX _
  rw [hY] at hn
  have HF : Hid (∀ r w1, Row .u8 5 w.heap.size w1 r Y → ∃ b c, r = .slice (some ⟨b, 0, none⟩) N c ∧ Calls Tryz.prog 22 #[.slice (some ⟨b, 0, none⟩) N c] w1 fun e w' => ∃ r, e = .returned r ∧ Row .u8 5 w1.heap.size w' r D ∧ Below w1.heap.size w1 w') := fun r w1 h => by
    obtain ⟨b, c, e, h1, h2, h3⟩ := row_rd N h (by omega) (by omega)
    rw [hD2]
    exact ⟨b, c, e, sha256_any b 0 _ c _ K h2 h3 uY (by omega) hN.symm (by omega) h1⟩
  have HX : Hid (Sl .u8 w v X ∧ X.length ≤ 65536 ∧ X ++ fill X.length 64 = Y) := ⟨hX, hl, hY⟩
  rw [hD]
  obtain ⟨a, n, cp, rfl⟩ : ∃ a n c, v = .slice a n c := by obtain ⟨a, c, h, h', _⟩ := hX; exact ⟨a, _, c, h⟩
  clear hK hKl hKd hn hp hX uX hl hD hD2 hY hN uY
  go_enter Tryz.func9, Tryz.ntmps9
  go_wp2_with fail
  refine (filled_64 _ X HX.out.1 (by have := HX.out.2.1; omega)).mono ?_
  rintro e w1 ⟨r1, rfl, hr1, hb1⟩
  rw [HX.out.2.2] at hr1
  obtain ⟨b1, c1, rfl, hc⟩ := HF.out _ _ hr1
  have HB : Hid (Below w.heap.size w w1) := hb1
  have HCl : Hid (Calls Tryz.prog 22 #[.slice (some ⟨b1, 0, none⟩) N c1] w1 fun e w' => ∃ r, e = .returned r ∧ Row .u8 5 w1.heap.size w' r D ∧ Below w1.heap.size w1 w') := hc
  clear hr1 hb1 hc
  go_wp2_with fail
  refine HCl.out.mono ?_
  rintro e w2 ⟨r2, rfl, hr2, hb2⟩
  have H2 : Hid (Row .u8 5 w1.heap.size w2 r2 D ∧ Below w1.heap.size w1 w2) := ⟨hr2, hb2⟩
  clear hr2 hb2
  go_wp2
  go_ret
  exact ⟨_, rfl, H2.out.1.sl, below_via HB.out H2.out.2 (Nat.le_refl _)⟩
theorem sl_cut {w : World} {b c : Nat} {D E : List Int} (hb : b < w.heap.size) (hc : 48 ≤ c) (hr : Rd .u8 w b 0 D) (he : D.take 48 = E) (hl : D.length = 64) : Sl .u8 w (.slice (some ⟨b, 0, none⟩) 48 c) E := by
  have hle : E.length = 48 := by rw [← he, List.length_take]; omega
  refine ⟨_, _, by rw [hle], by omega, .inr ⟨b, 0, rfl, hb, ?_⟩⟩
  rw [← he]; exact hr.take 48
set_option maxRecDepth 4000 in
set_option maxHeartbeats 1000000 in
theorem RDigest_3 {w : World} (v : Value) (X : List Int) (hX : Sl .u8 w v X) (uX : U8s X) (hl : X.length ≤ 65536) :
    Calls Tryz.prog 9 #[.int .i64 3, v] w fun e w' => ∃ r, e = .returned r ∧ Sl .u8 w' r (dig 3 X) ∧ Below w.heap.size w w' := by
  obtain ⟨K, hK, hKl, hKd⟩ := full_len (B := 128) X.length (.inr rfl)
  have hn := full_n (X := X) (B := 128) (.inr rfl)
  have hp := fillLen_pos (n := X.length) (B := 128) (.inr rfl)
  obtain ⟨Y, hY⟩ : ∃ Y, X ++ fill X.length 128 = Y := ⟨_, rfl⟩
  obtain ⟨N, hN⟩ : ∃ N, 128 * K = N := ⟨_, rfl⟩
  obtain ⟨E, hE⟩ : ∃ E, dig 3 X = E := ⟨_, rfl⟩
  obtain ⟨D, hD⟩ : ∃ D, out 4 (run 3 Y K) = D := ⟨_, rfl⟩
  have HD : Hid (D.take 48 = E ∧ D.length = 64) := by
    refine ⟨?_, by rw [← hD]; exact out_len 4 _⟩
    rw [← hE, ← hD, ← hY]; rw [out_cut]; unfold dig; rw [show blk 3 = 128 from rfl, hKd]
  have uY : U8s Y := by rw [← hY]; exact full_u8 uX _
  rw [hY] at hn
  have HF : Hid (∀ r w1, Row .u8 5 w.heap.size w1 r Y → ∃ b c, r = .slice (some ⟨b, 0, none⟩) N c ∧ Calls Tryz.prog 23 #[.slice (some ⟨b, 0, none⟩) N c, .agg #[.int .u64 14680500436340154072, .int .u64 7105036623409894663, .int .u64 10473403895298186519, .int .u64 1526699215303891257, .int .u64 7436329637833083697, .int .u64 10282925794625328401, .int .u64 15784041429090275239, .int .u64 5167115440072839076]] w1 fun e w' => ∃ r, e = .returned r ∧ Row .u8 5 w1.heap.size w' r D ∧ Below w1.heap.size w1 w') := fun r w1 h => by
    obtain ⟨b, c, e, h1, h2, h3⟩ := row_rd N h (by omega) (by omega)
    rw [← hD]
    exact ⟨b, c, e, sha512_any 3 (.inl rfl) b 0 _ c _ K ⟨14680500436340154072, 7105036623409894663, 10473403895298186519, 1526699215303891257, 7436329637833083697, 10282925794625328401, 15784041429090275239, 5167115440072839076⟩ rfl h2 h3 uY (by omega) hN.symm (by omega) h1⟩
  have HX : Hid (Sl .u8 w v X ∧ X.length ≤ 65536 ∧ X ++ fill X.length 128 = Y) := ⟨hX, hl, hY⟩
  rw [hE]
  obtain ⟨a, n, cp, rfl⟩ : ∃ a n c, v = .slice a n c := by obtain ⟨a, c, h, h', _⟩ := hX; exact ⟨a, _, c, h⟩
  clear hK hKl hKd hn hp hX uX hl hD hE hY hN uY
  go_enter Tryz.func9, Tryz.ntmps9
  go_wp2_with fail
  refine (filled_128 _ X HX.out.1 (by have := HX.out.2.1; omega)).mono ?_
  rintro e w1 ⟨r1, rfl, hr1, hb1⟩
  rw [HX.out.2.2] at hr1
  obtain ⟨b1, c1, rfl, hc⟩ := HF.out _ _ hr1
  have HB : Hid (Below w.heap.size w w1) := hb1
  have HCl : Hid (Calls Tryz.prog 23 #[.slice (some ⟨b1, 0, none⟩) N c1, .agg #[.int .u64 14680500436340154072, .int .u64 7105036623409894663, .int .u64 10473403895298186519, .int .u64 1526699215303891257, .int .u64 7436329637833083697, .int .u64 10282925794625328401, .int .u64 15784041429090275239, .int .u64 5167115440072839076]] w1 fun e w' => ∃ r, e = .returned r ∧ Row .u8 5 w1.heap.size w' r D ∧ Below w1.heap.size w1 w') := hc
  clear hr1 hb1 hc
  go_wp2_with fail
  refine HCl.out.mono ?_
  rintro e w2 ⟨r2, rfl, hr2, hb2⟩
  have H2 : Hid (Row .u8 5 w1.heap.size w2 r2 D ∧ Below w1.heap.size w1 w2) := ⟨hr2, hb2⟩
  clear hr2 hb2
  obtain ⟨b2, c2, rfl, hc2, hl2, hrd⟩ := row_rd 64 H2.out.1 HD.out.2 (by omega)
  have HR : Hid (b2 < w2.heap.size ∧ Rd .u8 w2 b2 0 D) := ⟨hl2, hrd⟩
  clear hl2 hrd
  go_wp2
  go_ret
  exact ⟨_, rfl, sl_cut HR.out.1 (by omega) HR.out.2 HD.out.1 HD.out.2, below_via HB.out H2.out.2 (Nat.le_refl _)⟩
set_option maxRecDepth 4000 in
set_option maxHeartbeats 1000000 in
theorem RDigest_4 {w : World} (v : Value) (X : List Int) (hX : Sl .u8 w v X) (uX : U8s X) (hl : X.length ≤ 65536) :
    Calls Tryz.prog 9 #[.int .i64 4, v] w fun e w' => ∃ r, e = .returned r ∧ Sl .u8 w' r (dig 4 X) ∧ Below w.heap.size w w' := by
  obtain ⟨K, hK, hKl, hKd⟩ := full_len (B := 128) X.length (.inr rfl)
  have hn := full_n (X := X) (B := 128) (.inr rfl)
  have hp := fillLen_pos (n := X.length) (B := 128) (.inr rfl)
  obtain ⟨Y, hY⟩ : ∃ Y, X ++ fill X.length 128 = Y := ⟨_, rfl⟩
  obtain ⟨N, hN⟩ : ∃ N, 128 * K = N := ⟨_, rfl⟩
  obtain ⟨E, hE⟩ : ∃ E, dig 4 X = E := ⟨_, rfl⟩
  obtain ⟨D, hD⟩ : ∃ D, out 4 (run 4 Y K) = D := ⟨_, rfl⟩
  have HD : Hid (D = E ∧ D.length = 64) := by
    refine ⟨?_, by rw [← hD]; exact out_len 4 _⟩
    rw [← hE, ← hD, ← hY]; unfold dig; rw [show blk 4 = 128 from rfl, hKd]
  have uY : U8s Y := by rw [← hY]; exact full_u8 uX _
  rw [hY] at hn
  have HF : Hid (∀ r w1, Row .u8 5 w.heap.size w1 r Y → ∃ b c, r = .slice (some ⟨b, 0, none⟩) N c ∧ Calls Tryz.prog 23 #[.slice (some ⟨b, 0, none⟩) N c, .agg #[.int .u64 7640891576956012808, .int .u64 13503953896175478587, .int .u64 4354685564936845355, .int .u64 11912009170470909681, .int .u64 5840696475078001361, .int .u64 11170449401992604703, .int .u64 2270897969802886507, .int .u64 6620516959819538809]] w1 fun e w' => ∃ r, e = .returned r ∧ Row .u8 5 w1.heap.size w' r D ∧ Below w1.heap.size w1 w') := fun r w1 h => by
    obtain ⟨b, c, e, h1, h2, h3⟩ := row_rd N h (by omega) (by omega)
    rw [← hD]
    exact ⟨b, c, e, sha512_any 4 (.inr rfl) b 0 _ c _ K ⟨7640891576956012808, 13503953896175478587, 4354685564936845355, 11912009170470909681, 5840696475078001361, 11170449401992604703, 2270897969802886507, 6620516959819538809⟩ rfl h2 h3 uY (by omega) hN.symm (by omega) h1⟩
  have HX : Hid (Sl .u8 w v X ∧ X.length ≤ 65536 ∧ X ++ fill X.length 128 = Y) := ⟨hX, hl, hY⟩
  rw [hE]
  obtain ⟨a, n, cp, rfl⟩ : ∃ a n c, v = .slice a n c := by obtain ⟨a, c, h, h', _⟩ := hX; exact ⟨a, _, c, h⟩
  clear hK hKl hKd hn hp hX uX hl hD hE hY hN uY
  go_enter Tryz.func9, Tryz.ntmps9
  go_wp2_with fail
  refine (filled_128 _ X HX.out.1 (by have := HX.out.2.1; omega)).mono ?_
  rintro e w1 ⟨r1, rfl, hr1, hb1⟩
  rw [HX.out.2.2] at hr1
  obtain ⟨b1, c1, rfl, hc⟩ := HF.out _ _ hr1
  have HB : Hid (Below w.heap.size w w1) := hb1
  have HCl : Hid (Calls Tryz.prog 23 #[.slice (some ⟨b1, 0, none⟩) N c1, .agg #[.int .u64 7640891576956012808, .int .u64 13503953896175478587, .int .u64 4354685564936845355, .int .u64 11912009170470909681, .int .u64 5840696475078001361, .int .u64 11170449401992604703, .int .u64 2270897969802886507, .int .u64 6620516959819538809]] w1 fun e w' => ∃ r, e = .returned r ∧ Row .u8 5 w1.heap.size w' r D ∧ Below w1.heap.size w1 w') := hc
  clear hr1 hb1 hc
  go_wp2_with fail
  refine HCl.out.mono ?_
  rintro e w2 ⟨r2, rfl, hr2, hb2⟩
  have H2 : Hid (Row .u8 5 w1.heap.size w2 r2 D ∧ Below w1.heap.size w1 w2) := ⟨hr2, hb2⟩
  clear hr2 hb2
  go_wp2
  go_ret
  exact ⟨_, rfl, by rw [← HD.out.1]; exact H2.out.1.sl, below_via HB.out H2.out.2 (Nat.le_refl _)⟩
theorem Digest_ok : DigestC := fun alg ha w v X h1 h2 h3 => by
  rcases ha with rfl | rfl | rfl | rfl
  · exact RDigest_1 v X h1 h2 h3
  · exact RDigest_2 v X h1 h2 h3
  · exact RDigest_3 v X h1 h2 h3
  · exact RDigest_4 v X h1 h2 h3
end Go.Proofs.YtmfdhfdcokkclaaGreatDoor.Sh
/-
  Rsa: what the tied list of tables gives; a world for the witness; how an argument reads.
-/
namespace Go.Proofs.YtmfdhfdcokkclaaGreatDoor
open Go.ChangeShapes Go.WideShapes Go.ChangeAt Go.RowKit
/-! ### how an argument reads -/
def IsRow (k : IntKind) (w : World) (a : Option Addr) (len cap : Nat) (zs : List Int) : Prop :=
  (a = none ∧ len = 0 ∧ cap = 0 ∧ zs = []) ∨
  ∃ x, a = some x ∧ len ≤ cap ∧ cap ≤ maxLen ∧ zs.length = cap ∧ (∀ i, i < zs.length → w.cell? (x.add i) = some (.int k (zs.getD i 0))) ∧ ∀ n ∈ zs, (Lit.int k n).wf = true
theorem cell_spot {w : World} {x : Addr} {v : Value} (h : w.cell? x = some v) : x.spot = none ∧ x.block < w.heap.size := by
  unfold World.cell? at h
  split at h
  · rename_i c t f hh
    refine ⟨?_, (Array.getElem?_eq_some_iff.1 hh).1⟩
    by_cases hs : x.spot.isSome
    · simp [hs] at h
    · simpa using hs
  · cases h
theorem IsRow.sl {k : IntKind} {w : World} {a : Option Addr} {len cap : Nat} {zs : List Int} (h : IsRow k w a len cap zs) :
    ∃ X, X.length = len ∧ Sl k w (.slice a len cap) X ∧ ∀ n ∈ X, (Lit.int k n).wf = true := by
  rcases h with ⟨rfl, rfl, rfl, rfl⟩ | ⟨x, rfl, hl, hm, hz, hc, hw⟩
  · exact ⟨[], rfl, ⟨none, 0, rfl, Nat.le_refl _, .inl rfl⟩, by simp⟩
  · refine ⟨zs.take len, by simp; omega, ⟨some x, cap, by simp; omega, by simp; omega, ?_⟩, fun n hn => hw n (List.mem_of_mem_take hn)⟩
    by_cases h0 : len = 0
    · subst h0; exact .inl (by simp)
    · right
      obtain ⟨b, off, sp⟩ := x
      have h1 := cell_spot (hc 0 (by omega))
      have hsp : sp = none := by
        have := h1.1
        cases sp with
        | none => rfl
        | some s => simp [Addr.add] at this
      subst hsp
      have hb : b < w.heap.size := by have := h1.2; simpa [Addr.add] using this
      refine ⟨b, off, rfl, hb, fun i hi => ?_⟩
      simp at hi
      have := hc i (by omega)
      have hadd : (⟨b, off, none⟩ : Addr).add i = ⟨b, off + i, none⟩ := by simp [Addr.add]
      rw [hadd] at this
      rw [this]
      simp [show i < len by omega]
theorem IsRow.sl8 {w : World} {a : Option Addr} {len cap : Nat} {zs : List Int} (h : IsRow .u8 w a len cap zs) : ∃ X, X.length = len ∧ Sl .u8 w (.slice a len cap) X ∧ U8s X := by
  obtain ⟨X, h1, h2, h3⟩ := h.sl
  exact ⟨X, h1, h2, fun n hn => by have := bounds_u8 (h3 n hn); exact ⟨this.1, by omega⟩⟩
theorem Tryz.g_first1 : Tryz.prog.globalNamed "chirograph/sha.first1" = some 0 := by kernel_rfl
theorem Tryz.gt_first1 : (Tryz.prog.globals[0]?).map (·.type) = some 75 := by kernel_rfl
theorem Tryz.gc_first1 : Tryz.prog.cellsOf 75 = 8 := by kernel_rfl
theorem Tryz.lf_first1 : Rows.rsaSignedRow.laid.filter (fun x => x.1 == "chirograph/sha.first1") = [("chirograph/sha.first1", Lib.tabData .u32 Sh.first1L)] := by kernel_rfl
theorem Tryz.g_first256 : Tryz.prog.globalNamed "chirograph/sha.first256" = some 1 := by kernel_rfl
theorem Tryz.gt_first256 : (Tryz.prog.globals[1]?).map (·.type) = some 75 := by kernel_rfl
theorem Tryz.gc_first256 : Tryz.prog.cellsOf 75 = 8 := by kernel_rfl
theorem Tryz.lf_first256 : Rows.rsaSignedRow.laid.filter (fun x => x.1 == "chirograph/sha.first256") = [("chirograph/sha.first256", Lib.tabData .u32 Sh.first256L)] := by kernel_rfl
theorem Tryz.g_first384 : Tryz.prog.globalNamed "chirograph/sha.first384" = some 2 := by kernel_rfl
theorem Tryz.gt_first384 : (Tryz.prog.globals[2]?).map (·.type) = some 52 := by kernel_rfl
theorem Tryz.gc_first384 : Tryz.prog.cellsOf 52 = 8 := by kernel_rfl
theorem Tryz.lf_first384 : Rows.rsaSignedRow.laid.filter (fun x => x.1 == "chirograph/sha.first384") = [("chirograph/sha.first384", Lib.tabData .u64 Sh.first384L)] := by kernel_rfl
theorem Tryz.g_first512 : Tryz.prog.globalNamed "chirograph/sha.first512" = some 3 := by kernel_rfl
theorem Tryz.gt_first512 : (Tryz.prog.globals[3]?).map (·.type) = some 52 := by kernel_rfl
theorem Tryz.gc_first512 : Tryz.prog.cellsOf 52 = 8 := by kernel_rfl
theorem Tryz.lf_first512 : Rows.rsaSignedRow.laid.filter (fun x => x.1 == "chirograph/sha.first512") = [("chirograph/sha.first512", Lib.tabData .u64 Sh.first512L)] := by kernel_rfl
theorem Tryz.g_adds1 : Tryz.prog.globalNamed "chirograph/sha.adds1" = some 5 := by kernel_rfl
theorem Tryz.gt_adds1 : (Tryz.prog.globals[5]?).map (·.type) = some 159 := by kernel_rfl
theorem Tryz.gc_adds1 : Tryz.prog.cellsOf 159 = 4 := by kernel_rfl
theorem Tryz.lf_adds1 : Rows.rsaSignedRow.laid.filter (fun x => x.1 == "chirograph/sha.adds1") = [("chirograph/sha.adds1", Lib.tabData .u32 Sh.adds1L)] := by kernel_rfl
theorem Tryz.g_adds256 : Tryz.prog.globalNamed "chirograph/sha.adds256" = some 6 := by kernel_rfl
theorem Tryz.gt_adds256 : (Tryz.prog.globals[6]?).map (·.type) = some 73 := by kernel_rfl
theorem Tryz.gc_adds256 : Tryz.prog.cellsOf 73 = 64 := by kernel_rfl
theorem Tryz.lf_adds256 : Rows.rsaSignedRow.laid.filter (fun x => x.1 == "chirograph/sha.adds256") = [("chirograph/sha.adds256", Lib.tabData .u32 Sh.adds256L)] := by kernel_rfl
theorem Tryz.g_adds512 : Tryz.prog.globalNamed "chirograph/sha.adds512" = some 7 := by kernel_rfl
theorem Tryz.gt_adds512 : (Tryz.prog.globals[7]?).map (·.type) = some 76 := by kernel_rfl
theorem Tryz.gc_adds512 : Tryz.prog.cellsOf 76 = 80 := by kernel_rfl
theorem Tryz.lf_adds512 : Rows.rsaSignedRow.laid.filter (fun x => x.1 == "chirograph/sha.adds512") = [("chirograph/sha.adds512", Lib.tabData .u64 Sh.adds512L)] := by kernel_rfl
theorem Tryz.c32 : Tryz.prog.cellsOf 46 = 1 := by kernel_rfl
theorem Tryz.c64 : Tryz.prog.cellsOf 51 = 1 := by kernel_rfl
theorem Tryz.u32 : Tryz.prog.underlying 46 = some (.int .u32) := by kernel_rfl
theorem Tryz.u64 : Tryz.prog.underlying 51 = some (.int .u64) := by kernel_rfl
theorem rd_tab {W : World} {name : String} {k : IntKind} {zs : List Int} {g : Nat} (h : Lib.TabIs Tryz.prog W name k zs) (hg : Tryz.prog.globalNamed name = some g) : Rd k W g 0 zs := fun i hi => by
  rw [Nat.zero_add]; exact h.cell hg i hi
theorem laid_one {W : World} {n : String} {d : DataW Unit} (hd : d.handleName?.isNone = true) (h : laidMetH Tryz.prog [(n, d)] W) : laidMet Tryz.prog [(n, d)] W := by
  have e : ([(n, d)] : List (String × DataW Unit)).filter (fun x => x.2.handleName?.isSome) = [] := by
    have h0 : d.handleName?.isSome = false := by cases hx : d.handleName? <;> simp_all
    simp [h0]
  unfold laidMetH at h
  rw [e] at h
  exact h
theorem tabs_of_laid {W : World} (h : laidMetH Tryz.prog Rows.rsaSignedRow.laid W) : Sh.Tabs W := by
  have h_f1 : Rd .u32 W 0 0 Sh.first1L := by
    have h1 := laidMetH.filter (fun x => x.1 == "chirograph/sha.first1") h
    rw [Tryz.lf_first1] at h1
    exact rd_tab (Lib.tabIs_of_head (rest := []) Tryz.g_first1 Tryz.gt_first1 Tryz.underlying75 Tryz.u32 Tryz.c32 Tryz.gc_first1 (laid_one rfl h1)) Tryz.g_first1
  have h_f256 : Rd .u32 W 1 0 Sh.first256L := by
    have h1 := laidMetH.filter (fun x => x.1 == "chirograph/sha.first256") h
    rw [Tryz.lf_first256] at h1
    exact rd_tab (Lib.tabIs_of_head (rest := []) Tryz.g_first256 Tryz.gt_first256 Tryz.underlying75 Tryz.u32 Tryz.c32 Tryz.gc_first256 (laid_one rfl h1)) Tryz.g_first256
  have h_f384 : Rd .u64 W 2 0 Sh.first384L := by
    have h1 := laidMetH.filter (fun x => x.1 == "chirograph/sha.first384") h
    rw [Tryz.lf_first384] at h1
    exact rd_tab (Lib.tabIs_of_head (rest := []) Tryz.g_first384 Tryz.gt_first384 Tryz.underlying52 Tryz.u64 Tryz.c64 Tryz.gc_first384 (laid_one rfl h1)) Tryz.g_first384
  have h_f512 : Rd .u64 W 3 0 Sh.first512L := by
    have h1 := laidMetH.filter (fun x => x.1 == "chirograph/sha.first512") h
    rw [Tryz.lf_first512] at h1
    exact rd_tab (Lib.tabIs_of_head (rest := []) Tryz.g_first512 Tryz.gt_first512 Tryz.underlying52 Tryz.u64 Tryz.c64 Tryz.gc_first512 (laid_one rfl h1)) Tryz.g_first512
  have h_a1 : Rd .u32 W 5 0 Sh.adds1L := by
    have h1 := laidMetH.filter (fun x => x.1 == "chirograph/sha.adds1") h
    rw [Tryz.lf_adds1] at h1
    exact rd_tab (Lib.tabIs_of_head (rest := []) Tryz.g_adds1 Tryz.gt_adds1 Tryz.underlying159 Tryz.u32 Tryz.c32 Tryz.gc_adds1 (laid_one rfl h1)) Tryz.g_adds1
  have h_a256 : Rd .u32 W 6 0 Sh.adds256L := by
    have h1 := laidMetH.filter (fun x => x.1 == "chirograph/sha.adds256") h
    rw [Tryz.lf_adds256] at h1
    exact rd_tab (Lib.tabIs_of_head (rest := []) Tryz.g_adds256 Tryz.gt_adds256 Tryz.underlying73 Tryz.u32 Tryz.c32 Tryz.gc_adds256 (laid_one rfl h1)) Tryz.g_adds256
  have h_a512 : Rd .u64 W 7 0 Sh.adds512L := by
    have h1 := laidMetH.filter (fun x => x.1 == "chirograph/sha.adds512") h
    rw [Tryz.lf_adds512] at h1
    exact rd_tab (Lib.tabIs_of_head (rest := []) Tryz.g_adds512 Tryz.gt_adds512 Tryz.underlying76 Tryz.u64 Tryz.c64 Tryz.gc_adds512 (laid_one rfl h1)) Tryz.g_adds512
  refine ⟨?_, h_f1, h_f256, h_f384, h_f512, h_a1, h_a256, h_a512⟩
  have := (cell_spot (h_a512 0 (by decide))).2
  simp at this
  omega
/-- A world for the witness: the settled one, the tables holding what their initialisers lay. -/
def laidWorld (W : World) : World :=
  { W with heap := (((((((W.heap.modify 0 fun | .cells _ t frozen => .cells (Sh.first1L.map (Value.int .u32)).toArray t frozen | o => o).modify 1 fun | .cells _ t frozen => .cells (Sh.first256L.map (Value.int .u32)).toArray t frozen | o => o).modify 2 fun | .cells _ t frozen => .cells (Sh.first384L.map (Value.int .u64)).toArray t frozen | o => o).modify 3 fun | .cells _ t frozen => .cells (Sh.first512L.map (Value.int .u64)).toArray t frozen | o => o).modify 5 fun | .cells _ t frozen => .cells (Sh.adds1L.map (Value.int .u32)).toArray t frozen | o => o).modify 6 fun | .cells _ t frozen => .cells (Sh.adds256L.map (Value.int .u32)).toArray t frozen | o => o).modify 7 fun | .cells _ t frozen => .cells (Sh.adds512L.map (Value.int .u64)).toArray t frozen | o => o) }
end Go.Proofs.YtmfdhfdcokkclaaGreatDoor
/-
  Rsa: the law RsaSigned. (wip/mky62.py)
-/
namespace Go.Proofs.YtmfdhfdcokkclaaGreatDoor
open Go.RowKit
set_option maxRecDepth 20000
theorem RsaSigned_l0 {w : World} (i : Int) (alg : Int) (a : Option Addr) (len cap : Nat) (a' : Option Addr) (len' cap' : Nat) (g0 : decide (8192 < (len : Int)) = true) (hT : Sh.Tabs w) :
    Calls Tryz.prog 3 #[.int .u8 i, .int .i64 alg, .slice a len cap, .slice a' len' cap'] w fun e w' => e = .returned (.bool true) ∧ Below w.heap.size w w' := by
  have HL : Hid (∀ W, Below w.heap.size w W → Calls Tryz.prog 7 #[] W fun e w' => e = .returned (.bool true) ∧ Below W.heap.size W w') := fun W h => live8_any (hT.below h)
  go_enter Tryz.func3, Tryz.ntmps3
  go_wp2_with fail
  refine (HL.out _ (Below.refl _ _)).mono ?_
  rintro e w7 ⟨rfl, hb7⟩
  have H7 : Hid (Below w.heap.size w w7) := below_via (Below.refl _ _) hb7 (Nat.le_refl _)
  clear hb7
  go_wp2
  go_ret
  exact ⟨rfl, H7.out⟩
theorem RsaSigned_l1 {w : World} (i : Int) (alg : Int) (a : Option Addr) (len cap : Nat) (a' : Option Addr) (len' cap' : Nat) (g0 : decide (8192 < (len : Int)) = false) (g1 : decide (8192 < (len' : Int)) = true) (hT : Sh.Tabs w) :
    Calls Tryz.prog 3 #[.int .u8 i, .int .i64 alg, .slice a len cap, .slice a' len' cap'] w fun e w' => e = .returned (.bool true) ∧ Below w.heap.size w w' := by
  have HL : Hid (∀ W, Below w.heap.size w W → Calls Tryz.prog 7 #[] W fun e w' => e = .returned (.bool true) ∧ Below W.heap.size W w') := fun W h => live8_any (hT.below h)
  go_enter Tryz.func3, Tryz.ntmps3
  go_wp2_with fail
  refine (HL.out _ (Below.refl _ _)).mono ?_
  rintro e w7 ⟨rfl, hb7⟩
  have H7 : Hid (Below w.heap.size w w7) := below_via (Below.refl _ _) hb7 (Nat.le_refl _)
  clear hb7
  go_wp2
  go_ret
  exact ⟨rfl, H7.out⟩
theorem RsaSigned_l2 {w : World} (i : Int) (alg : Int) (a : Option Addr) (len cap : Nat) (a' : Option Addr) (len' cap' : Nat) (g0 : decide (8192 < (len : Int)) = false) (g1 : decide (8192 < (len' : Int)) = false) (h0 : Sh.siz alg = 0) (hT : Sh.Tabs w) :
    Calls Tryz.prog 3 #[.int .u8 i, .int .i64 alg, .slice a len cap, .slice a' len' cap'] w fun e w' => e = .returned (.bool true) ∧ Below w.heap.size w w' := by
  have HL : Hid (∀ W, Below w.heap.size w W → Calls Tryz.prog 7 #[] W fun e w' => e = .returned (.bool true) ∧ Below W.heap.size W w') := fun W h => live8_any (hT.below h)
  have HZ : Hid (∀ W : World, Calls Tryz.prog 6 #[.int .i64 alg] W fun e w' => e = .returned (.int .i64 (Sh.siz alg : Nat)) ∧ W = w') := fun W => RSize8 alg
  rw [h0] at HZ
  go_enter Tryz.func3, Tryz.ntmps3
  go_wp2_with fail
  refine (HZ.out _).mono ?_
  rintro e w1 ⟨rfl, rfl⟩
  go_wp2_with fail
  refine (HL.out _ (Below.refl _ _)).mono ?_
  rintro e w7 ⟨rfl, hb7⟩
  have H7 : Hid (Below w.heap.size w w7) := below_via (Below.refl _ _) hb7 (Nat.le_refl _)
  clear hb7
  go_wp2
  go_ret
  exact ⟨rfl, H7.out⟩
set_option maxHeartbeats 8000000 in
theorem RsaSigned_main {w : World} (i : Int) (alg : Int) (a : Option Addr) (len cap : Nat) (a' : Option Addr) (len' cap' : Nat) (i0 : 0 ≤ i) (i1 : i < 256) (g0 : decide (8192 < (len : Int)) = false) (g1 : decide (8192 < (len' : Int)) = false) (h0 : 0 < Sh.siz alg) (hT : Sh.Tabs w) (X Y : List Int) (hX : Sl .u8 w (.slice a len cap) X) (uX : U8s X) (lX : X.length = len) (hY : Sl .u8 w (.slice a' len' cap') Y) (uY : U8s Y) (lY : Y.length = len') (q0 : len ≤ 8192) (q1 : len' ≤ 8192) (j : Nat) (hj : j < 3) (hij : i % 3 = (j : Int)) :
    Calls Tryz.prog 3 #[.int .u8 i, .int .i64 alg, .slice a len cap, .slice a' len' cap'] w fun e w' => e = .returned (.bool true) ∧ Below w.heap.size w w' := by
  have HL : Hid (∀ W, Below w.heap.size w W → Calls Tryz.prog 7 #[] W fun e w' => e = .returned (.bool true) ∧ Below W.heap.size W w') := fun W h => live8_any (hT.below h)
  have HZ : Hid (∀ W : World, Calls Tryz.prog 6 #[.int .i64 alg] W fun e w' => e = .returned (.int .i64 (Sh.siz alg : Nat)) ∧ W = w') := fun W => RSize8 alg
  obtain ⟨nn, ex, dd, sz, K⟩ := keyG j hj
  have s1 := K.s1
  have lens := K.len
  have hA : Sh.Alg alg := (siz_pos (alg := alg)).1 h0
  have HK : Hid (∀ W, Calls Tryz.prog 8 #[.int .i64 (j : Nat)] W fun e w' => KnAns j W e w') := fun W => Known_any j hj
  have HD : Hid (∀ (W : World) (f : Option Addr) (k g : Nat) (Z : List Int), Sl .u8 W (.slice f k g) Z → U8s Z → Z.length ≤ 8192 → Calls Tryz.prog 9 #[.int .i64 alg, .slice f k g] W fun e w' => ∃ a c, e = .returned (.slice a (Sh.siz alg) c) ∧ Sl .u8 w' (.slice a (Sh.siz alg) c) (Sh.dig alg Z) ∧ Below W.heap.size W w') := fun W f k g Z h1 h2 h3 => (Sh.Digest_ok alg hA W _ Z h1 h2 (by omega)).mono fun e w' ⟨r, h4, h5, h6⟩ => by
    obtain ⟨a, c, hr, _⟩ := h5.len
    rw [Sh.dig_len] at hr
    subst hr
    exact ⟨a, c, h4, h5, h6⟩
  have dU : ∀ Z, U8s (Sh.dig alg Z) := fun Z x hx => by unfold Sh.dig at hx; exact Sh.out_u8 _ _ x hx
  have dI : ∀ Z, isD alg (Sh.dig alg Z).length = true := fun Z => by unfold isD; rw [Sh.dig_len]; simp [h0]
  have HV : Hid (∀ (W : World) (ka ea : Option Addr) (kc ec : Nat) (f : Option Addr) (g : Nat) (b : Option Addr) (m d : Nat) (Z sg : List Int), Sl .u32 W (.slice ka (kN j).length kc) (kN j) → Sl .u32 W (.slice ea (kE j).length ec) (kE j) → Sl .u8 W (.slice f (Sh.siz alg) g) Z → U8s Z → Z.length = Sh.siz alg → Sl .u8 W (.slice b m d) sg → U8s sg → sg.length = m → Calls Tryz.prog 12 #[.agg #[.slice ka (kN j).length kc, .slice ea (kE j).length ec], .int .i64 alg, .slice f (Sh.siz alg) g, .slice b m d] W fun e w' => e = .returned (.int .i64 (verS alg Z (kN j) (kE j) sg)) ∧ Below W.heap.size W w') := fun W ka ea kc ec f g b m d Z sg h1 h2 h3 h4 h5 h6 h7 h8 => Verify_any ka ea _ kc _ ec (kN j) (kE j) h1 K.un rfl h2 K.ue rfl (by omega) (by omega) b m d sg h6 h7 h8 alg f _ g Z h3 h4 h5
  have HS : Hid (∀ (W : World) (f : Option Addr) (g : Nat) (Z : List Int), Sl .u8 W (.slice f (Sh.siz alg) g) Z → U8s Z → Z.length = Sh.siz alg → Calls Tryz.prog 10 #[.int .i64 (j : Nat), .int .i64 alg, .slice f (Sh.siz alg) g] W fun e' w' => ∃ a n c, e' = .returned (.slice a n c) ∧ Sl .u8 w' (.slice a n c) (sigS nn dd sz alg Z) ∧ Below W.heap.size W w') := fun W f g Z h1 h2 h3 => Sign_any j hj K alg f _ g Z h1 h2 h3
  have HC : Hid (∀ (W : World) (v u : Value), Sl .u8 W v (Sh.dig alg X) → Sl .u8 W u (Sh.dig alg Y) → Calls Tryz.prog 13 #[v, u] W fun e w' => e = .returned (.bool (decide (Sh.dig alg X = Sh.dig alg Y))) ∧ Below W.heap.size W w') := fun W v u h1 h2 => Same8_any v u _ _ h1 h2 (by rw [Sh.dig_len]; have := Sh.siz_le alg; omega) (by rw [Sh.dig_len]; have := Sh.siz_le alg; omega) _ rfl
  have HDX : Hid (∀ W, Below w.heap.size w W → Calls Tryz.prog 9 #[.int .i64 alg, .slice a len cap] W fun e w' => ∃ a c, e = .returned (.slice a (Sh.siz alg) c) ∧ Sl .u8 w' (.slice a (Sh.siz alg) c) (Sh.dig alg X) ∧ Below W.heap.size W w') := fun W h => HD.out W _ _ _ X (below_sl h hX) uX (by omega)
  have HDY : Hid (∀ W, Below w.heap.size w W → Calls Tryz.prog 9 #[.int .i64 alg, .slice a' len' cap'] W fun e w' => ∃ a c, e = .returned (.slice a (Sh.siz alg) c) ∧ Sl .u8 w' (.slice a (Sh.siz alg) c) (Sh.dig alg Y) ∧ Below W.heap.size W w') := fun W h => HD.out W _ _ _ Y (below_sl h hY) uY (by omega)
  have dX := dU X
  have dY := dU Y
  have hl2 : (Sh.dig alg X).length = (Sh.dig alg Y).length := by rw [Sh.dig_len, Sh.dig_len]
  have HP : Hid (padE alg (Sh.dig alg X) sz = 0 → verS alg (Sh.dig alg X) (kN j) (kE j) (sgS nn dd sz (padV alg (Sh.dig alg X) sz)) = 0 ∧ verS alg (Sh.dig alg Y) (kN j) (kE j) (sgS nn dd sz (padV alg (Sh.dig alg X) sz)) = if Sh.dig alg X = Sh.dig alg Y then 0 else 112) := fun hp => ⟨by rw [ver_sig K dX (dI X) rfl hp, if_pos rfl], ver_sig K dX (dI X) hl2 hp⟩
  have HQ : Hid (U8s (Sh.dig alg X) ∧ U8s (Sh.dig alg Y) ∧ (Sh.dig alg X).length = Sh.siz alg ∧ (Sh.dig alg Y).length = Sh.siz alg ∧ 2 ≤ sz) := ⟨dX, dY, Sh.dig_len .., Sh.dig_len .., s1.1⟩
  have hz : ((Sh.siz alg : Int) == 0) = false := by simp; omega
  have hz2 : (Sh.siz alg == 0) = false := by simp; omega
  have hz3 : decide (Sh.siz alg = 0) = false := by simp; omega
  unfold sigS at HS
  obtain ⟨l1, e1⟩ : ∃ l, (kN j).length = l := ⟨_, rfl⟩
  obtain ⟨l2, e2⟩ : ∃ l, (kE j).length = l := ⟨_, rfl⟩
  obtain ⟨l3, e3⟩ : ∃ l, (kD j).length = l := ⟨_, rfl⟩
  unfold KnAns at HK
  rw [e1, e2, e3] at HK
  rw [e1, e2] at HV
  clear HD hX uX lX hY uY lY q0 q1 K s1 lens hA dU dI dX dY hl2 e1 e2 e3 hT
  generalize Sh.siz alg = sl at *
  generalize Sh.dig alg X = DX at *
  generalize Sh.dig alg Y = DY at *
  go_enter Tryz.func3, Tryz.ntmps3
  go_wp2_with fail
  refine (HZ.out _).mono ?_
  rintro e w1 ⟨rfl, rfl⟩
  go_wp2_with fail
  refine (HK.out _).mono ?_
  rintro e W1 ⟨ka, kc, ea, ec, da, dc, rfl, q1, q2, q3, hb⟩
  have M1 : Hid (Sl .u32 W1 (.slice ka l1 kc) (kN j) ∧ Sl .u32 W1 (.slice ea l2 ec) (kE j) ∧ Below w.heap.size w W1) := ⟨q1, q2, hb⟩
  clear q1 q2 q3 hb HK
  go_upto_region 4 with (fail)
  refine wp_gen (fun W => Below W1.heap.size W1 W ∧ Blk 27 W W1.heap.size [.slice ka l1 kc, .slice ea l2 ec]) ⟨al1 _, Blk.new _ _ _⟩ ?_
  rintro W2 ⟨hb, hB⟩
  obtain ⟨fb, hf⟩ : ∃ x, W1.heap.size = x := ⟨_, rfl⟩
  have M2 : Hid (Sl .u32 W2 (.slice ka l1 kc) (kN j) ∧ Sl .u32 W2 (.slice ea l2 ec) (kE j) ∧ Below w.heap.size w W2 ∧ Blk 27 W2 fb [.slice ka l1 kc, .slice ea l2 ec]) := ⟨below_sl hb M1.out.1, below_sl hb M1.out.2.1, below_via M1.out.2.2 hb (Nat.le_refl _), hf ▸ hB⟩
  rw [hf]
  clear hb hB hf M1
  go_wp2_with fail
  refine (HDX.out _ M2.out.2.2.1).mono ?_
  rintro e W3 ⟨xa, xc, rfl, hx, hb⟩
  have M3 : Hid (Sl .u32 W3 (.slice ka l1 kc) (kN j) ∧ Sl .u32 W3 (.slice ea l2 ec) (kE j) ∧ Below w.heap.size w W3 ∧ Blk 27 W3 fb [.slice ka l1 kc, .slice ea l2 ec] ∧ Sl .u8 W3 (.slice xa sl xc) DX) := ⟨below_sl hb M2.out.1, below_sl hb M2.out.2.1, below_via M2.out.2.2.1 hb (Nat.le_refl _), below_blk hb M2.out.2.2.2.lt M2.out.2.2.2, hx⟩
  clear hb hx M2
  go_wp2_with fail
  refine (HDY.out _ M3.out.2.2.1).mono ?_
  rintro e W4 ⟨ya, yc, rfl, hy, hb⟩
  have M4 : Hid (Sl .u32 W4 (.slice ka l1 kc) (kN j) ∧ Sl .u32 W4 (.slice ea l2 ec) (kE j) ∧ Below w.heap.size w W4 ∧ Blk 27 W4 fb [.slice ka l1 kc, .slice ea l2 ec] ∧ Sl .u8 W4 (.slice xa sl xc) DX ∧ Sl .u8 W4 (.slice ya sl yc) DY) := ⟨below_sl hb M3.out.1, below_sl hb M3.out.2.1, below_via M3.out.2.2.1 hb (Nat.le_refl _), below_blk hb M3.out.2.2.2.1.lt M3.out.2.2.2.1, below_sl hb M3.out.2.2.2.2, hy⟩
  clear hb hy M3
  go_wp2_with fail
  refine (HS.out _ _ _ DX M4.out.2.2.2.2.1 HQ.out.1 HQ.out.2.2.1).mono ?_
  rintro e W5 ⟨ga, gn, gc, rfl, hg, hb⟩
  have M5 : Hid (Sl .u32 W5 (.slice ka l1 kc) (kN j) ∧ Sl .u32 W5 (.slice ea l2 ec) (kE j) ∧ Below w.heap.size w W5 ∧ Blk 27 W5 fb [.slice ka l1 kc, .slice ea l2 ec] ∧ Sl .u8 W5 (.slice xa sl xc) DX ∧ Sl .u8 W5 (.slice ya sl yc) DY ∧ Sl .u8 W5 (.slice ga gn gc) (sigS nn dd sz alg DX)) := ⟨below_sl hb M4.out.1, below_sl hb M4.out.2.1, below_via M4.out.2.2.1 hb (Nat.le_refl _), below_blk hb M4.out.2.2.2.1.lt M4.out.2.2.2.1, below_sl hb M4.out.2.2.2.2.1, below_sl hb M4.out.2.2.2.2.2, hg⟩
  have gl : (sigS nn dd sz alg DX).length = gn := by
    obtain ⟨_, _, h1, _⟩ := hg.len
    simp only [Value.slice.injEq] at h1
    exact h1.2.1.symm
  clear hb hg M4
  by_cases hp : padE alg DX sz = 0
  · have es : sigS nn dd sz alg DX = sgS nn dd sz (padV alg DX sz) := if_pos hp
    have v12 := HP.out hp
    rw [es] at M5 gl
    rw [sgS_len] at gl
    subst gl
    have n0 : ((sz : Int) == 0) = false := by have := HQ.out.2.2.2.2; simp; omega
    have n1 : (sz == 0) = false := by have := HQ.out.2.2.2.2; simp; omega
    have n2 : decide (sz = 0) = false := by have := HQ.out.2.2.2.2; simp; omega
    have HV1 : Hid (∀ W, Below W5.heap.size W5 W → Calls Tryz.prog 12 #[.agg #[.slice ka l1 kc, .slice ea l2 ec], .int .i64 alg, .slice xa sl xc, .slice ga sz gc] W fun e w' => e = .returned (.int .i64 0) ∧ Below W.heap.size W w') := fun W h => (HV.out W ka ea kc ec xa xc ga sz gc DX (sgS nn dd sz (padV alg DX sz)) (below_sl h M5.out.1) (below_sl h M5.out.2.1) (below_sl h M5.out.2.2.2.2.1) HQ.out.1 HQ.out.2.2.1 (below_sl h M5.out.2.2.2.2.2.2) (beb_u8 _ _) (sgS_len ..)).mono fun e w' h' => by rw [v12.1] at h'; exact h'
    have HV2 : Hid (∀ W, Below W5.heap.size W5 W → Calls Tryz.prog 12 #[.agg #[.slice ka l1 kc, .slice ea l2 ec], .int .i64 alg, .slice ya sl yc, .slice ga sz gc] W fun e w' => e = .returned (.int .i64 (if DX = DY then 0 else 112)) ∧ Below W.heap.size W w') := fun W h => (HV.out W ka ea kc ec ya yc ga sz gc DY (sgS nn dd sz (padV alg DX sz)) (below_sl h M5.out.1) (below_sl h M5.out.2.1) (below_sl h M5.out.2.2.2.2.2.1) HQ.out.2.1 HQ.out.2.2.2.1 (below_sl h M5.out.2.2.2.2.2.2) (beb_u8 _ _) (sgS_len ..)).mono fun e w' h' => by rw [v12.2] at h'; exact h'
    clear es v12 HP HV HS hp
    have p0 : W5.cell? ⟨fb, 0, none⟩ = some (.slice ka l1 kc) := M5.out.2.2.2.1.cell 0
    have p1 : W5.cell? ⟨fb, 1, none⟩ = some (.slice ea l2 ec) := M5.out.2.2.2.1.cell 1
    go_wp2_with fail
    refine (HV1.out _ (Below.refl _ _)).mono ?_
    rintro e W6 ⟨rfl, hb6⟩
    have H6 : Hid (Below W5.heap.size W5 W6) := hb6
    clear hb6 p0 p1
    have p0 : W6.cell? ⟨fb, 0, none⟩ = some (.slice ka l1 kc) := (below_blk H6.out M5.out.2.2.2.1.lt M5.out.2.2.2.1).cell 0
    have p1 : W6.cell? ⟨fb, 1, none⟩ = some (.slice ea l2 ec) := (below_blk H6.out M5.out.2.2.2.1.lt M5.out.2.2.2.1).cell 1
    go_wp2_with (go_at_call 11; refine (num8_any _ _).mono ?_; rintro e w6 ⟨rfl, rfl⟩)
    refine (HV2.out _ H6.out).mono ?_
    rintro e W7 ⟨rfl, hb7⟩
    have H7 : Hid (Below W5.heap.size W5 W7) := below_via H6.out hb7 (Nat.le_refl _)
    clear hb7 p0 p1
    by_cases hd : DX = DY
    · rw [if_pos hd]
      have hd' : decide (DX = DY) = true := decide_eq_true hd
      rw [hd'] at HC
      go_wp2_with (go_at_call 11; refine (num8_any _ _).mono ?_; rintro e w6 ⟨rfl, rfl⟩)
      refine (HC.out _ _ _ (below_sl H7.out M5.out.2.2.2.2.1) (below_sl H7.out M5.out.2.2.2.2.2.1)).mono ?_
      rintro e W8 ⟨rfl, hb8⟩
      have H8 : Hid (Below w.heap.size w W8) := below_via M5.out.2.2.1 (below_via H7.out hb8 (Nat.le_refl _)) (Nat.le_refl _)
      clear hb8
      go_wp2_with fail
      refine (HL.out _ H8.out).mono ?_
      rintro e w7 ⟨rfl, hb7⟩
      have H7 : Hid (Below w.heap.size w w7) := below_via H8.out hb7 (Nat.le_refl _)
      clear hb7
      go_wp2
      go_ret
      exact ⟨rfl, H7.out⟩
    · rw [if_neg hd]
      have hd' : decide (DX = DY) = false := decide_eq_false hd
      rw [hd'] at HC
      go_wp2_with (go_at_call 11; refine (num8_any _ _).mono ?_; rintro e w6 ⟨rfl, rfl⟩)
      refine (HC.out _ _ _ (below_sl H7.out M5.out.2.2.2.2.1) (below_sl H7.out M5.out.2.2.2.2.2.1)).mono ?_
      rintro e W8 ⟨rfl, hb8⟩
      have H8 : Hid (Below w.heap.size w W8) := below_via M5.out.2.2.1 (below_via H7.out hb8 (Nat.le_refl _)) (Nat.le_refl _)
      clear hb8
      go_wp2_with fail
      refine (HL.out _ H8.out).mono ?_
      rintro e w7 ⟨rfl, hb7⟩
      have H7 : Hid (Below w.heap.size w w7) := below_via H8.out hb7 (Nat.le_refl _)
      clear hb7
      go_wp2
      go_ret
      exact ⟨rfl, H7.out⟩
  · have es : sigS nn dd sz alg DX = [] := if_neg hp
    rw [es] at gl
    obtain rfl : 0 = gn := gl
    clear es hp HP
    go_wp2_with fail
    refine (HL.out _ M5.out.2.2.1).mono ?_
    rintro e w7 ⟨rfl, hb7⟩
    have H7 : Hid (Below w.heap.size w w7) := below_via M5.out.2.2.1 hb7 (Nat.le_refl _)
    clear hb7
    go_wp2
    go_ret
    exact ⟨rfl, H7.out⟩
theorem RsaSigned_any {w : World} (i : Int) (alg : Int) (a : Option Addr) (len cap : Nat) (a' : Option Addr) (len' cap' : Nat) (i0 : 0 ≤ i) (i1 : i < 256) (hT : Sh.Tabs w) (X Y : List Int) (hX : Sl .u8 w (.slice a len cap) X) (uX : U8s X) (lX : X.length = len) (hY : Sl .u8 w (.slice a' len' cap') Y) (uY : U8s Y) (lY : Y.length = len') :
    Calls Tryz.prog 3 #[.int .u8 i, .int .i64 alg, .slice a len cap, .slice a' len' cap'] w fun e w' => e = .returned (.bool true) ∧ Below w.heap.size w w' := by
  by_cases h0 : len ≤ 8192
  · have g0 : decide ((8192 : Int) < (len : Int)) = false := by simp; omega
    by_cases h1 : len' ≤ 8192
    · have g1 : decide ((8192 : Int) < (len' : Int)) = false := by simp; omega
      by_cases h2 : 0 < Sh.siz alg
      · exact RsaSigned_main i alg a len cap a' len' cap' i0 i1 g0 g1 h2 hT X Y hX uX lX hY uY lY h0 h1 (i % 3).toNat (by omega) (by omega)
      · exact RsaSigned_l2 i alg a len cap a' len' cap' g0 g1 (by omega) hT
    · exact RsaSigned_l1 i alg a len cap a' len' cap' g0 (by simp; omega) hT
  · exact RsaSigned_l0 i alg a len cap a' len' cap' (by simp; omega) hT
end Go.Proofs.YtmfdhfdcokkclaaGreatDoor
