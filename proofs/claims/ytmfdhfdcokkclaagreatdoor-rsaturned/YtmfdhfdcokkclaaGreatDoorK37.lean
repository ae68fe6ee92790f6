/-
  Digest: the reference's Digest.
-/
import Derived.Test.YtmfdhfdcokkclaaGreatDoorRows
import Derived.Lib.LaidTab
import Derived.LaidSub
import Derived.MakeChecks
import Derived.OpenShut
import Derived.ProofKit
import Derived.Test.YtmfdhfdcokkclaaGreatDoorK36


namespace Go.Proofs.YtmfdhfdcokkclaaGreatDoor.Sh
open Go.RowKit
set_option maxRecDepth 20000
theorem out_cut (s : St) : (out 4 s).take 48 = out 3 s := by
  unfold out
  rw [← List.map_take, List.take_range]
  refine List.map_congr_left fun i _ => ?_
  unfold outB
  rw [show blk 3 = 128 from rfl, show blk 4 = 128 from rfl]
theorem full_len {B : Nat} (n : Nat) (h : B = 64 ∨ B = 128) : ∃ K, n + fillLen n B = B * K ∧ B * K ≤ n + 400 ∧ (n + fillLen n B) / B = K := by
  have h0 : 0 < B := by omega
  have e : n + fillLen n B = B * ((n + B / 8) / B + 1) := by
    unfold fillLen
    have := Nat.mod_lt (n + B / 8) h0
    have h2 := Nat.div_add_mod (n + B / 8) B
    rw [Nat.mul_succ]; omega
  refine ⟨(n + B / 8) / B + 1, e, ?_, by rw [e, Nat.mul_div_cancel_left _ h0]⟩
  have h2 := Nat.div_add_mod (n + B / 8) B
  rw [Nat.mul_succ]; rcases h with rfl | rfl <;> omega
theorem row_rd {B : Nat} {w : World} {v : Value} {Y : List Int} (n : Nat) (h : Row .u8 5 B w v Y) (hn : Y.length = n) (h0 : 0 < n) : ∃ b c, v = .slice (some ⟨b, 0, none⟩) n c ∧ n ≤ c ∧ b < w.heap.size ∧ Rd .u8 w b 0 Y := by
  obtain ⟨b, S, rfl, _, hA, hl, ht, _⟩ := h.open n hn h0
  refine ⟨b, _, rfl, hl, hA.lt, ?_⟩
  have := hA.rd 0 n (by omega)
  rw [List.drop_zero, ht] at this; exact this
theorem full_u8 {X : List Int} (h : U8s X) (B : Nat) : U8s (X ++ fill X.length B) := h.append (fill_u8 _ _)
theorem full_n {X : List Int} {B : Nat} (h : B = 64 ∨ B = 128) : (X ++ fill X.length B).length = X.length + fillLen X.length B := by rw [List.length_append, fill_len h]
theorem fillLen_pos {n B : Nat} (h : B = 64 ∨ B = 128) : 0 < fillLen n B := by
  unfold fillLen
  have := Nat.mod_lt (n + B / 8) (show 0 < B by omega)
  omega
set_option maxHeartbeats 1000000 in
theorem RDigest_1 {w : World} (v : Value) (X : List Int) (hX : Sl .u8 w v X) (uX : U8s X) (hl : X.length ≤ 65536) :
    Calls Tryz.prog 9 #[.int .i64 1, v] w fun e w' => ∃ r, e = .returned r ∧ Sl .u8 w' r (dig 1 X) ∧ Below w.heap.size w w' := by
  obtain ⟨K, hK, hKl, hKd⟩ := full_len (B := 64) X.length (.inl rfl)
  have hn := full_n (X := X) (B := 64) (.inl rfl)
  have hp := fillLen_pos (n := X.length) (B := 64) (.inl rfl)
  obtain ⟨Y, hY⟩ : ∃ Y, X ++ fill X.length 64 = Y := ⟨_, rfl⟩
  obtain ⟨N, hN⟩ : ∃ N, 64 * K = N := ⟨_, rfl⟩
  obtain ⟨D, hD⟩ : ∃ D, dig 1 X = D := ⟨_, rfl⟩
  have hD2 : D = out 1 (run 1 Y K) := by rw [← hD, ← hY]; unfold dig; rw [show blk 1 = 64 from rfl, hKd]
  have uY : U8s Y := by rw [← hY]; exact full_u8 uX _
  rw [hY] at hn
  have HF : Hid (∀ r w1, Row .u8 5 w.heap.size w1 r Y → ∃ b c, r = .slice (some ⟨b, 0, none⟩) N c ∧ Calls Tryz.prog 20 #[.slice (some ⟨b, 0, none⟩) N c] w1 fun e w' => ∃ r, e = .returned r ∧ Row .u8 5 w1.heap.size w' r D ∧ Below w1.heap.size w1 w') := fun r w1 h => by
    obtain ⟨b, c, e, h1, h2, h3⟩ := row_rd N h (by omega) (by omega)
    rw [hD2]
    exact ⟨b, c, e, sha1_any b 0 _ c _ K h2 h3 uY (by omega) hN.symm (by omega) h1⟩
  have HX : Hid (Sl .u8 w v X ∧ X.length ≤ 65536 ∧ X ++ fill X.length 64 = Y) := ⟨hX, hl, hY⟩
  rw [hD]
  obtain ⟨a, n, cp, rfl⟩ : ∃ a n c, v = .slice a n c := by obtain ⟨a, c, h, h', _⟩ := hX; exact ⟨a, _, c, h⟩
  clear hK hKl hKd hn hp hX uX hl hD hD2 hY hN uY
  go_enter Tryz.func9, Tryz.ntmps9
  go_wp2_with fail
  refine (filled_64 _ X HX.out.1 (by have := HX.out.2.1; omega)).mono ?_
  rintro e w1 ⟨r1, rfl, hr1, hb1⟩
  rw [HX.out.2.2] at hr1
  obtain ⟨b1, c1, rfl, hc⟩ := HF.out _ _ hr1
  have HB : Hid (Below w.heap.size w w1) := hb1
  have HCl : Hid (Calls Tryz.prog 20 #[.slice (some ⟨b1, 0, none⟩) N c1] w1 fun e w' => ∃ r, e = .returned r ∧ Row .u8 5 w1.heap.size w' r D ∧ Below w1.heap.size w1 w') := hc
  clear hr1 hb1 hc
  go_wp2_with fail
  refine HCl.out.mono ?_
  rintro e w2 ⟨r2, rfl, hr2, hb2⟩
  have H2 : Hid (Row .u8 5 w1.heap.size w2 r2 D ∧ Below w1.heap.size w1 w2) := ⟨hr2, hb2⟩
  clear hr2 hb2
  go_wp2
  go_ret
  exact ⟨_, rfl, H2.out.1.sl, below_via HB.out H2.out.2 (Nat.le_refl _)⟩
set_option maxHeartbeats 1000000 in
theorem RDigest_2 {w : World} (v : Value) (X : List Int) (hX : Sl .u8 w v X) (uX : U8s X) (hl : X.length ≤ 65536) :
    Calls Tryz.prog 9 #[.int .i64 2, v] w fun e w' => ∃ r, e = .returned r ∧ Sl .u8 w' r (dig 2 X) ∧ Below w.heap.size w w' := by
  obtain ⟨K, hK, hKl, hKd⟩ := full_len (B := 64) X.length (.inl rfl)
  have hn := full_n (X := X) (B := 64) (.inl rfl)
  have hp := fillLen_pos (n := X.length) (B := 64) (.inl rfl)
  obtain ⟨Y, hY⟩ : ∃ Y, X ++ fill X.length 64 = Y := ⟨_, rfl⟩
  obtain ⟨N, hN⟩ : ∃ N, 64 * K = N := ⟨_, rfl⟩
  obtain ⟨D, hD⟩ : ∃ D, dig 2 X = D := ⟨_, rfl⟩
  have hD2 : D = out 2 (run 2 Y K) := by rw [← hD, ← hY]; unfold dig; rw [show blk 2 = 64 from rfl, hKd]
  have uY : U8s Y := by rw [← hY]; exact full_u8 uX _
  rw [hY] at hn
  have HF : Hid (∀ r w1, Row .u8 5 w.heap.size w1 r Y → ∃ b c, r = .slice (some ⟨b, 0, none⟩) N c ∧ Calls Tryz.prog 22 #[.slice (some ⟨b, 0, none⟩) N c] w1 fun e w' => ∃ r, e = .returned r ∧ Row .u8 5 w1.heap.size w' r D ∧ Below w1.heap.size w1 w') := fun r w1 h => by
    obtain ⟨b, c, e, h1, h2, h3⟩ := row_rd N h (by omega) (by omega)
    rw [hD2]
    exact ⟨b, c, e, sha256_any b 0 _ c _ K h2 h3 uY (by omega) hN.symm (by omega) h1⟩
  have HX : Hid (Sl .u8 w v X ∧ X.length ≤ 65536 ∧ X ++ fill X.length 64 = Y) := ⟨hX, hl, hY⟩
  rw [hD]
  obtain ⟨a, n, cp, rfl⟩ : ∃ a n c, v = .slice a n c := by obtain ⟨a, c, h, h', _⟩ := hX; exact ⟨a, _, c, h⟩
  clear hK hKl hKd hn hp hX uX hl hD hD2 hY hN uY
  go_enter Tryz.func9, Tryz.ntmps9
  go_wp2_with fail
  refine (filled_64 _ X HX.out.1 (by have := HX.out.2.1; omega)).mono ?_
  rintro e w1 ⟨r1, rfl, hr1, hb1⟩
  rw [HX.out.2.2] at hr1
  obtain ⟨b1, c1, rfl, hc⟩ := HF.out _ _ hr1
  have HB : Hid (Below w.heap.size w w1) := hb1
  have HCl : Hid (Calls Tryz.prog 22 #[.slice (some ⟨b1, 0, none⟩) N c1] w1 fun e w' => ∃ r, e = .returned r ∧ Row .u8 5 w1.heap.size w' r D ∧ Below w1.heap.size w1 w') := hc
  clear hr1 hb1 hc
  go_wp2_with fail
  refine HCl.out.mono ?_
  rintro e w2 ⟨r2, rfl, hr2, hb2⟩
  have H2 : Hid (Row .u8 5 w1.heap.size w2 r2 D ∧ Below w1.heap.size w1 w2) := ⟨hr2, hb2⟩
  clear hr2 hb2
  go_wp2
  go_ret
  exact ⟨_, rfl, H2.out.1.sl, below_via HB.out H2.out.2 (Nat.le_refl _)⟩
theorem sl_cut {w : World} {b c : Nat} {D E : List Int} (hb : b < w.heap.size) (hc : 48 ≤ c) (hr : Rd .u8 w b 0 D) (he : D.take 48 = E) (hl : D.length = 64) : Sl .u8 w (.slice (some ⟨b, 0, none⟩) 48 c) E := by
  have hle : E.length = 48 := by rw [← he, List.length_take]; omega
  refine ⟨_, _, by rw [hle], by omega, .inr ⟨b, 0, rfl, hb, ?_⟩⟩
  rw [← he]; exact hr.take 48
set_option maxRecDepth 4000 in
set_option maxHeartbeats 1000000 in
theorem RDigest_3 {w : World} (v : Value) (X : List Int) (hX : Sl .u8 w v X) (uX : U8s X) (hl : X.length ≤ 65536) :
    Calls Tryz.prog 9 #[.int .i64 3, v] w fun e w' => ∃ r, e = .returned r ∧ Sl .u8 w' r (dig 3 X) ∧ Below w.heap.size w w' := by
  obtain ⟨K, hK, hKl, hKd⟩ := full_len (B := 128) X.length (.inr rfl)
  have hn := full_n (X := X) (B := 128) (.inr rfl)
  have hp := fillLen_pos (n := X.length) (B := 128) (.inr rfl)
  obtain ⟨Y, hY⟩ : ∃ Y, X ++ fill X.length 128 = Y := ⟨_, rfl⟩
  obtain ⟨N, hN⟩ : ∃ N, 128 * K = N := ⟨_, rfl⟩
  obtain ⟨E, hE⟩ : ∃ E, dig 3 X = E := ⟨_, rfl⟩
  obtain ⟨D, hD⟩ : ∃ D, out 4 (run 3 Y K) = D := ⟨_, rfl⟩
  have HD : Hid (D.take 48 = E ∧ D.length = 64) := by
    refine ⟨?_, by rw [← hD]; exact out_len 4 _⟩
    rw [← hE, ← hD, ← hY]; rw [out_cut]; unfold dig; rw [show blk 3 = 128 from rfl, hKd]
  have uY : U8s Y := by rw [← hY]; exact full_u8 uX _
  rw [hY] at hn
  have HF : Hid (∀ r w1, Row .u8 5 w.heap.size w1 r Y → ∃ b c, r = .slice (some ⟨b, 0, none⟩) N c ∧ Calls Tryz.prog 23 #[.slice (some ⟨b, 0, none⟩) N c, .agg #[.int .u64 14680500436340154072, .int .u64 7105036623409894663, .int .u64 10473403895298186519, .int .u64 1526699215303891257, .int .u64 7436329637833083697, .int .u64 10282925794625328401, .int .u64 15784041429090275239, .int .u64 5167115440072839076]] w1 fun e w' => ∃ r, e = .returned r ∧ Row .u8 5 w1.heap.size w' r D ∧ Below w1.heap.size w1 w') := fun r w1 h => by
    obtain ⟨b, c, e, h1, h2, h3⟩ := row_rd N h (by omega) (by omega)
    rw [← hD]
    exact ⟨b, c, e, sha512_any 3 (.inl rfl) b 0 _ c _ K ⟨14680500436340154072, 7105036623409894663, 10473403895298186519, 1526699215303891257, 7436329637833083697, 10282925794625328401, 15784041429090275239, 5167115440072839076⟩ rfl h2 h3 uY (by omega) hN.symm (by omega) h1⟩
  have HX : Hid (Sl .u8 w v X ∧ X.length ≤ 65536 ∧ X ++ fill X.length 128 = Y) := ⟨hX, hl, hY⟩
  rw [hE]
  obtain ⟨a, n, cp, rfl⟩ : ∃ a n c, v = .slice a n c := by obtain ⟨a, c, h, h', _⟩ := hX; exact ⟨a, _, c, h⟩
  clear hK hKl hKd hn hp hX uX hl hD hE hY hN uY
  go_enter Tryz.func9, Tryz.ntmps9
  go_wp2_with fail
  refine (filled_128 _ X HX.out.1 (by have := HX.out.2.1; omega)).mono ?_
  rintro e w1 ⟨r1, rfl, hr1, hb1⟩
  rw [HX.out.2.2] at hr1
  obtain ⟨b1, c1, rfl, hc⟩ := HF.out _ _ hr1
  have HB : Hid (Below w.heap.size w w1) := hb1
  have HCl : Hid (Calls Tryz.prog 23 #[.slice (some ⟨b1, 0, none⟩) N c1, .agg #[.int .u64 14680500436340154072, .int .u64 7105036623409894663, .int .u64 10473403895298186519, .int .u64 1526699215303891257, .int .u64 7436329637833083697, .int .u64 10282925794625328401, .int .u64 15784041429090275239, .int .u64 5167115440072839076]] w1 fun e w' => ∃ r, e = .returned r ∧ Row .u8 5 w1.heap.size w' r D ∧ Below w1.heap.size w1 w') := hc
  clear hr1 hb1 hc
  go_wp2_with fail
  refine HCl.out.mono ?_
  rintro e w2 ⟨r2, rfl, hr2, hb2⟩
  have H2 : Hid (Row .u8 5 w1.heap.size w2 r2 D ∧ Below w1.heap.size w1 w2) := ⟨hr2, hb2⟩
  clear hr2 hb2
  obtain ⟨b2, c2, rfl, hc2, hl2, hrd⟩ := row_rd 64 H2.out.1 HD.out.2 (by omega)
  have HR : Hid (b2 < w2.heap.size ∧ Rd .u8 w2 b2 0 D) := ⟨hl2, hrd⟩
  clear hl2 hrd
  go_wp2
  go_ret
  exact ⟨_, rfl, sl_cut HR.out.1 (by omega) HR.out.2 HD.out.1 HD.out.2, below_via HB.out H2.out.2 (Nat.le_refl _)⟩
set_option maxRecDepth 4000 in
set_option maxHeartbeats 1000000 in
theorem RDigest_4 {w : World} (v : Value) (X : List Int) (hX : Sl .u8 w v X) (uX : U8s X) (hl : X.length ≤ 65536) :
    Calls Tryz.prog 9 #[.int .i64 4, v] w fun e w' => ∃ r, e = .returned r ∧ Sl .u8 w' r (dig 4 X) ∧ Below w.heap.size w w' := by
  obtain ⟨K, hK, hKl, hKd⟩ := full_len (B := 128) X.length (.inr rfl)
  have hn := full_n (X := X) (B := 128) (.inr rfl)
  have hp := fillLen_pos (n := X.length) (B := 128) (.inr rfl)
  obtain ⟨Y, hY⟩ : ∃ Y, X ++ fill X.length 128 = Y := ⟨_, rfl⟩
  obtain ⟨N, hN⟩ : ∃ N, 128 * K = N := ⟨_, rfl⟩
  obtain ⟨E, hE⟩ : ∃ E, dig 4 X = E := ⟨_, rfl⟩
  obtain ⟨D, hD⟩ : ∃ D, out 4 (run 4 Y K) = D := ⟨_, rfl⟩
  have HD : Hid (D = E ∧ D.length = 64) := by
    refine ⟨?_, by rw [← hD]; exact out_len 4 _⟩
    rw [← hE, ← hD, ← hY]; unfold dig; rw [show blk 4 = 128 from rfl, hKd]
  have uY : U8s Y := by rw [← hY]; exact full_u8 uX _
  rw [hY] at hn
  have HF : Hid (∀ r w1, Row .u8 5 w.heap.size w1 r Y → ∃ b c, r = .slice (some ⟨b, 0, none⟩) N c ∧ Calls Tryz.prog 23 #[.slice (some ⟨b, 0, none⟩) N c, .agg #[.int .u64 7640891576956012808, .int .u64 13503953896175478587, .int .u64 4354685564936845355, .int .u64 11912009170470909681, .int .u64 5840696475078001361, .int .u64 11170449401992604703, .int .u64 2270897969802886507, .int .u64 6620516959819538809]] w1 fun e w' => ∃ r, e = .returned r ∧ Row .u8 5 w1.heap.size w' r D ∧ Below w1.heap.size w1 w') := fun r w1 h => by
    obtain ⟨b, c, e, h1, h2, h3⟩ := row_rd N h (by omega) (by omega)
    rw [← hD]
    exact ⟨b, c, e, sha512_any 4 (.inr rfl) b 0 _ c _ K ⟨7640891576956012808, 13503953896175478587, 4354685564936845355, 11912009170470909681, 5840696475078001361, 11170449401992604703, 2270897969802886507, 6620516959819538809⟩ rfl h2 h3 uY (by omega) hN.symm (by omega) h1⟩
  have HX : Hid (Sl .u8 w v X ∧ X.length ≤ 65536 ∧ X ++ fill X.length 128 = Y) := ⟨hX, hl, hY⟩
  rw [hE]
  obtain ⟨a, n, cp, rfl⟩ : ∃ a n c, v = .slice a n c := by obtain ⟨a, c, h, h', _⟩ := hX; exact ⟨a, _, c, h⟩
  clear hK hKl hKd hn hp hX uX hl hD hE hY hN uY
  go_enter Tryz.func9, Tryz.ntmps9
  go_wp2_with fail
  refine (filled_128 _ X HX.out.1 (by have := HX.out.2.1; omega)).mono ?_
  rintro e w1 ⟨r1, rfl, hr1, hb1⟩
  rw [HX.out.2.2] at hr1
  obtain ⟨b1, c1, rfl, hc⟩ := HF.out _ _ hr1
  have HB : Hid (Below w.heap.size w w1) := hb1
  have HCl : Hid (Calls Tryz.prog 23 #[.slice (some ⟨b1, 0, none⟩) N c1, .agg #[.int .u64 7640891576956012808, .int .u64 13503953896175478587, .int .u64 4354685564936845355, .int .u64 11912009170470909681, .int .u64 5840696475078001361, .int .u64 11170449401992604703, .int .u64 2270897969802886507, .int .u64 6620516959819538809]] w1 fun e w' => ∃ r, e = .returned r ∧ Row .u8 5 w1.heap.size w' r D ∧ Below w1.heap.size w1 w') := hc
  clear hr1 hb1 hc
  go_wp2_with fail
  refine HCl.out.mono ?_
  rintro e w2 ⟨r2, rfl, hr2, hb2⟩
  have H2 : Hid (Row .u8 5 w1.heap.size w2 r2 D ∧ Below w1.heap.size w1 w2) := ⟨hr2, hb2⟩
  clear hr2 hb2
  go_wp2
  go_ret
  exact ⟨_, rfl, by rw [← HD.out.1]; exact H2.out.1.sl, below_via HB.out H2.out.2 (Nat.le_refl _)⟩
theorem Digest_ok : DigestC := fun alg ha w v X h1 h2 h3 => by
  rcases ha with rfl | rfl | rfl | rfl
  · exact RDigest_1 v X h1 h2 h3
  · exact RDigest_2 v X h1 h2 h3
  · exact RDigest_3 v X h1 h2 h3
  · exact RDigest_4 v X h1 h2 h3
end Go.Proofs.YtmfdhfdcokkclaaGreatDoor.Sh
/-
  Rsa: what the tied list of tables gives; a world for the witness; how an argument reads.
-/
namespace Go.Proofs.YtmfdhfdcokkclaaGreatDoor
open Go.ChangeShapes Go.WideShapes Go.ChangeAt Go.RowKit
/-! ### how an argument reads -/
def IsRow (k : IntKind) (w : World) (a : Option Addr) (len cap : Nat) (zs : List Int) : Prop :=
  (a = none ∧ len = 0 ∧ cap = 0 ∧ zs = []) ∨
  ∃ x, a = some x ∧ len ≤ cap ∧ cap ≤ maxLen ∧ zs.length = cap ∧ (∀ i, i < zs.length → w.cell? (x.add i) = some (.int k (zs.getD i 0))) ∧ ∀ n ∈ zs, (Lit.int k n).wf = true
theorem cell_spot {w : World} {x : Addr} {v : Value} (h : w.cell? x = some v) : x.spot = none ∧ x.block < w.heap.size := by
  unfold World.cell? at h
  split at h
  · rename_i c t f hh
    refine ⟨?_, (Array.getElem?_eq_some_iff.1 hh).1⟩
    by_cases hs : x.spot.isSome
    · simp [hs] at h
    · simpa using hs
  · cases h
theorem IsRow.sl {k : IntKind} {w : World} {a : Option Addr} {len cap : Nat} {zs : List Int} (h : IsRow k w a len cap zs) :
    ∃ X, X.length = len ∧ Sl k w (.slice a len cap) X ∧ ∀ n ∈ X, (Lit.int k n).wf = true := by
  rcases h with ⟨rfl, rfl, rfl, rfl⟩ | ⟨x, rfl, hl, hm, hz, hc, hw⟩
  · exact ⟨[], rfl, ⟨none, 0, rfl, Nat.le_refl _, .inl rfl⟩, by simp⟩
  · refine ⟨zs.take len, by simp; omega, ⟨some x, cap, by simp; omega, by simp; omega, ?_⟩, fun n hn => hw n (List.mem_of_mem_take hn)⟩
    by_cases h0 : len = 0
    · subst h0; exact .inl (by simp)
    · right
      obtain ⟨b, off, sp⟩ := x
      have h1 := cell_spot (hc 0 (by omega))
      have hsp : sp = none := by
        have := h1.1
        cases sp with
        | none => rfl
        | some s => simp [Addr.add] at this
      subst hsp
      have hb : b < w.heap.size := by have := h1.2; simpa [Addr.add] using this
      refine ⟨b, off, rfl, hb, fun i hi => ?_⟩
      simp at hi
      have := hc i (by omega)
      have hadd : (⟨b, off, none⟩ : Addr).add i = ⟨b, off + i, none⟩ := by simp [Addr.add]
      rw [hadd] at this
      rw [this]
      simp [show i < len by omega]
theorem IsRow.sl8 {w : World} {a : Option Addr} {len cap : Nat} {zs : List Int} (h : IsRow .u8 w a len cap zs) : ∃ X, X.length = len ∧ Sl .u8 w (.slice a len cap) X ∧ U8s X := by
  obtain ⟨X, h1, h2, h3⟩ := h.sl
  exact ⟨X, h1, h2, fun n hn => by have := bounds_u8 (h3 n hn); exact ⟨this.1, by omega⟩⟩
theorem Tryz.g_first1 : Tryz.prog.globalNamed "chirograph/sha.first1" = some 0 := by kernel_rfl
theorem Tryz.gt_first1 : (Tryz.prog.globals[0]?).map (·.type) = some 75 := by kernel_rfl
theorem Tryz.gc_first1 : Tryz.prog.cellsOf 75 = 8 := by kernel_rfl
theorem Tryz.lf_first1 : Rows.rsaSignedRow.laid.filter (fun x => x.1 == "chirograph/sha.first1") = [("chirograph/sha.first1", Lib.tabData .u32 Sh.first1L)] := by kernel_rfl
theorem Tryz.g_first256 : Tryz.prog.globalNamed "chirograph/sha.first256" = some 1 := by kernel_rfl
theorem Tryz.gt_first256 : (Tryz.prog.globals[1]?).map (·.type) = some 75 := by kernel_rfl
theorem Tryz.gc_first256 : Tryz.prog.cellsOf 75 = 8 := by kernel_rfl
theorem Tryz.lf_first256 : Rows.rsaSignedRow.laid.filter (fun x => x.1 == "chirograph/sha.first256") = [("chirograph/sha.first256", Lib.tabData .u32 Sh.first256L)] := by kernel_rfl
theorem Tryz.g_first384 : Tryz.prog.globalNamed "chirograph/sha.first384" = some 2 := by kernel_rfl
theorem Tryz.gt_first384 : (Tryz.prog.globals[2]?).map (·.type) = some 52 := by kernel_rfl
theorem Tryz.gc_first384 : Tryz.prog.cellsOf 52 = 8 := by kernel_rfl
theorem Tryz.lf_first384 : Rows.rsaSignedRow.laid.filter (fun x => x.1 == "chirograph/sha.first384") = [("chirograph/sha.first384", Lib.tabData .u64 Sh.first384L)] := by kernel_rfl
theorem Tryz.g_first512 : Tryz.prog.globalNamed "chirograph/sha.first512" = some 3 := by kernel_rfl
theorem Tryz.gt_first512 : (Tryz.prog.globals[3]?).map (·.type) = some 52 := by kernel_rfl
theorem Tryz.gc_first512 : Tryz.prog.cellsOf 52 = 8 := by kernel_rfl
theorem Tryz.lf_first512 : Rows.rsaSignedRow.laid.filter (fun x => x.1 == "chirograph/sha.first512") = [("chirograph/sha.first512", Lib.tabData .u64 Sh.first512L)] := by kernel_rfl
theorem Tryz.g_adds1 : Tryz.prog.globalNamed "chirograph/sha.adds1" = some 5 := by kernel_rfl
theorem Tryz.gt_adds1 : (Tryz.prog.globals[5]?).map (·.type) = some 159 := by kernel_rfl
theorem Tryz.gc_adds1 : Tryz.prog.cellsOf 159 = 4 := by kernel_rfl
theorem Tryz.lf_adds1 : Rows.rsaSignedRow.laid.filter (fun x => x.1 == "chirograph/sha.adds1") = [("chirograph/sha.adds1", Lib.tabData .u32 Sh.adds1L)] := by kernel_rfl
theorem Tryz.g_adds256 : Tryz.prog.globalNamed "chirograph/sha.adds256" = some 6 := by kernel_rfl
theorem Tryz.gt_adds256 : (Tryz.prog.globals[6]?).map (·.type) = some 73 := by kernel_rfl
theorem Tryz.gc_adds256 : Tryz.prog.cellsOf 73 = 64 := by kernel_rfl
theorem Tryz.lf_adds256 : Rows.rsaSignedRow.laid.filter (fun x => x.1 == "chirograph/sha.adds256") = [("chirograph/sha.adds256", Lib.tabData .u32 Sh.adds256L)] := by kernel_rfl
theorem Tryz.g_adds512 : Tryz.prog.globalNamed "chirograph/sha.adds512" = some 7 := by kernel_rfl
theorem Tryz.gt_adds512 : (Tryz.prog.globals[7]?).map (·.type) = some 76 := by kernel_rfl
theorem Tryz.gc_adds512 : Tryz.prog.cellsOf 76 = 80 := by kernel_rfl
theorem Tryz.lf_adds512 : Rows.rsaSignedRow.laid.filter (fun x => x.1 == "chirograph/sha.adds512") = [("chirograph/sha.adds512", Lib.tabData .u64 Sh.adds512L)] := by kernel_rfl
theorem Tryz.c32 : Tryz.prog.cellsOf 46 = 1 := by kernel_rfl
theorem Tryz.c64 : Tryz.prog.cellsOf 51 = 1 := by kernel_rfl
theorem Tryz.u32 : Tryz.prog.underlying 46 = some (.int .u32) := by kernel_rfl
theorem Tryz.u64 : Tryz.prog.underlying 51 = some (.int .u64) := by kernel_rfl
theorem rd_tab {W : World} {name : String} {k : IntKind} {zs : List Int} {g : Nat} (h : Lib.TabIs Tryz.prog W name k zs) (hg : Tryz.prog.globalNamed name = some g) : Rd k W g 0 zs := fun i hi => by
  rw [Nat.zero_add]; exact h.cell hg i hi
theorem laid_one {W : World} {n : String} {d : DataW Unit} (hd : d.handleName?.isNone = true) (h : laidMetH Tryz.prog [(n, d)] W) : laidMet Tryz.prog [(n, d)] W := by
  have e : ([(n, d)] : List (String × DataW Unit)).filter (fun x => x.2.handleName?.isSome) = [] := by
    have h0 : d.handleName?.isSome = false := by cases hx : d.handleName? <;> simp_all
    simp [h0]
  unfold laidMetH at h
  rw [e] at h
  exact h
theorem tabs_of_laid {W : World} (h : laidMetH Tryz.prog Rows.rsaSignedRow.laid W) : Sh.Tabs W := by
  have h_f1 : Rd .u32 W 0 0 Sh.first1L := by
    have h1 := laidMetH.filter (fun x => x.1 == "chirograph/sha.first1") h
    rw [Tryz.lf_first1] at h1
    exact rd_tab (Lib.tabIs_of_head (rest := []) Tryz.g_first1 Tryz.gt_first1 Tryz.underlying75 Tryz.u32 Tryz.c32 Tryz.gc_first1 (laid_one rfl h1)) Tryz.g_first1
  have h_f256 : Rd .u32 W 1 0 Sh.first256L := by
    have h1 := laidMetH.filter (fun x => x.1 == "chirograph/sha.first256") h
    rw [Tryz.lf_first256] at h1
    exact rd_tab (Lib.tabIs_of_head (rest := []) Tryz.g_first256 Tryz.gt_first256 Tryz.underlying75 Tryz.u32 Tryz.c32 Tryz.gc_first256 (laid_one rfl h1)) Tryz.g_first256
  have h_f384 : Rd .u64 W 2 0 Sh.first384L := by
    have h1 := laidMetH.filter (fun x => x.1 == "chirograph/sha.first384") h
    rw [Tryz.lf_first384] at h1
    exact rd_tab (Lib.tabIs_of_head (rest := []) Tryz.g_first384 Tryz.gt_first384 Tryz.underlying52 Tryz.u64 Tryz.c64 Tryz.gc_first384 (laid_one rfl h1)) Tryz.g_first384
  have h_f512 : Rd .u64 W 3 0 Sh.first512L := by
    have h1 := laidMetH.filter (fun x => x.1 == "chirograph/sha.first512") h
    rw [Tryz.lf_first512] at h1
    exact rd_tab (Lib.tabIs_of_head (rest := []) Tryz.g_first512 Tryz.gt_first512 Tryz.underlying52 Tryz.u64 Tryz.c64 Tryz.gc_first512 (laid_one rfl h1)) Tryz.g_first512
  have h_a1 : Rd .u32 W 5 0 Sh.adds1L := by
    have h1 := laidMetH.filter (fun x => x.1 == "chirograph/sha.adds1") h
    rw [Tryz.lf_adds1] at h1
    exact rd_tab (Lib.tabIs_of_head (rest := []) Tryz.g_adds1 Tryz.gt_adds1 Tryz.underlying159 Tryz.u32 Tryz.c32 Tryz.gc_adds1 (laid_one rfl h1)) Tryz.g_adds1
  have h_a256 : Rd .u32 W 6 0 Sh.adds256L := by
    have h1 := laidMetH.filter (fun x => x.1 == "chirograph/sha.adds256") h
    rw [Tryz.lf_adds256] at h1
    exact rd_tab (Lib.tabIs_of_head (rest := []) Tryz.g_adds256 Tryz.gt_adds256 Tryz.underlying73 Tryz.u32 Tryz.c32 Tryz.gc_adds256 (laid_one rfl h1)) Tryz.g_adds256
  have h_a512 : Rd .u64 W 7 0 Sh.adds512L := by
    have h1 := laidMetH.filter (fun x => x.1 == "chirograph/sha.adds512") h
    rw [Tryz.lf_adds512] at h1
    exact rd_tab (Lib.tabIs_of_head (rest := []) Tryz.g_adds512 Tryz.gt_adds512 Tryz.underlying76 Tryz.u64 Tryz.c64 Tryz.gc_adds512 (laid_one rfl h1)) Tryz.g_adds512
  refine ⟨?_, h_f1, h_f256, h_f384, h_f512, h_a1, h_a256, h_a512⟩
  have := (cell_spot (h_a512 0 (by decide))).2
  simp at this
  omega
/-- A world for the witness: the settled one, the tables holding what their initialisers lay. -/
def laidWorld (W : World) : World :=
  { W with heap := (((((((W.heap.modify 0 fun | .cells _ t frozen => .cells (Sh.first1L.map (Value.int .u32)).toArray t frozen | o => o).modify 1 fun | .cells _ t frozen => .cells (Sh.first256L.map (Value.int .u32)).toArray t frozen | o => o).modify 2 fun | .cells _ t frozen => .cells (Sh.first384L.map (Value.int .u64)).toArray t frozen | o => o).modify 3 fun | .cells _ t frozen => .cells (Sh.first512L.map (Value.int .u64)).toArray t frozen | o => o).modify 5 fun | .cells _ t frozen => .cells (Sh.adds1L.map (Value.int .u32)).toArray t frozen | o => o).modify 6 fun | .cells _ t frozen => .cells (Sh.adds256L.map (Value.int .u32)).toArray t frozen | o => o).modify 7 fun | .cells _ t frozen => .cells (Sh.adds512L.map (Value.int .u64)).toArray t frozen | o => o) }
end Go.Proofs.YtmfdhfdcokkclaaGreatDoor
/-
  The reference's Bytes where the number fits: in memory of its own. (wip/mkw46.py)
-/
namespace Go.Proofs.YtmfdhfdcokkclaaGreatDoor.Nt
open Go.RowKit
set_option maxHeartbeats 2000000 in
theorem RBytes_new (X : List Int) (m : Nat) (v : Value) (w : World) (hX : Sl .u32 w v X) (uX : U32s X) (hl : X.length ≤ 512) (hm : m ≤ 2048) (hb : bitLen (val X).toNat ≤ 8 * m) :
    Calls Tryz.prog 57 #[v, .int .i64 (m : Nat)] w fun e w' => (∃ b, e = .returned (.tuple #[.slice (some ⟨b, 0, none⟩) m m, .int .i64 0]) ∧ w.heap.size ≤ b ∧ Arr .u8 5 w' b (beb (val X) m)) ∧ Below w.heap.size w w' := by
  obtain ⟨a, c, hv, _⟩ := hX.len
  subst hv
  have hBt : Below w.heap.size w w := Below.refl _ _
  have h1 : ¬ 512 < X.length := by omega
  obtain ⟨N, hN⟩ : ∃ N, val X = N := ⟨_, rfl⟩
  have nN : 0 ≤ N := hN ▸ val_nonneg uX
  have HN : Hid (val X = N) := hN
  have hls : X.length ≤ 512 := by omega
  obtain ⟨bl, hbl⟩ : ∃ bl, bitLen N.toNat = bl := ⟨_, rfl⟩
  have HBL : Hid (bitLen N.toNat = bl) := hbl
  have hbl2 : bl ≤ 16384 := by
    have := bitLen_val uX
    rw [hN, hbl] at this; omega
  have bX := val_lt uX
  rw [hN] at bX
  have dN : (D.lim N.toNat).length ≤ 1024 := by
    have := D.lim_fits (k := 2 * X.length) nN (by rw [pow16_32]; exact bX)
    omega
  have h4 : ¬ 8 * m < bl := by rw [hN, hbl] at hb; omega
  clear hb
  clear hN hbl bX
  go_enter Tryz.func57, Tryz.ntmps57
  go_wp2_with (first
    | (go_at_call 62; refine (Digits_any _ X hX uX (by omega) N HN.out).mono ?_; rintro e w' ⟨d, rfl, hd, hB⟩; replace hX := below_sl hB hX; replace hBt := grow0 hBt hB)
    | (go_at_call 30; refine (RBits_any _ X hX uX (by omega) N HN.out).mono ?_; rintro e w3 ⟨rfl, hB⟩; rw [HBL.out]; replace hd := below_sl hB hd; replace hBt := grow0 hBt hB)
    | (at_make; refine wpList_mk _ rfl _ _ 22 rfl .u8 5 1 Tryz.und8 Tryz.info8 _ m rfl rfl rfl (by omega) (by omega) ?_; intro w4 hA4 hB4))
  obtain ⟨b4, hb4⟩ : ∃ b4, w3.heap.size = b4 := ⟨_, rfl⟩
  rw [hb4] at hA4
  rw [hb4]
  have HB3 : Hid (Below w.heap.size w w3 ∧ w3.heap.size = b4) := ⟨hBt, hb4⟩
  clear hBt
  go_loopw [8] (fun iv wr => ∃ (i : Nat) (S : List Int), iv = .int .i64 i ∧ i ≤ m ∧ Arr .u8 5 wr b4 S ∧ S.length = m ∧ (∀ j, j < i → S.getD (m - 1 - j) 0 = N / 256 ^ j % 256) ∧ Below w3.heap.size w3 wr) (fun iv _ => m - (intOf iv).toNat)
  case atStart => exact ⟨0, _, rfl, Nat.zero_le _, hA4, by simp, fun j hj => by omega, hB4⟩
  case round =>
    clear hA4 hB4
    obtain ⟨i, S, rfl, hi, hS, lS, hg, hBr⟩ := hrel
    by_cases hlt : i < m
    · obtain ⟨q, hq⟩ : ∃ q, i / 2 = q := ⟨_, rfl⟩
      obtain ⟨p, hp⟩ : ∃ p, m - 1 - i = p := ⟨_, rfl⟩
      obtain ⟨y, hy⟩ : ∃ y, (D.lim N.toNat).getD q 0 = y := ⟨_, rfl⟩
      have uy : D.U16 y := hy ▸ (D.lim_u16 _).at q
      obtain ⟨uy1, uy2⟩ := uy
      have hyv : N / 65536 ^ q % 65536 = y := by rw [← hy, ← digit_of (D.lim_u16 _) q, D.val_limI nN]
      have hqi : (i : Int) / 2 = q := by omega
      have hpi : (m : Int) - 1 - i = p := by omega
      have hd1 := digit_nat _ (D.lim N.toNat) (below_sl hBr hd) (by omega) q (by omega) y hy
      obtain ⟨s, hs⟩ : ∃ s, S.getD p 0 = s := ⟨_, rfl⟩
      have hcs := hS.cell p (by omega)
      rw [hs] at hcs
      have hfs := hS.frozen p
      have HH : Hid (Arr .u8 5 wr b4 S ∧ S.length = m ∧ (∀ j, j < i → S.getD (m - 1 - j) 0 = N / 256 ^ j % 256) ∧ Below w3.heap.size w3 wr ∧ m - 1 - i = p) := ⟨hS, lS, hg, hBr, hp⟩
      have hpm : p < m := by omega
      have done : ∀ x : Int, x = N / 256 ^ i % 256 → ∀ j, j < i + 1 → (S.set p x).getD (m - 1 - j) 0 = N / 256 ^ j % 256 := fun x hx j hj => by
        by_cases hji : j = i
        · subst hji
          rw [hp, List.getD_eq_getElem?_getD, List.getElem?_set_self (by omega)]; simpa using hx
        · rw [List.getD_eq_getElem?_getD, List.getElem?_set_ne (by omega), ← List.getD_eq_getElem?_getD]; exact hg j (by omega)
      have HDn : Hid (∀ x : Int, x = N / 256 ^ i % 256 → ∀ j, j < i + 1 → (S.set p x).getD (m - 1 - j) 0 = N / 256 ^ j % 256) := done
      rcases Nat.mod_two_eq_zero_or_one i with he | ho
      · have hri : (i : Int) % 2 = 0 := by omega
        have HV : Hid (y % 256 = N / 256 ^ i % 256) := by rw [← hyv]; exact byte_even N i q (by omega)
        clear hS lS hg hBr hp hy hyv hs done hq he
        go_wp2_with (go_at_call 87; refine hd1.mono ?_; rintro e w' ⟨rfl, rfl⟩)
        go_roundw
        case rel =>
          obtain ⟨hS, lS, hg, hBr, hp⟩ := HH.out
          exact ⟨i + 1, S.set p (y % 256), by go_num, by omega, hS.set _ _, by simpa using lS, HDn.out _ HV.out, hBr.setCell (show w3.heap.size ≤ b4 by have := HB3.out.2; omega) _⟩
        case measure => simp [intOf]; omega
      · have hri : (i : Int) % 2 = 1 := by omega
        have HV : Hid (y / 256 = N / 256 ^ i % 256) := by
          have h7 := byte_odd N i q (by omega)
          rw [hyv] at h7
          show y / 256 = N / 256 ^ i % 256
          rw [← h7]; omega
        clear hS lS hg hBr hp hy hyv hs done hq ho
        go_wp2_with (go_at_call 87; refine hd1.mono ?_; rintro e w' ⟨rfl, rfl⟩)
        go_roundw
        case rel =>
          obtain ⟨hS, lS, hg, hBr, hp⟩ := HH.out
          exact ⟨i + 1, S.set p (y / 256), by go_num, by omega, hS.set _ _, by simpa using lS, HDn.out _ HV.out, hBr.setCell (show w3.heap.size ≤ b4 by have := HB3.out.2; omega) _⟩
        case measure => simp [intOf]; omega
    · have him : i = m := by omega
      have hS' : S = beb N m := getD_ext (by rw [beb_len]; exact lS) (fun k hk => by
        rw [beb_get N m k (by omega)]
        have := hg (m - 1 - k) (by omega)
        rw [show m - 1 - (m - 1 - k) = k by omega] at this; exact this)
      have HS : Hid (Arr .u8 5 wr b4 (beb N m)) := by rw [← hS']; exact hS
      clear hS hg hS' lS him
      go_wp2
      go_ret2
      exact ⟨⟨b4, rfl, by have := HB3.out; have := this.1.size; omega, by rw [HN.out]; exact HS.out⟩, HB3.out.1.trans (hBr.mono HB3.out.1.size)⟩
end Go.Proofs.YtmfdhfdcokkclaaGreatDoor.Nt
