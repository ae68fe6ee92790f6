/-
  The walk of divideLong.
-/
import Derived.Test.YthkheocggcmooaaW22
namespace Go.Proofs.Ythkheocggcmooaa
open Go.RowKit

theorem long_end {x y p q A : Int} (hy : 0 < y) (hp : 0 < p) (h : x * p = (y * p) * q + A) (h0 : 0 ≤ A) (h1 : A < y * p) : x / y = q ∧ x % y = A / p := by
  have hR : A = (x - y * q) * p := by grind
  have e : A / p = x - y * q := by rw [hR]; exact Int.mul_ediv_cancel _ (by omega)
  rw [hR] at h0 h1
  have r0 : 0 ≤ x - y * q := by
    apply Classical.byContradiction; intro h2
    have : (x - y * q) * p ≤ (-1) * p := Int.mul_le_mul_of_nonneg_right (by omega) (by omega)
    omega
  have r1 : x - y * q < y := Int.lt_of_mul_lt_mul_right h1 (by omega)
  rw [e]
  exact step_low (t := q) hy (by rw [Int.mul_comm]) r0 r1

set_option maxHeartbeats 8000000 in
theorem long_ok : LongOK := by
  intro X Y v u w hX hY uX uY sX sY l2 hle lX
  obtain ⟨m, lY⟩ : ∃ m, Y.length = m + 2 := ⟨Y.length - 2, by omega⟩
  have hlXY : m + 2 ≤ X.length := by have := sig_le_of_val uX uY hle; omega
  obtain ⟨aX, cX, rfl, hcX⟩ := hX.len
  obtain ⟨aY, cY, rfl, hcY, hYr⟩ := id hY
  rcases hYr with hYr | ⟨bY, oY, rfl, hbY, hrY⟩
  · rw [hYr] at lY; simp at lY
  obtain ⟨y, hy⟩ : ∃ y, Y.getD (m + 1) 0 = y := ⟨_, rfl⟩
  have uy : U32 y := hy ▸ uY.at _
  have hy0 : y ≠ 0 := by
    have := sig_last (xs := Y) (by omega)
    rw [sY, lY] at this; rw [← hy]; exact this
  have hcy : w.cell? ⟨bY, oY + (m + 1), none⟩ = some (.int .u32 y) := by rw [← hy]; exact hrY _ (by omega)
  have hVy : 0 < val Y := by have := sig_pos uY (by omega); have h2 := val_nonneg uY; apply Classical.byContradiction; intro h; have := sig0_of_val uY (by omega); omega
  obtain ⟨n, hn⟩ : ∃ n, X.length = n := ⟨_, rfl⟩
  obtain ⟨K, hK⟩ : ∃ K, n = K + (m + 1) := ⟨n - (m + 1), by omega⟩
  have hlead := Lead_any y uy hy0 w
  have hup1 := fun (s : Nat) (hs : s < 32) => shiftUp_any X s hs _ w hX uX (by omega)
  have hup2 : ∀ (w1 : World) (s : Nat), s < 32 → Below w.heap.size w w1 → 2147483648 ≤ y * 2 ^ s → y * 2 ^ s < 4294967296 →
      Calls Try.prog 75 #[.slice (some ⟨bY, oY, none⟩) Y.length cY, .int .i64 s] w1 fun e w' => ∃ S2, e = .returned (.slice (some ⟨w1.heap.size, 0, none⟩) (m + 3) (m + 3)) ∧ Below w1.heap.size w1 w' ∧
        (Calls Try.prog 45 #[.slice (some ⟨w1.heap.size, 0, none⟩) (m + 3) (m + 3)] w' fun e w'' => e = .returned (.slice (some ⟨w1.heap.size, 0, none⟩) (m + 2) (m + 3)) ∧ w'' = w') ∧
        Hid (Arr .u32 53 w' w1.heap.size S2 ∧ U32s S2 ∧ S2.length = m + 3 ∧ val S2 = val Y * 2 ^ s ∧ sig S2 = m + 2 ∧ 2147483648 ≤ (trim S2).getD (m + 1) 0) := by
    intro w1 s hs hB h1 h2
    refine (shiftUp_any Y s hs _ w1 (below_sl hB hY) uY (by omega)).mono ?_
    rintro e w' ⟨S2, rfl, hA2, uS2, lS2, vS2, hB2⟩
    rw [lY] at lS2 ⊢
    obtain ⟨hd1, hd2⟩ := norm_div uY lY uS2 lS2 vS2 (p2 s hs).1 (by rw [hy]; exact h1) (by rw [hy]; exact h2)
    have hcut := cut_any S2 (some ⟨w1.heap.size, 0, none⟩) S2.length w' hA2.sl (by omega)
    rw [hd1, lS2] at hcut
    exact ⟨S2, rfl, hB2, hcut, show _ ∧ _ from ⟨hA2, uS2, lS2, vS2, hd1, hd2⟩⟩
  rw [hn] at hX hup1 hcX lX hlXY ⊢
  rw [lY] at hY hup2 hcY ⊢
  have HX : Hid (X.length = n ∧ n = K + (m + 1) ∧ Y.getD (m + 1) 0 = y ∧ Y.length = m + 2) := ⟨hn, hK, hy, lY⟩
  have hK1 : 1 ≤ K := by omega
  have hnK : n - (m + 2) + 1 = K := by omega
  have hmK : (n : Int) - (m + 2) + 1 = K := by omega
  have hnle : n ≤ 1073741824 := lX
  clear hn hy hrY hy0 uy hK hnK sX sY hle l2 lX lY
  go_enter Try.func69, Try.ntmps69
  go_wp2_with (first
    | (go_at_call 74; refine hlead.mono ?_; rintro e w' ⟨s, rfl, hs, hs1, hs2, rfl⟩; have HS : Hid (2147483648 ≤ y * 2 ^ s ∧ y * 2 ^ s < 4294967296) := ⟨hs1, hs2⟩; clear hs1 hs2 hlead)
    | (go_at_call 75; replace H1 := H1; refine (hup2 _ s hs hB1 HS.out.1 HS.out.2).mono ?_; rintro e w2 ⟨S2, rfl, hB2, hcut, H2⟩; clear hup2)
    | (go_at_call 75; refine (hup1 s hs).mono ?_; rintro e w1 ⟨S1, rfl, hA1, uS1, lS1, vS1, hB1⟩; have H1 : Hid (Arr .u32 53 w1 w.heap.size S1 ∧ U32s S1 ∧ S1.length = n + 1 ∧ val S1 = val X * 2 ^ s) := ⟨hA1, uS1, lS1, vS1⟩; clear hA1 uS1 lS1 vS1 hup1)
    | (go_at_call 45; refine hcut.mono ?_; rintro e w3 ⟨rfl, rfl⟩)
    | (at_make; refine wpList_mk _ rfl _ _ 22 rfl .u32 53 4 Try.und32 Try.info32 _ K rfl rfl (by omega) (by omega) (by omega) ?_; intro w4 hA4 hB4))
  obtain ⟨b1, hb1⟩ : ∃ b, w.heap.size = b := ⟨_, rfl⟩
  obtain ⟨b2, hb2⟩ : ∃ b, w1.heap.size = b := ⟨_, rfl⟩
  obtain ⟨b3, hb3⟩ : ∃ b, w3.heap.size = b := ⟨_, rfl⟩
  obtain ⟨hA1, uS1, lS1, vS1⟩ := H1.out
  obtain ⟨hA2, uS2, lS2, vS2, sS2, tS2⟩ := H2.out
  have hA1' := below_arr hB4 (Nat.lt_of_lt_of_le hA1.lt hB2.size) (below_arr hB2 hA1.lt hA1)
  have hA2' := below_arr hB4 hA2.lt hA2
  have hBt2 := hB1.trans (hB2.mono hB1.size)
  have hBt := hBt2.trans (hB4.mono hBt2.size)
  have o12 : b1 < b2 := by rw [← hb1, ← hb2]; exact hA1.lt
  have o23 : b2 < b3 := by rw [← hb2, ← hb3]; exact hA2.lt
  obtain ⟨hnX, hnK, _, _⟩ := HX.out
  obtain ⟨pp, hpp⟩ : ∃ pp : Int, 2 ^ s = pp := ⟨_, rfl⟩
  obtain ⟨p1, p3⟩ := p2 s hs
  have hvD : val (trim S2) = val Y * pp := by rw [trim_val, vS2, hpp]
  have lD : (trim S2).length = m + 2 := by rw [trim_len]; exact sS2
  have uD := trim_u32 uS2
  have hVlt := val_lt uD
  rw [lD] at hVlt
  rw [hpp] at p1 p3
  have hV0 : 0 < val (trim S2) := by rw [hvD]; exact Int.mul_pos hVy (by omega)
  have hLI : LI (val S1) (val (trim S2)) n m S1 (List.replicate K 0) K := by
    refine ⟨lS1, uS1, U32s.zeros _, by simp; omega, by rw [List.drop_of_length_le (by simp)]; simp [val], ?_⟩
    rw [vS1, hpp]
    have h1 := val_lt uX
    rw [hnX] at h1
    have h2 : val X * pp < 4294967296 ^ n * pp := Int.mul_lt_mul_of_pos_right h1 (by omega)
    have h3 := val_split (trim S2) (m + 1) (by omega)
    have h4 : (trim S2).drop (m + 1) = [(trim S2).getD (m + 1) 0] := by
      rw [List.drop_eq_getElem_cons (by omega), List.drop_of_length_le (by omega)]; simp [show m + 1 < (trim S2).length by omega]
    rw [h4] at h3
    simp only [val] at h3
    have h5 := val_nonneg (uD.take (m + 1))
    have h6 : 4294967296 ^ (m + 1) * 2147483648 ≤ 4294967296 ^ (m + 1) * ((trim S2).getD (m + 1) 0 + 4294967296 * 0) := Int.mul_le_mul_of_nonneg_left (by omega) (Int.le_of_lt (pow_pos32 _))
    have h7 : 4294967296 ^ (m + 1) * 2147483648 * 4294967296 ^ K ≤ val (trim S2) * 4294967296 ^ K := Int.mul_le_mul_of_nonneg_right (by omega) (Int.le_of_lt (pow_pos32 _))
    have h8 : (4294967296 : Int) ^ n * 2147483648 = 4294967296 ^ (m + 1) * 2147483648 * 4294967296 ^ K := by rw [hnK, Int.pow_add]; grind
    have h9 : 4294967296 ^ n * pp ≤ 4294967296 ^ n * 2147483648 := Int.mul_le_mul_of_nonneg_left p3 (Int.le_of_lt (pow_pos32 _))
    omega
  rw [hb3] at hA4
  rw [hb1] at hA1'
  rw [hb2] at hA2'
  have HC : Hid (val S1 = val X * pp ∧ val (trim S2) = val Y * pp ∧ (trim S2).length = m + 2 ∧ U32s (trim S2) ∧ val (trim S2) < 4294967296 ^ (m + 2) ∧ 0 < val (trim S2) ∧ 2147483648 ≤ (trim S2).getD (m + 1) 0 ∧ 1 ≤ pp ∧ n = K + (m + 1) ∧ (2 : Int) ^ s = pp ∧ S2.length = m + 3 ∧ sig S2 = m + 2 ∧ w.heap.size = b1) := ⟨by rw [vS1, hpp], hvD, lD, uD, hVlt, hV0, tS2, p1, hnK, hpp, lS2, sS2, hb1⟩
  rw [hb1, hb2, hb3]
  have HW : Hid (w.heap.size = b1) := hb1
  have HR : Hid (∃ A Q, Arr .u32 53 w4 b1 A ∧ Arr .u32 53 w4 b3 Q ∧ Arr .u32 53 w4 b2 S2 ∧ LI (val S1) (val (trim S2)) n m A Q (K - 0) ∧ Below w.heap.size w w4) := show ∃ _, _ from ⟨S1, _, hA1', hA4, hA2', by simpa using hLI, hBt⟩
  clear hb1 hb2 hb3 hA1 uS1 lS1 vS1 hA2 uS2 lS2 vS2 sS2 tS2 hA1' hA2' hBt hBt2 hnX hnK hpp p1 p3 hvD lD uD hVlt hV0 hLI H1 H2 hA4 hB1 hB2 hB4 HX
  go_loopw [34] (fun iv wr => ∃ k : Nat, iv = .int .i64 k ∧ k ≤ K ∧ Hid (∃ A Q, Arr .u32 53 wr b1 A ∧ Arr .u32 53 wr b3 Q ∧ Arr .u32 53 wr b2 S2 ∧ LI (val S1) (val (trim S2)) n m A Q (K - k) ∧ Below w.heap.size w wr)) (fun iv _ => K - (intOf iv).toNat)
  case atStart => exact ⟨0, rfl, Nat.zero_le _, HR.out⟩
  case round =>
    clear HR
    obtain ⟨k, rfl, hk, HR⟩ := hrel
    by_cases hlt : k < K
    · obtain ⟨i, hi⟩ : ∃ i, K - 1 - k = i := ⟨_, rfl⟩
      have hii : (K : Int) - 1 - k = i := by omega
      have hni : ¬ n + 1 = i := by have := HC.out.2.2.2.2.2.2.2.2.1; omega
      have hiK : i < K := by omega
      have hin : i + (m + 3) ≤ n + 1 := by have := HC.out.2.2.2.2.2.2.2.2.1; omega
      have hcall : Calls Try.prog 76 #[.slice (some ⟨b1, i, none⟩) (m + 3) (n + 1 - i), .slice (some ⟨b2, 0, none⟩) (m + 2) (m + 3)] wr fun e w' =>
          ∃ q z, e = .returned (.int .u32 q) ∧ w'.cell? ⟨b3, i, none⟩ = some (.int .u32 z) ∧ w'.frozen? ⟨b3, i, none⟩ = false ∧
            Hid (∃ A Q, Arr .u32 53 w' b1 A ∧ Arr .u32 53 w' b3 Q ∧ Arr .u32 53 w' b2 S2 ∧ LI (val S1) (val (trim S2)) n m A (Q.set i q) (K - (k + 1)) ∧ Below w.heap.size w w' ∧ i < Q.length) := by
        obtain ⟨c1, c2, c3, c4, c5, c6, c7, c8, c9, c10, c11, c12, c13⟩ := HC.out
        obtain ⟨A, Q, rA, rQ, rS, rL, rB⟩ := HR.out
        have hKi : K - k = i + 1 := by omega
        rw [hKi] at rL
        obtain ⟨lA, uA, uQ, lQ, _, _⟩ := id rL
        have hiQ : i < Q.length := by omega
        obtain ⟨s1, s2, s3⟩ := rL.seg hiQ c5
        have hRd : Rd .u32 wr b2 0 (trim S2) := by
          have := rS.rd 0 (m + 2) (by omega)
          rw [List.drop_zero] at this
          unfold trim; rw [c12]; exact this
        refine (divideStep_any A (trim S2) b1 i b2 0 (n + 1 - i) (m + 3) m wr rA uA hRd rS.lt (by omega) c4 c3 (by omega) (by omega) (by omega) (by omega) c7 s2).mono ?_
        rintro e w' ⟨Z, rfl, lZ, uZ, vZ, hA', hU'⟩
        have hQ' := hU'.arr rQ (by omega)
        refine ⟨_, _, rfl, hQ'.cell i hiQ, hQ'.frozen i, show ∃ _, _ from ⟨_, Q, hA', hQ', hU'.arr rS (by omega), ?_, hU'.below rB (by have := rA.lt; omega) (by omega), hiQ⟩⟩
        rw [show K - (k + 1) = i by omega]
        exact rL.step hiQ c6 c5 lZ uZ vZ
      have HI : Hid (K - 1 - k = i) := hi
      have hlen : i + (m + 2) + 1 - i = m + 3 := by omega
      clear hi HR
      go_wp2_with (go_at_call 76; refine hcall.mono ?_; rintro e w5 ⟨q, z, rfl, hc5, hf5, H5⟩)
      go_roundw
      case rel =>
        obtain ⟨A, Q, rA, rQ, rS, rL, rB, hiQ⟩ := H5.out
        have hb1 := HW.out
        exact ⟨k + 1, by go_num, by omega, show ∃ _, _ from ⟨A, Q.set i q, (Upd.set _ b3 i _).arr rA (by omega), rQ.set _ _, (Upd.set _ b3 i _).arr rS (by omega), rL, rB.setCell (p := ⟨b3, i, none⟩) (show w.heap.size ≤ b3 by omega) _⟩⟩
      case measure => simp [intOf]; omega
    · have hkK : k = K := by omega
      have hdn : ∃ A Q, Arr .u32 53 wr b1 A ∧ Arr .u32 53 wr b3 Q ∧ A.length = n + 1 ∧ Q.length = K ∧ U32s A ∧ U32s Q ∧ Below w.heap.size w wr ∧ val X / val Y = val Q ∧ val X % val Y = val A / 2 ^ s := by
        obtain ⟨c1, c2, c3, c4, c5, c6, c7, c8, c9, c10, c11, c12, c13⟩ := HC.out
        obtain ⟨A, Q, rA, rQ, rS, rL, rB⟩ := HR.out
        rw [hkK, Nat.sub_self] at rL
        obtain ⟨lA, uA, uQ, lQ, hT, hlt2⟩ := rL
        simp only [Int.pow_zero, Int.one_mul, Int.mul_one, List.drop_zero] at hT hlt2
        rw [c1, c2] at hT
        rw [c2] at hlt2
        obtain ⟨q1, q2⟩ := long_end hVy (by omega : 0 < pp) hT (val_nonneg uA) hlt2
        exact ⟨A, Q, rA, rQ, lA, by omega, uA, uQ, rB, q1, by rw [c10]; exact q2⟩
      obtain ⟨A, Q, rA, rQ, lA, lQ, uA, uQ, rB, q1, q2⟩ := hdn
      have hdown : Calls Try.prog 77 #[.slice (some ⟨b1, 0, none⟩) (n + 1) (n + 1), .int .i64 s] wr fun e w' => e = .returned (.tuple #[]) ∧ ∃ sq sr, (Calls Try.prog 45 #[.slice (some ⟨b3, 0, none⟩) K K] w' fun e w'' => e = .returned (.slice (some ⟨b3, 0, none⟩) sq K) ∧ w' = w'') ∧
          (Calls Try.prog 45 #[.slice (some ⟨b1, 0, none⟩) (n + 1) (n + 1)] w' fun e w'' => e = .returned (.slice (some ⟨b1, 0, none⟩) sr (n + 1)) ∧ w' = w'') ∧
          Hid (Own w.heap.size w' (.slice (some ⟨b3, 0, none⟩) sq K) (lim (val X / val Y).toNat) ∧ Own w.heap.size w' (.slice (some ⟨b1, 0, none⟩) sr (n + 1)) (lim (val X % val Y).toNat) ∧ Below w.heap.size w w') := by
        have h := shiftDown_any A s hs b1 (n + 1) wr rA uA (by omega)
        rw [lA] at h
        refine h.mono ?_
        rintro e w' ⟨S, rfl, rS, uS, lS, vS, hU⟩
        have hb1 := HW.out
        have rQ' := hU.arr rQ (by omega)
        have h1 := cut_any Q (some ⟨b3, 0, none⟩) Q.length w' rQ'.sl (by omega)
        have h2 := cut_any S (some ⟨b1, 0, none⟩) S.length w' rS.sl (by omega)
        have o1 := Own.cut (B := w.heap.size) rQ' uQ (by omega) (by omega)
        have o2 := Own.cut (B := w.heap.size) rS uS (by omega) (by omega)
        rw [lQ] at h1 o1
        rw [lS] at h2 o2
        rw [← q1] at o1
        rw [vS, ← q2] at o2
        exact ⟨rfl, sig Q, sig S, h1.mono fun e w'' h => ⟨h.1, h.2.symm⟩, h2.mono fun e w'' h => ⟨h.1, h.2.symm⟩, show _ ∧ _ from ⟨o1, o2, hU.below rB (by have := rA.lt; omega) (by omega)⟩⟩
      clear HR rA rQ lA lQ uA uQ rB q1 q2 hkK hk
      go_wp2_with (first
        | (go_at_call 77; refine hdown.mono ?_; rintro e w6 ⟨rfl, sq, sr, hcq, hcr, H6⟩)
        | (go_at_call 45; replace hcr2 := hcr2; refine hcr.mono ?_; rintro e w7 ⟨rfl, rfl⟩)
        | (go_at_call 45; refine hcq.mono ?_; rintro e w7 ⟨rfl, rfl⟩; have hcr2 : True := trivial))
      go_ret2
      obtain ⟨o1, o2, hB⟩ := H6.out
      exact ⟨⟨_, _, rfl, o1, o2⟩, hB⟩
end Go.Proofs.Ythkheocggcmooaa
