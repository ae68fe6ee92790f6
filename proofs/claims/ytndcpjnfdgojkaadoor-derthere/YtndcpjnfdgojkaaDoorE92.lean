/-
  Der: PutUint of any limbs.
-/
import Derived.Test.YtndcpjnfdgojkaaDoorE91
namespace Go.Proofs.YtndcpjnfdgojkaaDoor
open Go.RowKit
theorem rep_set (k : Nat) (x : Int) : (List.replicate (k + 1) (0 : Int)).set k x = List.replicate k 0 ++ [x] := by
  rw [List.replicate_succ', List.set_append_right _ _ (by simp)]; simp
theorem set_last (P : List Int) (m i : Nat) (hP : P.length = m) (hi : i < m) : (List.replicate (m - i) 0 ++ P.drop (m - i)).set (m - 1 - i) (P.getD (m - 1 - i) 0) = List.replicate (m - (i + 1)) 0 ++ P.drop (m - (i + 1)) := by
  obtain ⟨k, hk⟩ : ∃ k, m - 1 - i = k := ⟨_, rfl⟩
  rw [hk, show m - i = k + 1 by omega, show m - (i + 1) = k by omega, List.set_append_left _ _ (by simp), rep_set, List.append_assoc, List.getD_eq_getElem?_getD, List.getElem?_eq_getElem (by omega)]
  congr 1
  rw [List.drop_eq_getElem_cons (i := k) (by omega)]
  rfl
theorem front_zero {A : List Int} (hu : U32s A) (m K : Nat) (hK : K = min m (4 * A.length)) : List.replicate (m - K) 0 ++ (pI (val A) m).drop (m - K) = pI (val A) m := by
  have h : (pI (val A) m).take (m - K) = List.replicate (m - K) 0 := by
    refine List.eq_replicate_iff.2 ⟨by rw [List.length_take, pI_len]; omega, fun x hx => ?_⟩
    obtain ⟨j, hj, rfl⟩ := List.mem_iff_getElem.1 hx
    rw [List.length_take, pI_len] at hj
    rw [List.getElem_take]
    have h1 := pI_get (val A) m j (by omega)
    rw [List.getD_eq_getElem?_getD, List.getElem?_eq_getElem (by rw [pI_len]; omega)] at h1
    have h2 := high_byte hu (m - 1 - j) (by omega)
    rw [h2] at h1
    exact h1
  rw [← h, List.take_append_drop]
theorem bitLen_val {A : List Int} (hu : U32s A) : bitLen (val A).toNat ≤ 32 * A.length := by
  have h0 := val_nonneg hu
  have h1 := val_lt hu
  obtain ⟨N, hN⟩ := Int.eq_ofNat_of_zero_le h0
  rw [hN, pow32] at h1
  rw [hN, Int.toNat_natCast]
  have h2 : N < 2 ^ (32 * A.length) := by exact_mod_cast h1
  apply Classical.byContradiction
  intro hc
  have hs := (bitLen_spec N).2 (by intro h; subst h; have : bitLen 0 = 0 := rfl; omega)
  have h3 : 2 ^ (32 * A.length) ≤ 2 ^ (bitLen N - 1) := Nat.pow_le_pow_right (by decide) (by omega)
  omega
set_option maxRecDepth 20000 in
set_option maxHeartbeats 4000000 in
theorem PutUint_any {w : World} (v : Value) (A : List Int) (hA : Sl .u32 w v A) (uA : U32s A) (hl : A.length ≤ 600) :
    Calls Tryd.prog 27 #[v] w fun e w' => ∃ r m, IsU (val A) m ∧ m ≤ 2401 ∧ e = .returned r ∧ Sl .u8 w' r (pI (val A) m) ∧ Below w.heap.size w w' := by
  have HB : Hid (Calls Tryd.prog 43 #[v] w fun e w' => e = .returned (.int .i64 (bitLen (val A).toNat)) ∧ Below w.heap.size w w') := NBits_any A v w hA uA (by omega)
  obtain ⟨a, c, rfl, hc, hx⟩ := hA
  obtain ⟨n, hn⟩ : ∃ n, A.length = n := ⟨_, rfl⟩
  obtain ⟨bl, hbl⟩ : ∃ bl, bitLen (val A).toNat = bl := ⟨_, rfl⟩
  obtain ⟨m, hm⟩ : ∃ m, bl / 8 + 1 = m := ⟨_, rfl⟩
  obtain ⟨N4, hN4⟩ : ∃ N4, 4 * n = N4 := ⟨_, rfl⟩
  have hbl2 := bitLen_val uA
  rw [hbl, hn] at hbl2
  have hN0 := val_nonneg uA
  have HM : Hid (IsU (val A) m ∧ (pI (val A) m).length = m ∧ A.length = n ∧ U32s A ∧ N4 = 4 * A.length) := by
    refine ⟨?_, pI_len _ _, hn, uA, by rw [hn]; exact hN4.symm⟩
    have := isU_bits (val A).toNat
    rw [Int.toNat_of_nonneg hN0, hbl, hm] at this
    exact this
  rw [hbl] at HB
  rw [hn] at HB hc hl ⊢
  have hmI : (bl : Int) / 8 + 1 = (m : Int) := by omega
  have hm1 : (1 : Int) ≤ (m : Int) := by omega
  have hm2 : m ≤ 2401 := by omega
  have hbI : (bl : Int) ≤ 19200 := by omega
  have hN4I : 4 * (n : Int) = (N4 : Int) := by omega
  have hnI : (n : Int) ≤ 600 := by omega
  have HX : Hid (A = [] ∨ ∃ b off, a = some ⟨b, off, none⟩ ∧ b < w.heap.size ∧ Rd .u32 w b off A) := hx
  clear hx hn hbl hm hbl2 hN0 uA
  by_cases hcase : m ≤ N4
  · have hKI : (m : Int) ≤ (N4 : Int) := by omega
    have hKI2 : ¬ (N4 : Int) < (m : Int) := by omega
    go_enter Tryd.func27, Tryd.ntmps27
    go_wp2_with fail
    refine HB.out.mono ?_
    rintro e w1 ⟨rfl, hb1⟩
    have HB1 : Hid (Below w.heap.size w w1) := hb1
    clear hb1
    go_wp2_with (at_make; refine wpList_mk w1 rfl (.tmp 10) (.tmp 10) 22 rfl .u8 5 1 Tryd.und8 Tryd.info8 _ m rfl rfl rfl (by omega) (by omega) ?_; intro w2 hA2 hB2; have HA2 : Hid (Arr .u8 5 w2 w1.heap.size (List.replicate m 0) ∧ Below w1.heap.size w1 w2) := ⟨hA2, hB2⟩; clear hA2 hB2)
    go_loopw [17] (fun kv wr => ∃ (i : Nat), kv = .int .i64 i ∧ i ≤ m ∧ Arr .u8 5 wr w1.heap.size (List.replicate (m - i) 0 ++ (pI (val A) m).drop (m - i)) ∧ Below w1.heap.size w1 wr) (fun kv _ => m - (intOf kv).toNat)
    case atStart => exact ⟨0, rfl, by omega, by rw [Nat.sub_zero, List.drop_of_length_le (by rw [HM.out.2.1]; exact Nat.le_refl _), List.append_nil]; exact HA2.out.1, HA2.out.2⟩
    case round =>
      obtain ⟨i, rfl, hi, hA, hB⟩ := hrel
      have H2 : Hid (Arr .u8 5 wr w1.heap.size (List.replicate (m - i) 0 ++ (pI (val A) m).drop (m - i)) ∧ Below w1.heap.size w1 wr) := ⟨hA, hB⟩
      clear hA hB
      by_cases hlt : i < m
      · have l1 : (i : Int) < (m : Int) := by omega
        obtain ⟨b, off, ha, hb, hr⟩ : ∃ b off, a = some ⟨b, off, none⟩ ∧ b < w.heap.size ∧ Rd .u32 w b off A := by
          rcases HX.out with h | h
          · have := HM.out.2.2.1; rw [h] at this; simp at this; omega
          · exact h
        subst ha
        obtain ⟨d, hd⟩ : ∃ d, m - 1 - i = d := ⟨_, rfl⟩
        have hdI : (m : Int) - 1 - (i : Int) = (d : Int) := by omega
        have hdm : (d : Int) < (m : Int) := by omega
        obtain ⟨q, hq⟩ : ∃ q, i / 4 = q := ⟨_, rfl⟩
        obtain ⟨s, hs⟩ : ∃ s, i % 4 * 8 = s := ⟨_, rfl⟩
        have hqI : (i : Int) / 4 = (q : Int) := by omega
        have hsI : (i : Int) % 4 * 8 = (s : Int) := by omega
        have hqn : (q : Int) < (n : Int) := by omega
        have hs32 : (s : Int) ≤ 32 := by omega
        obtain ⟨z, hz⟩ : ∃ z, A.getD q 0 = z := ⟨_, rfl⟩
        have uz := HM.out.2.2.2.1.at q
        rw [hz] at uz
        obtain ⟨z0, z1⟩ := uz
        have cz : wr.cell? ⟨b, off + q, none⟩ = some (.int .u32 z) := by
          rw [H2.out.2.cell (p := ⟨b, off + q, none⟩) (Nat.lt_of_lt_of_le hb HB1.out.size), HB1.out.cell (p := ⟨b, off + q, none⟩) hb, hr q (by have := HM.out.2.2.1; omega), hz]
        obtain ⟨y, hy⟩ : ∃ y, z / 2 ^ s = y := ⟨_, rfl⟩
        obtain ⟨x, hx⟩ : ∃ x, IntKind.u8.wrap y = x := ⟨_, rfl⟩
        have HZ : Hid ((pI (val A) m).getD d 0 = x) := by
          show _ = _
          rw [pI_get (val A) m d (by omega), show m - 1 - d = i by omega, ← limb_byte HM.out.2.2.2.1 i, hq, hs, hz, hy, ← hx, wrap8]
        have hlen : (List.replicate (m - i) 0 ++ (pI (val A) m).drop (m - i)).length = m := by
          rw [List.length_append, List.length_replicate, List.length_drop, HM.out.2.1]; omega
        have ci := H2.out.1.cell d (by rw [hlen]; omega)
        have fi := H2.out.1.frozen d
        have gl := H2.out.1.lt
        have H3 : Hid (Arr .u8 5 (wr.setCell ⟨w1.heap.size, d, none⟩ (.int .u8 x)) w1.heap.size (List.replicate (m - (i + 1)) 0 ++ (pI (val A) m).drop (m - (i + 1))) ∧ Below w1.heap.size w1 (wr.setCell ⟨w1.heap.size, d, none⟩ (.int .u8 x))) := by
          refine ⟨?_, (Upd.set _ _ _ _).below H2.out.2 H2.out.2.size (Nat.le_refl _)⟩
          have := H2.out.1.set d x
          have e := set_last (pI (val A) m) m i HM.out.2.1 (by omega)
          rw [hd, HZ.out] at e
          rw [e] at this
          exact this
        clear hlen hd hq hs hz hr
        go_wp2
        go_roundw
        case rel => exact ⟨i + 1, by go_num, by omega, H3.out.1, H3.out.2⟩
        case measure => simp [intOf]; omega
      · obtain rfl : i = m := by omega
        have l1 : ¬ (i : Int) < (i : Int) := by omega
        go_wp2
        go_ret
        refine ⟨_, i, HM.out.1, hm2, rfl, ?_, HB1.out.trans (H2.out.2.mono HB1.out.size)⟩
        have h := H2.out.1
        rw [front_zero HM.out.2.2.2.1 i i (by have := HM.out.2.2.2.2; omega)] at h
        have h9 := h.sl
        rw [HM.out.2.1] at h9
        exact h9
  · have hKI : (N4 : Int) < (m : Int) := by omega
    have hKI2 : ¬ (m : Int) ≤ (N4 : Int) := by omega
    go_enter Tryd.func27, Tryd.ntmps27
    go_wp2_with fail
    refine HB.out.mono ?_
    rintro e w1 ⟨rfl, hb1⟩
    have HB1 : Hid (Below w.heap.size w w1) := hb1
    clear hb1
    go_wp2_with (at_make; refine wpList_mk w1 rfl (.tmp 10) (.tmp 10) 22 rfl .u8 5 1 Tryd.und8 Tryd.info8 _ m rfl rfl rfl (by omega) (by omega) ?_; intro w2 hA2 hB2; have HA2 : Hid (Arr .u8 5 w2 w1.heap.size (List.replicate m 0) ∧ Below w1.heap.size w1 w2) := ⟨hA2, hB2⟩; clear hA2 hB2)
    go_loopw [17] (fun kv wr => ∃ (i : Nat), kv = .int .i64 i ∧ i ≤ N4 ∧ Arr .u8 5 wr w1.heap.size (List.replicate (m - i) 0 ++ (pI (val A) m).drop (m - i)) ∧ Below w1.heap.size w1 wr) (fun kv _ => N4 - (intOf kv).toNat)
    case atStart => exact ⟨0, rfl, by omega, by rw [Nat.sub_zero, List.drop_of_length_le (by rw [HM.out.2.1]; exact Nat.le_refl _), List.append_nil]; exact HA2.out.1, HA2.out.2⟩
    case round =>
      obtain ⟨i, rfl, hi, hA, hB⟩ := hrel
      have H2 : Hid (Arr .u8 5 wr w1.heap.size (List.replicate (m - i) 0 ++ (pI (val A) m).drop (m - i)) ∧ Below w1.heap.size w1 wr) := ⟨hA, hB⟩
      clear hA hB
      by_cases hlt : i < N4
      · have l1 : (i : Int) < (N4 : Int) := by omega
        obtain ⟨b, off, ha, hb, hr⟩ : ∃ b off, a = some ⟨b, off, none⟩ ∧ b < w.heap.size ∧ Rd .u32 w b off A := by
          rcases HX.out with h | h
          · have := HM.out.2.2.1; rw [h] at this; simp at this; omega
          · exact h
        subst ha
        obtain ⟨d, hd⟩ : ∃ d, m - 1 - i = d := ⟨_, rfl⟩
        have hdI : (m : Int) - 1 - (i : Int) = (d : Int) := by omega
        have hdm : (d : Int) < (m : Int) := by omega
        obtain ⟨q, hq⟩ : ∃ q, i / 4 = q := ⟨_, rfl⟩
        obtain ⟨s, hs⟩ : ∃ s, i % 4 * 8 = s := ⟨_, rfl⟩
        have hqI : (i : Int) / 4 = (q : Int) := by omega
        have hsI : (i : Int) % 4 * 8 = (s : Int) := by omega
        have hqn : (q : Int) < (n : Int) := by omega
        have hs32 : (s : Int) ≤ 32 := by omega
        obtain ⟨z, hz⟩ : ∃ z, A.getD q 0 = z := ⟨_, rfl⟩
        have uz := HM.out.2.2.2.1.at q
        rw [hz] at uz
        obtain ⟨z0, z1⟩ := uz
        have cz : wr.cell? ⟨b, off + q, none⟩ = some (.int .u32 z) := by
          rw [H2.out.2.cell (p := ⟨b, off + q, none⟩) (Nat.lt_of_lt_of_le hb HB1.out.size), HB1.out.cell (p := ⟨b, off + q, none⟩) hb, hr q (by have := HM.out.2.2.1; omega), hz]
        obtain ⟨y, hy⟩ : ∃ y, z / 2 ^ s = y := ⟨_, rfl⟩
        obtain ⟨x, hx⟩ : ∃ x, IntKind.u8.wrap y = x := ⟨_, rfl⟩
        have HZ : Hid ((pI (val A) m).getD d 0 = x) := by
          show _ = _
          rw [pI_get (val A) m d (by omega), show m - 1 - d = i by omega, ← limb_byte HM.out.2.2.2.1 i, hq, hs, hz, hy, ← hx, wrap8]
        have hlen : (List.replicate (m - i) 0 ++ (pI (val A) m).drop (m - i)).length = m := by
          rw [List.length_append, List.length_replicate, List.length_drop, HM.out.2.1]; omega
        have ci := H2.out.1.cell d (by rw [hlen]; omega)
        have fi := H2.out.1.frozen d
        have gl := H2.out.1.lt
        have H3 : Hid (Arr .u8 5 (wr.setCell ⟨w1.heap.size, d, none⟩ (.int .u8 x)) w1.heap.size (List.replicate (m - (i + 1)) 0 ++ (pI (val A) m).drop (m - (i + 1))) ∧ Below w1.heap.size w1 (wr.setCell ⟨w1.heap.size, d, none⟩ (.int .u8 x))) := by
          refine ⟨?_, (Upd.set _ _ _ _).below H2.out.2 H2.out.2.size (Nat.le_refl _)⟩
          have := H2.out.1.set d x
          have e := set_last (pI (val A) m) m i HM.out.2.1 (by omega)
          rw [hd, HZ.out] at e
          rw [e] at this
          exact this
        clear hlen hd hq hs hz hr
        go_wp2
        go_roundw
        case rel => exact ⟨i + 1, by go_num, by omega, H3.out.1, H3.out.2⟩
        case measure => simp [intOf]; omega
      · obtain rfl : i = N4 := by omega
        have l1 : ¬ (i : Int) < (i : Int) := by omega
        go_wp2
        go_ret
        refine ⟨_, m, HM.out.1, hm2, rfl, ?_, HB1.out.trans (H2.out.2.mono HB1.out.size)⟩
        have h := H2.out.1
        rw [front_zero HM.out.2.2.2.1 m i (by have := HM.out.2.2.2.2; omega)] at h
        have h9 := h.sl
        rw [HM.out.2.1] at h9
        exact h9
end Go.Proofs.YtndcpjnfdgojkaaDoor
