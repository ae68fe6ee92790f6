/-
  Der: the reference's PutUint.
-/
import Derived.Test.YtndcpjnfdgojkaaDoorE92
namespace Go.Proofs.YtndcpjnfdgojkaaDoor
open Go.RowKit
theorem pk_top {A : List Int} (hu : U32s A) : pk (val A) (4 * A.length) := by
  have h0 := val_nonneg hu
  have h1 := val_lt hu
  obtain ⟨N, hN⟩ := Int.eq_ofNat_of_zero_le h0
  rw [hN, pow32] at h1
  rw [hN, pk_nat]
  have h2 : N < 2 ^ (32 * A.length) := by exact_mod_cast h1
  exact Nat.lt_of_lt_of_le h2 (Nat.pow_le_pow_right (by decide) (by omega))
theorem pI_first {A : List Int} (hu : U32s A) (n : Nat) (hn : A.length = n) : (pI (val A) (4 * n + 1)).take 1 = [0] := by
  have h := pI_get (val A) (4 * n + 1) 0 (by omega)
  rw [show 4 * n + 1 - 1 - 0 = 4 * n by omega, high_byte hu (4 * n) (by omega)] at h
  rw [List.take_succ_eq_append_getElem (by rw [pI_len]; omega)]
  rw [List.getD_eq_getElem?_getD, List.getElem?_eq_getElem (by rw [pI_len]; omega)] at h
  simp only [List.take_zero, List.nil_append]
  exact congrArg (fun x => [x]) h
theorem take4 (P : List Int) (a : Nat) (h : a + 4 ≤ P.length) : P.take (a + 4) = P.take a ++ [P.getD a 0, P.getD (a + 1) 0, P.getD (a + 2) 0, P.getD (a + 3) 0] := by
  rw [take_snoc P (a + 3) (by omega), take_snoc P (a + 2) (by omega), take_snoc P (a + 1) (by omega), take_snoc P a (by omega)]
  simp
theorem pI_four {A : List Int} (hu : U32s A) (n q j : Nat) (z : Int) (hq : n - 1 - j = q) (hj : j < n) (hz : A.getD q 0 = z) :
    (pI (val A) (4 * n + 1)).take (1 + 4 * (j + 1)) = (pI (val A) (4 * n + 1)).take (1 + 4 * j) ++ [z / 16777216 % 256, z / 65536 % 256, z / 256 % 256, z % 256] := by
  rw [show 1 + 4 * (j + 1) = (1 + 4 * j) + 4 by omega, take4 _ _ (by rw [pI_len]; omega)]
  rw [pI_get _ _ _ (by omega), pI_get _ _ _ (by omega), pI_get _ _ _ (by omega), pI_get _ _ _ (by omega)]
  have e3 := limb_byte hu (4 * q + 3)
  have e2 := limb_byte hu (4 * q + 2)
  have e1 := limb_byte hu (4 * q + 1)
  have e0 := limb_byte hu (4 * q)
  rw [show (4 * q + 3) / 4 = q by omega, show (4 * q + 3) % 4 * 8 = 24 by omega, hz] at e3
  rw [show (4 * q + 2) / 4 = q by omega, show (4 * q + 2) % 4 * 8 = 16 by omega, hz] at e2
  rw [show (4 * q + 1) / 4 = q by omega, show (4 * q + 1) % 4 * 8 = 8 by omega, hz] at e1
  rw [show (4 * q) / 4 = q by omega, show (4 * q) % 4 * 8 = 0 by omega, hz] at e0
  rw [show 4 * n + 1 - 1 - (1 + 4 * j) = 4 * q + 3 by omega, show 4 * n + 1 - 1 - (1 + 4 * j + 1) = 4 * q + 2 by omega, show 4 * n + 1 - 1 - (1 + 4 * j + 2) = 4 * q + 1 by omega, show 4 * n + 1 - 1 - (1 + 4 * j + 3) = 4 * q by omega, ← e3, ← e2, ← e1, ← e0]
  simp
theorem drw_row {k : IntKind} {e : TypeId} {B : Nat} {w : World} {v : Value} {X : List Int} (q : Nat) (h : Row k e B w v X) : Row k e B (w.drewN q) v X := h.below ⟨rfl, rfl, rfl, Nat.le_refl _, fun _ _ => rfl⟩
set_option maxRecDepth 20000 in
set_option maxHeartbeats 4000000 in
theorem RPutUint_any {w : World} (v : Value) (A : List Int) (hA : Sl .u32 w v A) (uA : U32s A) (hl : A.length ≤ 600) :
    Calls Tryd.prog 28 #[v] w fun e w' => ∃ r m, IsU (val A) m ∧ m ≤ 2401 ∧ e = .returned r ∧ Sl .u8 w' r (pI (val A) m) ∧ Below w.heap.size w w' := by
  obtain ⟨a, c, rfl, hc, hx⟩ := hA
  obtain ⟨n, hn⟩ : ∃ n, A.length = n := ⟨_, rfl⟩
  obtain ⟨M, hM⟩ : ∃ M, 4 * n + 1 = M := ⟨_, rfl⟩
  have HX : Hid ((A = [] ∨ ∃ b off, a = some ⟨b, off, none⟩ ∧ b < w.heap.size ∧ Rd .u32 w b off A) ∧ A.length = n ∧ U32s A ∧ 4 * n + 1 = M ∧ (pI (val A) M).take 1 = [0] ∧ (pI (val A) M).length = M ∧ pk (val A) (M - 1)) :=
    ⟨hx, hn, uA, hM, by rw [← hM]; exact pI_first uA n hn, pI_len _ _, by rw [← hM, Nat.add_sub_cancel, ← hn]; exact pk_top uA⟩
  rw [hn] at hl hc ⊢
  have hnI : (n : Int) ≤ 600 := by omega
  clear hx hn hM uA
  go_enter Tryd.func28, Tryd.ntmps28
  go_wp2_with fail
  go_loopw [3, 4] (fun bv kv wr => ∃ (j : Nat) (k : Int) (s1 : Value), s1 = bv ∧ kv = .int .i64 k ∧ j ≤ n ∧ k = (n : Int) - 1 - j ∧ Row .u8 5 w.heap.size wr s1 ((pI (val A) M).take (1 + 4 * j)) ∧ Below w.heap.size w wr) (fun _ kv _ => (intOf kv + 1).toNat)
  case atStart => exact ⟨0, (n : Int) - 1, _, rfl, by first | rfl | go_num, by omega, by omega, by rw [show 1 + 4 * 0 = 1 from rfl, HX.out.2.2.2.2.1]; exact Row.arr (S := [0]) (arr_nw rfl rfl) (Nat.le_refl _) (by simp [maxLen]), al1 _⟩
  case round =>
    obtain ⟨j, k, s1, rfl, rfl, hj, hk, hr, hb⟩ := hrel
    have H1 : Hid (Row .u8 5 w.heap.size wr s1 ((pI (val A) M).take (1 + 4 * j)) ∧ Below w.heap.size w wr) := ⟨hr, hb⟩
    clear hr hb
    by_cases hlt : j < n
    · obtain ⟨q, rfl⟩ : ∃ q : Nat, k = (q : Int) := ⟨k.toNat, by omega⟩
      obtain ⟨b, off, ha, hb, hrd⟩ : ∃ b off, a = some ⟨b, off, none⟩ ∧ b < w.heap.size ∧ Rd .u32 w b off A := by
        rcases HX.out.1 with h | h
        · have := HX.out.2.1; rw [h] at this; simp at this; omega
        · exact h
      subst ha
      have hqn : (q : Int) < (n : Int) := by omega
      have hqn' : q < n := by omega
      obtain ⟨z, hz⟩ : ∃ z, A.getD q 0 = z := ⟨_, rfl⟩
      have uz := HX.out.2.2.1.at q
      rw [hz] at uz
      obtain ⟨z0, z1⟩ := uz
      have cz : wr.cell? ⟨b, off + q, none⟩ = some (.int .u32 z) := by
        rw [H1.out.2.cell (p := ⟨b, off + q, none⟩) hb, hrd q (by have := HX.out.2.1; omega), hz]
      obtain ⟨x3, hx3⟩ : ∃ x, IntKind.u8.wrap (z / 16777216) = x := ⟨_, rfl⟩
      obtain ⟨x2, hx2⟩ : ∃ x, IntKind.u8.wrap (z / 65536) = x := ⟨_, rfl⟩
      obtain ⟨x1, hx1⟩ : ∃ x, IntKind.u8.wrap (z / 256) = x := ⟨_, rfl⟩
      obtain ⟨x0, hx0⟩ : ∃ x, IntKind.u8.wrap z = x := ⟨_, rfl⟩
      have HZ : Hid ((pI (val A) M).take (1 + 4 * (j + 1)) = (pI (val A) M).take (1 + 4 * j) ++ [x3, x2, x1, x0] ∧ ((pI (val A) M).take (1 + 4 * j)).length ≤ 2401 ∧ (q : Int) - 1 = (n : Int) - 1 - ((j + 1 : Nat) : Int)) := by
        refine ⟨?_, ?_, by omega⟩
        · rw [← HX.out.2.2.2.1, pI_four HX.out.2.2.1 n q j z (by omega) hlt hz, ← hx3, ← hx2, ← hx1, ← hx0, wrap8, wrap8, wrap8, wrap8]
        · rw [List.length_take, HX.out.2.2.2.2.2.1, ← HX.out.2.2.2.1]; omega
      clear hz hrd hk
      have hrow := H1.out.1
      have hsz : w.heap.size ≤ wr.heap.size := H1.out.2.size
      have hbr : b < wr.heap.size := Nat.lt_of_lt_of_le hb hsz
      go_upto_region 5 with (fail)
      go_region_held3 (fun w' => w'.cell? ⟨b, off + q, none⟩ = some (.int .u32 z)) (first | go_keep | (rw [hB1.cell (p := ⟨b, off + q, none⟩) hb]; go_keep))
        ((refine step_ap (by rfl) (.tmp 13) (.tmp 37) 22 22 (by rfl) .u8 5 1 Tryd.und8 Tryd.info8 (by decide) w.heap.size _ ((pI (val A) M).take (1 + 4 * j)) (by rfl) (Row.alloc (by assumption) _) _ [x3, x2, x1, x0] (by rfl) (src_sl Tryd.und8 (new_sl (k := .u8) [x3, x2, x1, x0] (0, 0))) (by have := HZ.out.2.1; show (_ + 4) * 1 ≤ _; omega) (by simp; omega) ?_; intro v2 w2 hr2 hg2; have hB1 := hg2.below (Row.alloc (by assumption) _) (by simp; omega)))
      all_goals go_wp2
      have H2 : Hid (Row .u8 5 w.heap.size w2 v2 ((pI (val A) M).take (1 + 4 * (j + 1))) ∧ Below w.heap.size w w2) := ⟨by rw [HZ.out.1]; exact hr2, (al2' H1.out.2).drew.trans hB1⟩
      clear hr2 hg2
      go_roundw
      case rel => exact ⟨j + 1, (q : Int) - 1, _, rfl, rfl, by omega, HZ.out.2.2, H2.out.1, H2.out.2⟩
      case measure => simp [intOf]
    · have l1 : ¬ 0 ≤ k := by omega
      have hrow := H1.out.1
      rw [List.take_of_length_le (by rw [HX.out.2.2.2.2.2.1, ← HX.out.2.2.2.1]; omega)] at hrow
      have hM1 : 1 ≤ M := by have := HX.out.2.2.2.1; omega
      have hM2 : M ≤ 2401 := by have := HX.out.2.2.2.1; omega
      obtain ⟨b1, S1, hv, hB1, hA1, hl1, ht1, hm1⟩ := hrow.open M (pI_len _ _) (by omega)
      subst hv
      obtain ⟨k1, hk1⟩ : ∃ k, S1.length = k := ⟨_, rfl⟩
      rw [hk1] at hl1 ⊢
      have hrd : Rd .u8 wr b1 0 (pI (val A) M) := by
        have := hA1.rd 0 M (by omega)
        rw [List.drop_zero, ht1] at this
        exact this
      have H3 : Hid (Rd .u8 wr b1 0 (pI (val A) M) ∧ b1 < wr.heap.size) := ⟨hrd, hA1.lt⟩
      obtain ⟨w1, hw1⟩ : ∃ W, W = wr := ⟨wr, rfl⟩
      subst hw1
      clear hrow hrd hA1 ht1 hm1 hk1 hB1 hk
      go_wp2_with fail
      go_loopw [3] (fun av wq => ∃ (j L C : Nat), av = .slice (some ⟨b1, j, none⟩) L C ∧ j + 1 ≤ M ∧ L = M - j ∧ C = k1 - j ∧ pk (val A) (M - 1 - j) ∧ w1 = wq) (fun av _ => match av with | .slice _ L _ => L | _ => 0)
      case atStart => exact ⟨0, M, k1, rfl, by omega, rfl, rfl, HX.out.2.2.2.2.2.2, rfl⟩
      case round =>
        obtain ⟨i, L, C, rfl, hi, hL, hC, hp, rfl⟩ := hrel
        have hsl : Sl .u8 w1 (.slice (some ⟨b1, i, none⟩) L C) (pI (val A) L) := by
          refine ⟨some ⟨b1, i, none⟩, C, by rw [pI_len], by rw [pI_len]; omega, .inr ⟨b1, i, rfl, H3.out.2, fun t ht => ?_⟩⟩
          rw [pI_len] at ht
          have := H3.out.1 (i + t) (by rw [pI_len]; omega)
          rw [Nat.zero_add, pI_get (val A) M (i + t) (by omega), show M - 1 - (i + t) = L - 1 - t by omega] at this
          rw [pI_get (val A) L t ht]
          exact this
        have hiff := int_pI (n := val A) (m := L) (by omega) (by rw [show L - 1 = M - 1 - i by omega]; exact hp)
        have H4 : Hid (Sl .u8 w1 (.slice (some ⟨b1, i, none⟩) L C) (pI (val A) L) ∧ (intOk (pI (val A) L) = true ↔ (L = 1 ∨ ¬ pk (val A) (L - 2))) ∧ pk (val A) (M - 1 - i)) := ⟨hsl, hiff, hp⟩
        clear hsl hiff hp
        obtain ⟨ok, hok⟩ : ∃ ok, intOk (pI (val A) L) = ok := ⟨_, rfl⟩
        have HOK : Hid (intOk (pI (val A) L) = ok) := hok
        have HL : Hid (L = M - i ∧ C = k1 - i) := ⟨hL, hC⟩
        have hLb : L ≤ 2401 := by omega
        clear hok hL hC
        go_wp2_with fail
        refine (whole_any _ (pI (val A) L) H4.out.1 (pI_u8 _ _) (by rw [pI_len]; omega)).mono ?_
        rw [HOK.out]
        rintro e w' ⟨rfl, rfl⟩
        cases ok with
        | true =>
          have HM : Hid (IsU (val A) L) := ⟨by have := HL.out; omega, by rw [show L - 1 = M - 1 - i by have := HL.out; omega]; exact H4.out.2.2, H4.out.2.1.1 HOK.out⟩
          go_wp2
          go_ret
          exact ⟨_, L, HM.out, hLb, rfl, H4.out.1, H1.out.2⟩
        | false =>
          have hno : ¬ (L = 1 ∨ ¬ pk (val A) (L - 2)) := fun h => by have := H4.out.2.1.2 h; rw [HOK.out] at this; cases this
          have hL1 : L ≠ 1 := fun h => hno (.inl h)
          have HP : Hid (pk (val A) (M - 1 - (i + 1))) := by
            show pk _ _
            rw [show M - 1 - (i + 1) = L - 2 by have := HL.out; omega]
            exact Classical.byContradiction fun h => hno (.inr h)
          obtain ⟨L2, hL2⟩ : ∃ L2, L - 1 = L2 := ⟨_, rfl⟩
          obtain ⟨C2, hC2⟩ : ∃ C2, C - 1 = C2 := ⟨_, rfl⟩
          have hCn : ¬ C = 1 := by have := HL.out; omega
          have hLI : (1 : Int) ≤ (L : Int) := by have := HL.out; omega
          have hCI : (1 : Int) ≤ (C : Int) := by have := HL.out; omega
          have HL2 : Hid (L2 = M - (i + 1) ∧ C2 = k1 - (i + 1) ∧ i + 1 + 1 ≤ M ∧ L2 < L) := by have := HL.out; exact ⟨by omega, by omega, by omega, by omega⟩
          clear hno hL1
          go_wp2
          go_roundw
          case rel => exact ⟨i + 1, L2, C2, rfl, HL2.out.2.2.1, HL2.out.1, HL2.out.2.1, HP.out, trivial⟩
          case measure => exact HL2.out.2.2.2
end Go.Proofs.YtndcpjnfdgojkaaDoor
