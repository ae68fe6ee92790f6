/-
  Der: the reference's bytes of a small number.
-/
import Derived.Test.YtndcpjnfdgojkaaDoorE86
namespace Go.Proofs.YtndcpjnfdgojkaaDoor
open Go.RowKit
theorem qs_mod (n : Int) (d : Nat) (hd : d ≤ 7) : qs (n % 18446744073709551616) d % 256 = qs n d % 256 := by
  have h : d = 0 ∨ d = 1 ∨ d = 2 ∨ d = 3 ∨ d = 4 ∨ d = 5 ∨ d = 6 ∨ d = 7 := by omega
  rcases h with rfl | rfl | rfl | rfl | rfl | rfl | rfl | rfl
  all_goals
    simp only [qs]
    omega
theorem pI_u8 (n : Int) (m : Nat) : U8s (pI n m) := by
  intro x hx
  unfold pI at hx
  obtain ⟨i, _, rfl⟩ := List.mem_map.1 hx
  unfold U8
  omega
theorem int_pI {n : Int} {m : Nat} (h1 : 1 ≤ m) (hp : pk n (m - 1)) : intOk (pI n m) = true ↔ (m = 1 ∨ ¬ pk n (m - 2)) := by
  unfold intOk
  rw [pI_len]
  by_cases hm : m = 1
  · subst hm; simp
  · obtain ⟨d, rfl⟩ : ∃ d, m = d + 2 := ⟨m - 2, by omega⟩
    rw [if_neg (by omega), pI_get n _ 0 (by omega), pI_get n _ 1 (by omega), show d + 2 - 1 - 0 = d + 1 by omega, show d + 2 - 1 - 1 = d by omega, show d + 2 - 2 = d by omega]
    have hp' : qs n (d + 1) / 128 = 0 ∨ qs n (d + 1) / 128 = -1 := by
      have := hp
      unfold pk at this
      rw [show d + 2 - 1 = d + 1 by omega, rsI_qs] at this
      exact this
    have e : qs n (d + 1) = qs n d / 256 := rfl
    have hq : pk n d ↔ (qs n d / 128 = 0 ∨ qs n d / 128 = -1) := by unfold pk; rw [rsI_qs]
    rw [hq, e]
    rw [e] at hp'
    clear hp hq e
    obtain ⟨a, ha⟩ : ∃ a, qs n d = a := ⟨_, rfl⟩
    rw [ha] at hp' ⊢
    clear ha
    simp only [Bool.not_eq_true', Bool.or_eq_false_iff, Bool.and_eq_false_iff, decide_eq_false_iff_not]
    omega
set_option maxRecDepth 20000 in
set_option maxHeartbeats 4000000 in
theorem RPutInt_any {w : World} (n : Int) (n0 : -9223372036854775808 ≤ n) (n1 : n ≤ 9223372036854775807) :
    Calls Tryd.prog 26 #[.int .i64 n] w fun e w' => ∃ r m, IsM n m ∧ e = .returned r ∧ Sl .u8 w' r (pI n m) ∧ Below w.heap.size w w' := by
  have HN : Hid (-9223372036854775808 ≤ n ∧ n ≤ 9223372036854775807) := ⟨n0, n1⟩
  clear n0 n1
  obtain ⟨U, hU⟩ : ∃ U, IntKind.u64.wrap n = U := ⟨_, rfl⟩
  have HU : Hid (U = n % 18446744073709551616) := by rw [← hU, IntKind.wrap_u64]; rfl
  go_enter Tryd.func26, Tryd.ntmps26
  go_wp2_with fail
  go_loopw [3, 4] (fun av kv wr => ∃ (c : Nat) (k : Int) (v1 : Value), v1 = av ∧ kv = .int .i64 k ∧ c ≤ 8 ∧ k = 7 - (c : Int) ∧ Row .u8 5 w.heap.size wr v1 ((pI n 8).take c) ∧ Below w.heap.size w wr) (fun _ kv _ => (intOf kv + 1).toNat)
  case atStart => exact ⟨0, 7, _, rfl, rfl, by omega, by omega, Row.nil _ _ _ _, Below.refl _ _⟩
  case round =>
    obtain ⟨c, k, v1, rfl, rfl, hc, hk, hr, hb⟩ := hrel
    have H1 : Hid (Row .u8 5 w.heap.size wr v1 ((pI n 8).take c) ∧ Below w.heap.size w wr) := ⟨hr, hb⟩
    have HK : Hid (k = 7 - (c : Int)) := hk
    clear hr hb
    by_cases hlt : c < 8
    · obtain ⟨d, hd⟩ : ∃ d, 7 - c = d := ⟨_, rfl⟩
      obtain ⟨q, hq⟩ : ∃ q : Nat, 8 * d = q := ⟨_, rfl⟩
      have l1 : 0 ≤ k := by omega
      have hqI : 8 * k = (q : Int) := by omega
      have hq64 : (q : Int) ≤ 64 := by omega
      have hk7 : k ≤ 7 := by omega
      obtain ⟨y, hy⟩ : ∃ y, U / 2 ^ q = y := ⟨_, rfl⟩
      obtain ⟨z, hz⟩ : ∃ z, IntKind.u8.wrap y = z := ⟨_, rfl⟩
      have HZ : Hid ((pI n 8).take (c + 1) = (pI n 8).take c ++ [z] ∧ ((pI n 8).take c).length ≤ 8) := by
        have e : (pI n 8).getD c 0 = z := by
          rw [pI_get n 8 c hlt, show 8 - 1 - c = d by omega, ← hz, wrap8, ← hy, ← hq, shr_qs U d (by omega), HU.out, qs_mod n d (by omega)]
        refine ⟨?_, by rw [List.length_take]; omega⟩
        rw [List.take_succ_eq_append_getElem (by rw [pI_len]; exact hlt), ← e, List.getD_eq_getElem?_getD, List.getElem?_eq_getElem (by rw [pI_len]; exact hlt)]
        rfl
      clear hd hq hk
      go_wp2_with (at_builtin; refine wpList_ap rfl (.tmp 9) (.tmp 16) 22 22 rfl .u8 5 1 Tryd.und8 Tryd.info8 (by decide) w.heap.size _ ((pI n 8).take c) rfl (H1.out.1.alloc _) _ [_] rfl (src_sl Tryd.und8 (new_sl (k := .u8) [_] (0, 0))) (by have := HZ.out.2; simp; omega) (by have := H1.out.2.size; simp; omega) ?_; intro v2 w2 hr2 hg2)
      have H2 : Hid (Row .u8 5 w.heap.size w2 v2 ((pI n 8).take (c + 1)) ∧ Below w.heap.size w w2) := ⟨by rw [HZ.out.1]; exact hr2, (al2' H1.out.2).trans (hg2.below (H1.out.1.alloc _) (by have := H1.out.2.size; simp; omega))⟩
      clear hr2 hg2
      go_roundw
      case rel => exact ⟨c + 1, k - 1, _, rfl, rfl, by omega, by have := HK.out; omega, H2.out.1, H2.out.2⟩
      case measure => simp [intOf]; omega
    · have h8 : c = 8 := by omega
      subst h8
      have l1 : ¬ 0 ≤ k := by omega
      have hrow := H1.out.1
      rw [List.take_of_length_le (by rw [pI_len]; omega)] at hrow
      obtain ⟨b1, S1, hv, hB1, hA1, hl1, ht1, hm1⟩ := hrow.open 8 (pI_len _ _) (by omega)
      subst hv
      obtain ⟨k1, hk1⟩ : ∃ k, S1.length = k := ⟨_, rfl⟩
      rw [hk1] at hl1 ⊢
      have hrd : Rd .u8 wr b1 0 (pI n 8) := by
        have := hA1.rd 0 8 (by omega)
        rw [List.drop_zero, ht1] at this
        exact this
      have H3 : Hid (Rd .u8 wr b1 0 (pI n 8) ∧ b1 < wr.heap.size ∧ pk n 7) := ⟨hrd, hA1.lt, pk_all HN.out.1 HN.out.2⟩
      obtain ⟨w1, hw1⟩ : ∃ W, W = wr := ⟨wr, rfl⟩
      subst hw1
      clear hrow hrd hA1 ht1 hm1 hk1 hB1 hk
      go_wp2_with fail
      go_loopw [3] (fun av wq => ∃ (j L C : Nat), av = .slice (some ⟨b1, j, none⟩) L C ∧ j ≤ 7 ∧ L = 8 - j ∧ C = k1 - j ∧ pk n (7 - j) ∧ w1 = wq) (fun av _ => match av with | .slice _ L _ => L | _ => 0)
      case atStart => exact ⟨0, 8, k1, rfl, by omega, rfl, rfl, H3.out.2.2, rfl⟩
      case round =>
        obtain ⟨j, L, C, rfl, hj, hL, hC, hp, rfl⟩ := hrel
        have hsl : Sl .u8 w1 (.slice (some ⟨b1, j, none⟩) L C) (pI n L) := by
          refine ⟨some ⟨b1, j, none⟩, C, by rw [pI_len], by rw [pI_len]; omega, .inr ⟨b1, j, rfl, H3.out.2.1, fun i hi => ?_⟩⟩
          rw [pI_len] at hi
          have := H3.out.1 (j + i) (by rw [pI_len]; omega)
          rw [Nat.zero_add, pI_get n 8 (j + i) (by omega), show 8 - 1 - (j + i) = L - 1 - i by omega] at this
          rw [pI_get n L i hi]
          exact this
        have hiff := int_pI (n := n) (m := L) (by omega) (by rw [show L - 1 = 7 - j by omega]; exact hp)
        have H4 : Hid (Sl .u8 w1 (.slice (some ⟨b1, j, none⟩) L C) (pI n L) ∧ (intOk (pI n L) = true ↔ (L = 1 ∨ ¬ pk n (L - 2))) ∧ pk n (7 - j)) := ⟨hsl, hiff, hp⟩
        clear hsl hiff hp
        obtain ⟨ok, hok⟩ : ∃ ok, intOk (pI n L) = ok := ⟨_, rfl⟩
        have HOK : Hid (intOk (pI n L) = ok) := hok
        have HL : Hid (L = 8 - j ∧ C = k1 - j) := ⟨hL, hC⟩
        have hLb : L ≤ 8 := by omega
        clear hok hL hC
        go_wp2_with fail
        refine (whole_any _ (pI n L) H4.out.1 (pI_u8 _ _) (by rw [pI_len]; omega)).mono ?_
        rw [HOK.out]
        rintro e w' ⟨rfl, rfl⟩
        cases ok with
        | true =>
          have HM : Hid (IsM n L) := ⟨by have := HL.out; omega, by omega, by rw [show L - 1 = 7 - j by have := HL.out; omega]; exact H4.out.2.2, H4.out.2.1.1 HOK.out⟩
          go_wp2
          go_ret
          exact ⟨_, L, HM.out, rfl, H4.out.1, H1.out.2⟩
        | false =>
          have hno : ¬ (L = 1 ∨ ¬ pk n (L - 2)) := fun h => by have := H4.out.2.1.2 h; rw [HOK.out] at this; cases this
          have hL1 : L ≠ 1 := fun h => hno (.inl h)
          have HP : Hid (pk n (7 - (j + 1))) := by
            show pk _ _
            rw [show 7 - (j + 1) = L - 2 by have := HL.out; omega]
            exact Classical.byContradiction fun h => hno (.inr h)
          obtain ⟨L2, hL2⟩ : ∃ L2, L - 1 = L2 := ⟨_, rfl⟩
          obtain ⟨C2, hC2⟩ : ∃ C2, C - 1 = C2 := ⟨_, rfl⟩
          have hCn : ¬ C = 1 := by have := HL.out; omega
          have hLI : (1 : Int) ≤ (L : Int) := by have := HL.out; omega
          have hCI : (1 : Int) ≤ (C : Int) := by have := HL.out; omega
          have HL2 : Hid (L2 = 8 - (j + 1) ∧ C2 = k1 - (j + 1) ∧ j + 1 ≤ 7 ∧ L2 < L) := by have := HL.out; exact ⟨by omega, by omega, by omega, by omega⟩
          clear hno hL1
          go_wp2
          go_roundw
          case rel => exact ⟨j + 1, L2, C2, rfl, HL2.out.2.2.1, HL2.out.1, HL2.out.2.1, HP.out, trivial⟩
          case measure => exact HL2.out.2.2.2
end Go.Proofs.YtndcpjnfdgojkaaDoor
