/-
  Der: the bytes of a small number.
-/
import Derived.Test.YtndcpjnfdgojkaaDoorE85
namespace Go.Proofs.YtndcpjnfdgojkaaDoor
open Go.RowKit
def qs (n : Int) : Nat → Int
  | 0 => n
  | d + 1 => qs n d / 256
def rsI (n : Int) : Nat → Int
  | 0 => n / 128
  | j + 1 => rsI n j / 256
theorem rsI_qs (n : Int) : ∀ j, rsI n j = qs n j / 128
  | 0 => rfl
  | j + 1 => by
    show rsI n j / 256 = qs n j / 256 / 128
    rw [rsI_qs n j]; omega
def pk (n : Int) (j : Nat) : Prop := rsI n j = 0 ∨ rsI n j = -1
theorem pk_next {n : Int} {j : Nat} (h : pk n j) : pk n (j + 1) := by
  unfold pk at *
  show rsI n j / 256 = 0 ∨ rsI n j / 256 = -1
  omega
theorem pk_more {n : Int} {j : Nat} (h : pk n j) : ∀ d, pk n (j + d)
  | 0 => h
  | d + 1 => pk_next (pk_more h d)
theorem pk_all {n : Int} (h0 : -9223372036854775808 ≤ n) (h1 : n ≤ 9223372036854775807) : pk n 7 := by
  unfold pk
  show n / 128 / 256 / 256 / 256 / 256 / 256 / 256 / 256 = 0 ∨ n / 128 / 256 / 256 / 256 / 256 / 256 / 256 / 256 = -1
  omega
/-- So many bytes it takes. -/
def IsM (n : Int) (m : Nat) : Prop := 1 ≤ m ∧ m ≤ 8 ∧ pk n (m - 1) ∧ (m = 1 ∨ ¬ pk n (m - 2))
theorem IsM.uniq {n : Int} {m m' : Nat} (h : IsM n m) (h' : IsM n m') : m = m' := by
  obtain ⟨a1, a2, a3, a4⟩ := h
  obtain ⟨b1, b2, b3, b4⟩ := h'
  rcases Nat.lt_trichotomy m m' with hlt | heq | hgt
  · rcases b4 with b4 | b4
    · omega
    · have := pk_more a3 (m' - 2 - (m - 1))
      rw [show m - 1 + (m' - 2 - (m - 1)) = m' - 2 by omega] at this
      exact absurd this b4
  · exact heq
  · rcases a4 with a4 | a4
    · omega
    · have := pk_more b3 (m - 2 - (m' - 1))
      rw [show m' - 1 + (m - 2 - (m' - 1)) = m - 2 by omega] at this
      exact absurd this a4
def pI (n : Int) (m : Nat) : List Int := (List.range m).map fun i => qs n (m - 1 - i) % 256
theorem pI_len (n : Int) (m : Nat) : (pI n m).length = m := by unfold pI; simp
theorem pI_get (n : Int) (m i : Nat) (hi : i < m) : (pI n m).getD i 0 = qs n (m - 1 - i) % 256 := by
  unfold pI; simp [List.getD, hi]
theorem shr_qs (n : Int) (d : Nat) (hd : d ≤ 7) : n / 2 ^ (8 * d) = qs n d := by
  have h : d = 0 ∨ d = 1 ∨ d = 2 ∨ d = 3 ∨ d = 4 ∨ d = 5 ∨ d = 6 ∨ d = 7 := by omega
  rcases h with rfl | rfl | rfl | rfl | rfl | rfl | rfl | rfl
  · show n / 1 = n; omega
  · rfl
  · show n / 65536 = n / 256 / 256; omega
  · show n / 16777216 = n / 256 / 256 / 256; omega
  · show n / 4294967296 = n / 256 / 256 / 256 / 256; omega
  · show n / 1099511627776 = n / 256 / 256 / 256 / 256 / 256; omega
  · show n / 281474976710656 = n / 256 / 256 / 256 / 256 / 256 / 256; omega
  · show n / 72057594037927936 = n / 256 / 256 / 256 / 256 / 256 / 256 / 256; omega
theorem set_next (A : List Int) (m i : Nat) (hA : A.length = m) (hi : i < m) : (A.take i ++ List.replicate (m - i) 0).set i (A.getD i 0) = A.take (i + 1) ++ List.replicate (m - (i + 1)) 0 := by
  rw [List.set_append_right _ _ (by rw [List.length_take]; omega), List.length_take, show i - min i A.length = 0 by omega, show m - i = (m - (i + 1)) + 1 by omega, List.replicate_succ, List.set_cons_zero, List.take_succ_eq_append_getElem (by omega), List.append_assoc, List.getD_eq_getElem?_getD, List.getElem?_eq_getElem (by omega)]
  rfl
theorem wrap8 (x : Int) : IntKind.u8.wrap x = x % 256 := IntKind.wrap_u8 x
set_option maxRecDepth 20000 in
set_option maxHeartbeats 4000000 in
theorem PutInt_any {w : World} (n : Int) (n0 : -9223372036854775808 ≤ n) (n1 : n ≤ 9223372036854775807) :
    Calls Tryd.prog 25 #[.int .i64 n] w fun e w' => ∃ r m, IsM n m ∧ e = .returned r ∧ Sl .u8 w' r (pI n m) ∧ Below w.heap.size w w' := by
  have HN : Hid (-9223372036854775808 ≤ n ∧ n ≤ 9223372036854775807) := ⟨n0, n1⟩
  clear n0 n1
  go_enter Tryd.func25, Tryd.ntmps25
  go_wp2_with fail
  go_loopw [3, 4] (fun cv rv wr => ∃ (m : Nat) (t : Int), cv = .int .i64 m ∧ rv = .int .i64 t ∧ 1 ≤ m ∧ m ≤ 8 ∧ rsI n (m - 1) = t ∧ (m = 1 ∨ ¬ pk n (m - 2)) ∧ w = wr) (fun cv _ _ => 8 - (intOf cv).toNat)
  case atStart => exact ⟨1, n / 128, rfl, by first | rfl | simp, by omega, by omega, rfl, .inl rfl, rfl⟩
  case round =>
    obtain ⟨m, t, rfl, rfl, hm1, hm8, ht, hp, rfl⟩ := hrel
    have H1 : Hid (rsI n (m - 1) = t ∧ (m = 1 ∨ ¬ pk n (m - 2))) := ⟨ht, hp⟩
    clear ht hp
    by_cases hin : t = 0 ∨ t = -1
    · have HM : Hid (IsM n m ∧ (pI n m).length = m) := ⟨⟨hm1, hm8, by unfold pk; rw [H1.out.1]; exact hin, H1.out.2⟩, pI_len _ _⟩
      have hmI : (1 : Int) ≤ (m : Int) := by omega
      have hmI8 : (m : Int) ≤ 8 := by omega
      rcases hin with rfl | rfl
      all_goals
        go_wp2_with (refine wpList_mk w rfl (.tmp 19) (.tmp 19) 22 rfl .u8 5 1 Tryd.und8 Tryd.info8 _ m rfl rfl rfl (by omega) (by omega) ?_; intro w1 hA1 hB1; have HA1 : Hid (Arr .u8 5 w1 w.heap.size (List.replicate m 0) ∧ Below w.heap.size w w1) := ⟨hA1, hB1⟩; clear hA1 hB1)
        go_loopw [23] (fun kv wr => ∃ (i : Nat), kv = .int .i64 i ∧ i ≤ m ∧ Arr .u8 5 wr w.heap.size ((pI n m).take i ++ List.replicate (m - i) 0) ∧ Below w.heap.size w wr) (fun kv _ => m - (intOf kv).toNat)
        case atStart => exact ⟨0, rfl, by omega, by simpa using HA1.out.1, HA1.out.2⟩
        case round =>
          obtain ⟨i, rfl, hi, hA, hB⟩ := hrel
          have H2 : Hid (Arr .u8 5 wr w.heap.size ((pI n m).take i ++ List.replicate (m - i) 0) ∧ Below w.heap.size w wr) := ⟨hA, hB⟩
          clear hA hB
          by_cases hlt : i < m
          · have l1 : (i : Int) < (m : Int) := by omega
            obtain ⟨d, hd⟩ : ∃ d, m - 1 - i = d := ⟨_, rfl⟩
            have hdI : (m : Int) - 1 - (i : Int) = (d : Int) := by omega
            have hd7 : d ≤ 7 := by omega
            obtain ⟨q, hq⟩ : ∃ q : Nat, 8 * d = q := ⟨_, rfl⟩
            have hqI : 8 * (d : Int) = (q : Int) := by omega
            have hq64 : (q : Int) ≤ 64 := by omega
            obtain ⟨y, hy⟩ : ∃ y, n / 2 ^ q = y := ⟨_, rfl⟩
            obtain ⟨z, hz⟩ : ∃ z, IntKind.u8.wrap y = z := ⟨_, rfl⟩
            have HZ : Hid ((pI n m).getD i 0 = z) := by
              show _ = _
              rw [pI_get n m i hlt, hd, ← hz, wrap8, ← hy, ← hq, shr_qs n d hd7]
            have hlen : ((pI n m).take i ++ List.replicate (m - i) 0).length = m := by
              rw [List.length_append, List.length_take, List.length_replicate, HM.out.2]; omega
            have ci := H2.out.1.cell i (by rw [hlen]; exact hlt)
            have fi := H2.out.1.frozen i
            have gl := H2.out.1.lt
            clear hlen hd hq
            have H3 : Hid (Arr .u8 5 (wr.setCell ⟨w.heap.size, i, none⟩ (.int .u8 z)) w.heap.size ((pI n m).take (i + 1) ++ List.replicate (m - (i + 1)) 0) ∧ Below w.heap.size w (wr.setCell ⟨w.heap.size, i, none⟩ (.int .u8 z))) := by
              refine ⟨?_, (Upd.set _ _ _ _).below H2.out.2 H2.out.2.size (Nat.le_refl _)⟩
              have := H2.out.1.set i z
              rw [← HZ.out, set_next _ _ _ HM.out.2 hlt, HZ.out] at this
              exact this
            go_wp2
            go_roundw
            case rel => exact ⟨i + 1, by go_num, by omega, H3.out.1, H3.out.2⟩
            case measure => simp [intOf]; omega
          · obtain rfl : i = m := by omega
            have l1 : ¬ (i : Int) < (i : Int) := by omega
            go_wp2
            go_ret
            refine ⟨_, i, HM.out.1, rfl, ?_, H2.out.2⟩
            have h := H2.out.1
            rw [List.take_of_length_le (by rw [HM.out.2]; exact Nat.le_refl _), Nat.sub_self, List.replicate_zero, List.append_nil] at h
            have h9 := h.sl
            rw [HM.out.2] at h9
            exact h9
    · have hm7 : m ≤ 7 := by
        by_cases h : m = 8
        · subst h
          have := pk_all HN.out.1 HN.out.2
          unfold pk at this
          rw [show (7 : Nat) = 8 - 1 from rfl, H1.out.1] at this
          exact absurd this hin
        · omega
      have b0 : (t != 0) = true := by simp; omega
      have b1 : (t != -1) = true := by simp; omega
      have HP : Hid (rsI n (m + 1 - 1) = t / 256 ∧ (m + 1 = 1 ∨ ¬ pk n (m + 1 - 2))) := by
        refine ⟨?_, .inr ?_⟩
        · rw [show m + 1 - 1 = (m - 1) + 1 by omega]
          show rsI n (m - 1) / 256 = _
          rw [H1.out.1]
        · rw [show m + 1 - 2 = m - 1 by omega]; unfold pk; rw [H1.out.1]; exact hin
      clear hin
      go_wp2
      go_roundw
      case rel => exact ⟨m + 1, t / 256, by go_num, by first | rfl | simp, by omega, by omega, HP.out.1, HP.out.2, trivial⟩
      case measure => simp [intOf]; omega
end Go.Proofs.YtndcpjnfdgojkaaDoor
