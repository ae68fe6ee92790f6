/-
  Digest: filling: the bytes that fill up a message.
-/
import Derived.Test.YtgipmjpkaemdkaaDoorG13
import Derived.Test.YtgipmjpkaemdkaaDoorMk
namespace Go.Proofs.YtgipmjpkaemdkaaDoor
open Go.RowKit
theorem Tryd.info8 : (Tryd.prog.info? 5).map (fun i => (i.zero, i.size, i.bytes)) = some (some (.int .u8 0), 1, 1) := by kernel_rfl
/-- What stands in the slice behind j rounds. -/
def fillAt (L m j : Nat) : List Int := 128 :: (List.replicate (L - 1 - j) 0 ++ be j m)
theorem fillAt_len {L m j : Nat} (h : j + 1 ≤ L) : (fillAt L m j).length = L := by simp [fillAt, be_len]; omega
theorem fillAt_set {L m j : Nat} (h : j + 2 ≤ L) : (fillAt L m j).set (L - 1 - j) ((m / 256 ^ j % 256 : Nat) : Int) = fillAt L m (j + 1) := by
  obtain ⟨p, hp⟩ : ∃ p, L - 1 - j = p + 1 := ⟨L - 2 - j, by omega⟩
  unfold fillAt
  rw [hp, show L - 1 - (j + 1) = p by omega, List.set_cons_succ, List.replicate_succ', List.append_assoc, List.set_append_right _ _ (by simp), List.length_replicate, Nat.sub_self]
  rfl
theorem fillAt_end {N B j : Nat} (hB : B = 64 ∨ B = 128) (hj : j ≤ 8) (h : N * 8 / 256 ^ j = 0) : fillAt (fillLen N B) (N * 8) j = fill N B := by
  have h1 : (N + B / 8) % B < B := Nat.mod_lt _ (by omega)
  unfold fillAt fill
  rw [show B / 8 = (B / 8 - j) + j by omega, be_high (N * 8) (B / 8 - j) j h, ← List.append_assoc, List.replicate_append_replicate]
  congr 3
  unfold fillLen; omega
theorem small8 {m j : Nat} (hm : m < 256 ^ 7) (h : 0 < m / 256 ^ j) : j < 7 := by
  refine Decidable.byContradiction fun hj => ?_
  have : 256 ^ 7 ≤ 256 ^ j := Nat.pow_le_pow_right (by decide) (by omega)
  rw [Nat.div_eq_of_lt (by omega)] at h; omega

set_option maxHeartbeats 1000000 in
theorem filling_64 {w : World} (N : Nat) (hN : N ≤ 1099511627776) :
    Calls Tryd.prog 40 #[.int .i64 N, .int .i64 64] w fun e w' => e = .returned (.slice (some ⟨w.heap.size, 0, none⟩) (fillLen N 64) (fillLen N 64)) ∧ Arr .u8 5 w' w.heap.size (fill N 64) ∧ Below w.heap.size w w' := by
  obtain ⟨L, hL⟩ : ∃ L, fillLen N 64 = L := ⟨_, rfl⟩
  have hLe : L = 64 - (N + 8) % 64 + 8 := by rw [← hL]; rfl
  have HL : Hid (fillLen N 64 = L) := hL
  have hLb : 8 + 1 ≤ L ∧ L ≤ 200 := by have := Nat.mod_lt (N + 8) (show 0 < 64 by decide); omega
  have HLI : Hid (64 - ((N : Int) + 8) % 64 + 8 = (L : Int)) := by have := Nat.mod_lt (N + 8) (show 0 < 64 by decide); show (64 - ((N : Int) + 8) % 64 + 8 = (L : Int)); omega
  rw [hL]
  clear hL hLe
  go_enter Tryd.func40, Tryd.ntmps40
  go_wp2_with (refine wpList_mk w rfl (.tmp 19) (.tmp 19) 25 rfl .u8 5 1 Tryd.und8 Tryd.info8 _ L rfl rfl HLI.out (by omega) (by omega) ?_; intro w1 hA1 hB1; have HA1 : Hid (Arr .u8 5 w1 w.heap.size (List.replicate L 0) ∧ Below w.heap.size w w1) := ⟨hA1, hB1⟩; have hc0 : w1.cell? ⟨w.heap.size, 0, none⟩ = some (.int .u8 0) := (by have h0 := hA1.cell 0 (by simp; omega); rw [h0]; simp [show 0 < L by omega]); have hf0 : w1.frozen? ⟨w.heap.size, 0, none⟩ = false := hA1.frozen 0; clear hA1 hB1)
  go_loopw [7, 8] (fun iv nv wr => ∃ (j p : Nat), iv = .int .i64 p ∧ nv = .int .u64 ((N * 8 / 256 ^ j : Nat) : Int) ∧ p + j + 1 = L ∧ j ≤ 7 ∧ Arr .u8 5 wr w.heap.size (fillAt L (N * 8) j) ∧ Below w.heap.size w wr) (fun _ nv _ => (intOf nv).toNat)
  case atStart =>
    refine ⟨0, L - 1, by congr 1; omega, by congr 1; simp, by omega, by omega, ?_, (Upd.set _ _ _ _).below HA1.out.2 HA1.out.2.size (Nat.le_refl _)⟩
    have := HA1.out.1.set 0 128
    have e : (List.replicate L (0 : Int)).set 0 128 = fillAt L (N * 8) 0 := by
      obtain ⟨q, rfl⟩ : ∃ q, L = q + 1 := ⟨L - 1, by omega⟩
      simp [fillAt, be, List.replicate_succ]
    rw [e] at this; exact this
  case round =>
    obtain ⟨j, p, rfl, rfl, hpj, hj7, hA, hBw⟩ := hrel
    obtain ⟨x, hx⟩ : ∃ x, N * 8 / 256 ^ j = x := ⟨_, rfl⟩
    have hxs : x ≤ 8796093022208 := by rw [← hx]; exact Nat.le_trans (Nat.div_le_self _ _) (by omega)
    have HX : Hid (N * 8 / 256 ^ j = x) := hx
    have HN : Hid (Arr .u8 5 wr w.heap.size (fillAt L (N * 8) j) ∧ Below w.heap.size w wr) := ⟨hA, hBw⟩
    simp only [hx]
    by_cases hpos : 0 < x
    · have hj : j < 7 := small8 (m := N * 8) (by omega) (by rw [hx]; exact hpos)
      have hlen := fillAt_len (L := L) (m := N * 8) (j := j) (by omega)
      have hc1 := hA.cell p (by omega)
      have hf1 := hA.frozen p
      obtain ⟨o, ho⟩ : ∃ o, (fillAt L (N * 8) j).getD p 0 = o := ⟨_, rfl⟩
      rw [ho] at hc1
      have hpL : (p : Int) < (L : Int) := by omega
      have hp1 : (1 : Int) ≤ (p : Int) := by omega
      have hposI : (0 : Int) < (x : Int) := by omega
      clear hx ho hA hBw hlen hc0 hf0
      go_wp2
      go_roundw
      case rel =>
        obtain ⟨hA, hBw⟩ := HN.out
        refine ⟨j + 1, p - 1, by congr 1; omega, ?_, by omega, by omega, ?_, (Upd.set _ _ _ _).below hBw hBw.size (Nat.le_refl _)⟩
        · rw [Nat.pow_succ, ← Nat.div_div_eq_div_mul, HX.out]; rfl
        · have := hA.set p ((x % 256 : Nat) : Int)
          have e := fillAt_set (L := L) (m := N * 8) (j := j) (by omega)
          rw [HX.out, show L - 1 - j = p by omega] at e
          rw [e] at this
          exact this
      case measure => simp [intOf]; omega
    · have hx0 : x = 0 := by omega
      subst hx0
      have HE : Hid (fillAt L (N * 8) j = fill N 64) := by rw [← HL.out]; exact fillAt_end (by omega) (by omega) HX.out
      clear hx hA hBw hc0 hf0
      go_wp2
      go_ret
      exact ⟨rfl, by rw [← HE.out]; exact HN.out.1, HN.out.2⟩

set_option maxHeartbeats 1000000 in
theorem filling_128 {w : World} (N : Nat) (hN : N ≤ 1099511627776) :
    Calls Tryd.prog 40 #[.int .i64 N, .int .i64 128] w fun e w' => e = .returned (.slice (some ⟨w.heap.size, 0, none⟩) (fillLen N 128) (fillLen N 128)) ∧ Arr .u8 5 w' w.heap.size (fill N 128) ∧ Below w.heap.size w w' := by
  obtain ⟨L, hL⟩ : ∃ L, fillLen N 128 = L := ⟨_, rfl⟩
  have hLe : L = 128 - (N + 16) % 128 + 16 := by rw [← hL]; rfl
  have HL : Hid (fillLen N 128 = L) := hL
  have hLb : 16 + 1 ≤ L ∧ L ≤ 200 := by have := Nat.mod_lt (N + 16) (show 0 < 128 by decide); omega
  have HLI : Hid (128 - ((N : Int) + 16) % 128 + 16 = (L : Int)) := by have := Nat.mod_lt (N + 16) (show 0 < 128 by decide); show (128 - ((N : Int) + 16) % 128 + 16 = (L : Int)); omega
  rw [hL]
  clear hL hLe
  go_enter Tryd.func40, Tryd.ntmps40
  go_wp2_with (refine wpList_mk w rfl (.tmp 19) (.tmp 19) 25 rfl .u8 5 1 Tryd.und8 Tryd.info8 _ L rfl rfl HLI.out (by omega) (by omega) ?_; intro w1 hA1 hB1; have HA1 : Hid (Arr .u8 5 w1 w.heap.size (List.replicate L 0) ∧ Below w.heap.size w w1) := ⟨hA1, hB1⟩; have hc0 : w1.cell? ⟨w.heap.size, 0, none⟩ = some (.int .u8 0) := (by have h0 := hA1.cell 0 (by simp; omega); rw [h0]; simp [show 0 < L by omega]); have hf0 : w1.frozen? ⟨w.heap.size, 0, none⟩ = false := hA1.frozen 0; clear hA1 hB1)
  go_loopw [7, 8] (fun iv nv wr => ∃ (j p : Nat), iv = .int .i64 p ∧ nv = .int .u64 ((N * 8 / 256 ^ j : Nat) : Int) ∧ p + j + 1 = L ∧ j ≤ 7 ∧ Arr .u8 5 wr w.heap.size (fillAt L (N * 8) j) ∧ Below w.heap.size w wr) (fun _ nv _ => (intOf nv).toNat)
  case atStart =>
    refine ⟨0, L - 1, by congr 1; omega, by congr 1; simp, by omega, by omega, ?_, (Upd.set _ _ _ _).below HA1.out.2 HA1.out.2.size (Nat.le_refl _)⟩
    have := HA1.out.1.set 0 128
    have e : (List.replicate L (0 : Int)).set 0 128 = fillAt L (N * 8) 0 := by
      obtain ⟨q, rfl⟩ : ∃ q, L = q + 1 := ⟨L - 1, by omega⟩
      simp [fillAt, be, List.replicate_succ]
    rw [e] at this; exact this
  case round =>
    obtain ⟨j, p, rfl, rfl, hpj, hj7, hA, hBw⟩ := hrel
    obtain ⟨x, hx⟩ : ∃ x, N * 8 / 256 ^ j = x := ⟨_, rfl⟩
    have hxs : x ≤ 8796093022208 := by rw [← hx]; exact Nat.le_trans (Nat.div_le_self _ _) (by omega)
    have HX : Hid (N * 8 / 256 ^ j = x) := hx
    have HN : Hid (Arr .u8 5 wr w.heap.size (fillAt L (N * 8) j) ∧ Below w.heap.size w wr) := ⟨hA, hBw⟩
    simp only [hx]
    by_cases hpos : 0 < x
    · have hj : j < 7 := small8 (m := N * 8) (by omega) (by rw [hx]; exact hpos)
      have hlen := fillAt_len (L := L) (m := N * 8) (j := j) (by omega)
      have hc1 := hA.cell p (by omega)
      have hf1 := hA.frozen p
      obtain ⟨o, ho⟩ : ∃ o, (fillAt L (N * 8) j).getD p 0 = o := ⟨_, rfl⟩
      rw [ho] at hc1
      have hpL : (p : Int) < (L : Int) := by omega
      have hp1 : (1 : Int) ≤ (p : Int) := by omega
      have hposI : (0 : Int) < (x : Int) := by omega
      clear hx ho hA hBw hlen hc0 hf0
      go_wp2
      go_roundw
      case rel =>
        obtain ⟨hA, hBw⟩ := HN.out
        refine ⟨j + 1, p - 1, by congr 1; omega, ?_, by omega, by omega, ?_, (Upd.set _ _ _ _).below hBw hBw.size (Nat.le_refl _)⟩
        · rw [Nat.pow_succ, ← Nat.div_div_eq_div_mul, HX.out]; rfl
        · have := hA.set p ((x % 256 : Nat) : Int)
          have e := fillAt_set (L := L) (m := N * 8) (j := j) (by omega)
          rw [HX.out, show L - 1 - j = p by omega] at e
          rw [e] at this
          exact this
      case measure => simp [intOf]; omega
    · have hx0 : x = 0 := by omega
      subst hx0
      have HE : Hid (fillAt L (N * 8) j = fill N 128) := by rw [← HL.out]; exact fillAt_end (by omega) (by omega) HX.out
      clear hx hA hBw hc0 hf0
      go_wp2
      go_ret
      exact ⟨rfl, by rw [← HE.out]; exact HN.out.1, HN.out.2⟩

theorem filling_any {w : World} (N B : Nat) (hN : N ≤ 1099511627776) (hB : B = 64 ∨ B = 128) :
    Calls Tryd.prog 40 #[.int .i64 N, .int .i64 B] w fun e w' => e = .returned (.slice (some ⟨w.heap.size, 0, none⟩) (fillLen N B) (fillLen N B)) ∧ Arr .u8 5 w' w.heap.size (fill N B) ∧ Below w.heap.size w w' := by
  rcases hB with rfl | rfl
  · exact filling_64 N hN
  · exact filling_128 N hN
end Go.Proofs.YtgipmjpkaemdkaaDoor
