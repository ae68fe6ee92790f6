/-
  Digest: filling: the bytes that fill up a message.
-/
import Derived.Test.YtjmiaakfdclfjaaGreatDoorK19
namespace Go.Proofs.YtjmiaakfdclfjaaGreatDoor.Sh
open Go.RowKit
set_option maxRecDepth 20000
theorem Tryz.info8 : (Tryz.prog.info? 5).map (fun i => (i.zero, i.size, i.bytes)) = some (some (.int .u8 0), 1, 1) := by kernel_rfl
/-- What stands in the slice behind j rounds. -/
def fillAt (L m j : Nat) : List Int := 128 :: (List.replicate (L - 1 - j) 0 ++ be j m)
theorem fillAt_len {L m j : Nat} (h : j + 1 ≤ L) : (fillAt L m j).length = L := by simp [fillAt, be_len]; omega
theorem fillAt_set {L m j : Nat} (h : j + 2 ≤ L) : (fillAt L m j).set (L - 1 - j) ((m / 256 ^ j % 256 : Nat) : Int) = fillAt L m (j + 1) := by
  obtain ⟨p, hp⟩ : ∃ p, L - 1 - j = p + 1 := ⟨L - 2 - j, by omega⟩
  unfold fillAt
  rw [hp, show L - 1 - (j + 1) = p by omega, List.set_cons_succ, List.replicate_succ', List.append_assoc, List.set_append_right _ _ (by simp), List.length_replicate, Nat.sub_self]
  rfl
theorem fillAt_end {N B j : Nat} (hB : B = 64 ∨ B = 128) (hj : j ≤ 8) (h : N * 8 / 256 ^ j = 0) : fillAt (fillLen N B) (N * 8) j = fill N B := by
  have h1 : (N + B / 8) % B < B := Nat.mod_lt _ (by omega)
  unfold fillAt fill
  rw [show B / 8 = (B / 8 - j) + j by omega, be_high (N * 8) (B / 8 - j) j h, ← List.append_assoc, List.replicate_append_replicate]
  congr 3
  unfold fillLen; omega
theorem small8 {m j : Nat} (hm : m < 256 ^ 7) (h : 0 < m / 256 ^ j) : j < 7 := by
  refine Decidable.byContradiction fun hj => ?_
  have : 256 ^ 7 ≤ 256 ^ j := Nat.pow_le_pow_right (by decide) (by omega)
  rw [Nat.div_eq_of_lt (by omega)] at h; omega

set_option maxHeartbeats 1000000 in
theorem filling_64 {w : World} (N : Nat) (hN : N ≤ 1099511627776) :
    Calls Tryz.prog 84 #[.int .i64 N, .int .i64 64] w fun e w' => e = .returned (.slice (some ⟨w.heap.size, 0, none⟩) (fillLen N 64) (fillLen N 64)) ∧ Arr .u8 5 w' w.heap.size (fill N 64) ∧ Below w.heap.size w w' := by
  obtain ⟨L, hL⟩ : ∃ L, fillLen N 64 = L := ⟨_, rfl⟩
  have hLe : L = 64 - (N + 8) % 64 + 8 := by rw [← hL]; rfl
  have HL : Hid (fillLen N 64 = L) := hL
  have hLb : 8 + 1 ≤ L ∧ L ≤ 200 := by have := Nat.mod_lt (N + 8) (show 0 < 64 by decide); omega
  have HLI : Hid (64 - ((N : Int) + 8) % 64 + 8 = (L : Int)) := by have := Nat.mod_lt (N + 8) (show 0 < 64 by decide); show (64 - ((N : Int) + 8) % 64 + 8 = (L : Int)); omega
  rw [hL]
  clear hL hLe
  go_enter Tryz.func84, Tryz.ntmps84
  go_wp2_with (refine wpList_mk w rfl (.tmp 19) (.tmp 19) 22 rfl .u8 5 1 Tryz.und8 Tryz.info8 _ L rfl rfl HLI.out (by omega) (by omega) ?_; intro w1 hA1 hB1; have HA1 : Hid (Arr .u8 5 w1 w.heap.size (List.replicate L 0) ∧ Below w.heap.size w w1) := ⟨hA1, hB1⟩; have hc0 : w1.cell? ⟨w.heap.size, 0, none⟩ = some (.int .u8 0) := (by have h0 := hA1.cell 0 (by simp; omega); rw [h0]; simp [show 0 < L by omega]); have hf0 : w1.frozen? ⟨w.heap.size, 0, none⟩ = false := hA1.frozen 0; clear hA1 hB1)
  go_loopw [7, 8] (fun iv nv wr => ∃ (j p : Nat), iv = .int .i64 p ∧ nv = .int .u64 ((N * 8 / 256 ^ j : Nat) : Int) ∧ p + j + 1 = L ∧ j ≤ 7 ∧ Arr .u8 5 wr w.heap.size (fillAt L (N * 8) j) ∧ Below w.heap.size w wr) (fun _ nv _ => (intOf nv).toNat)
  case atStart =>
    refine ⟨0, L - 1, by congr 1; omega, by congr 1; simp, by omega, by omega, ?_, (Upd.set _ _ _ _).below HA1.out.2 HA1.out.2.size (Nat.le_refl _)⟩
    have := HA1.out.1.set 0 128
    have e : (List.replicate L (0 : Int)).set 0 128 = fillAt L (N * 8) 0 := by
      obtain ⟨q, rfl⟩ : ∃ q, L = q + 1 := ⟨L - 1, by omega⟩
      simp [fillAt, be, List.replicate_succ]
    rw [e] at this; exact this
  case round =>
    obtain ⟨j, p, rfl, rfl, hpj, hj7, hA, hBw⟩ := hrel
    obtain ⟨x, hx⟩ : ∃ x, N * 8 / 256 ^ j = x := ⟨_, rfl⟩
    have hxs : x ≤ 8796093022208 := by rw [← hx]; exact Nat.le_trans (Nat.div_le_self _ _) (by omega)
    have HX : Hid (N * 8 / 256 ^ j = x) := hx
    have HN : Hid (Arr .u8 5 wr w.heap.size (fillAt L (N * 8) j) ∧ Below w.heap.size w wr) := ⟨hA, hBw⟩
    simp only [hx]
    by_cases hpos : 0 < x
    · have hj : j < 7 := small8 (m := N * 8) (by omega) (by rw [hx]; exact hpos)
      have hlen := fillAt_len (L := L) (m := N * 8) (j := j) (by omega)
      have hc1 := hA.cell p (by omega)
      have hf1 := hA.frozen p
      obtain ⟨o, ho⟩ : ∃ o, (fillAt L (N * 8) j).getD p 0 = o := ⟨_, rfl⟩
      rw [ho] at hc1
      have hpL : (p : Int) < (L : Int) := by omega
      have hp1 : (1 : Int) ≤ (p : Int) := by omega
      have hposI : (0 : Int) < (x : Int) := by omega
      clear hx ho hA hBw hlen hc0 hf0
      go_wp2
      go_roundw
      case rel =>
        obtain ⟨hA, hBw⟩ := HN.out
        refine ⟨j + 1, p - 1, by congr 1; omega, ?_, by omega, by omega, ?_, (Upd.set _ _ _ _).below hBw hBw.size (Nat.le_refl _)⟩
        · rw [Nat.pow_succ, ← Nat.div_div_eq_div_mul, HX.out]; rfl
        · have := hA.set p ((x % 256 : Nat) : Int)
          have e := fillAt_set (L := L) (m := N * 8) (j := j) (by omega)
          rw [HX.out, show L - 1 - j = p by omega] at e
          rw [e] at this
          exact this
      case measure => simp [intOf]; omega
    · have hx0 : x = 0 := by omega
      subst hx0
      have HE : Hid (fillAt L (N * 8) j = fill N 64) := by rw [← HL.out]; exact fillAt_end (by omega) (by omega) HX.out
      clear hx hA hBw hc0 hf0
      go_wp2
      go_ret
      exact ⟨rfl, by rw [← HE.out]; exact HN.out.1, HN.out.2⟩

set_option maxHeartbeats 1000000 in
theorem filling_128 {w : World} (N : Nat) (hN : N ≤ 1099511627776) :
    Calls Tryz.prog 84 #[.int .i64 N, .int .i64 128] w fun e w' => e = .returned (.slice (some ⟨w.heap.size, 0, none⟩) (fillLen N 128) (fillLen N 128)) ∧ Arr .u8 5 w' w.heap.size (fill N 128) ∧ Below w.heap.size w w' := by
  obtain ⟨L, hL⟩ : ∃ L, fillLen N 128 = L := ⟨_, rfl⟩
  have hLe : L = 128 - (N + 16) % 128 + 16 := by rw [← hL]; rfl
  have HL : Hid (fillLen N 128 = L) := hL
  have hLb : 16 + 1 ≤ L ∧ L ≤ 200 := by have := Nat.mod_lt (N + 16) (show 0 < 128 by decide); omega
  have HLI : Hid (128 - ((N : Int) + 16) % 128 + 16 = (L : Int)) := by have := Nat.mod_lt (N + 16) (show 0 < 128 by decide); show (128 - ((N : Int) + 16) % 128 + 16 = (L : Int)); omega
  rw [hL]
  clear hL hLe
  go_enter Tryz.func84, Tryz.ntmps84
  go_wp2_with (refine wpList_mk w rfl (.tmp 19) (.tmp 19) 22 rfl .u8 5 1 Tryz.und8 Tryz.info8 _ L rfl rfl HLI.out (by omega) (by omega) ?_; intro w1 hA1 hB1; have HA1 : Hid (Arr .u8 5 w1 w.heap.size (List.replicate L 0) ∧ Below w.heap.size w w1) := ⟨hA1, hB1⟩; have hc0 : w1.cell? ⟨w.heap.size, 0, none⟩ = some (.int .u8 0) := (by have h0 := hA1.cell 0 (by simp; omega); rw [h0]; simp [show 0 < L by omega]); have hf0 : w1.frozen? ⟨w.heap.size, 0, none⟩ = false := hA1.frozen 0; clear hA1 hB1)
  go_loopw [7, 8] (fun iv nv wr => ∃ (j p : Nat), iv = .int .i64 p ∧ nv = .int .u64 ((N * 8 / 256 ^ j : Nat) : Int) ∧ p + j + 1 = L ∧ j ≤ 7 ∧ Arr .u8 5 wr w.heap.size (fillAt L (N * 8) j) ∧ Below w.heap.size w wr) (fun _ nv _ => (intOf nv).toNat)
  case atStart =>
    refine ⟨0, L - 1, by congr 1; omega, by congr 1; simp, by omega, by omega, ?_, (Upd.set _ _ _ _).below HA1.out.2 HA1.out.2.size (Nat.le_refl _)⟩
    have := HA1.out.1.set 0 128
    have e : (List.replicate L (0 : Int)).set 0 128 = fillAt L (N * 8) 0 := by
      obtain ⟨q, rfl⟩ : ∃ q, L = q + 1 := ⟨L - 1, by omega⟩
      simp [fillAt, be, List.replicate_succ]
    rw [e] at this; exact this
  case round =>
    obtain ⟨j, p, rfl, rfl, hpj, hj7, hA, hBw⟩ := hrel
    obtain ⟨x, hx⟩ : ∃ x, N * 8 / 256 ^ j = x := ⟨_, rfl⟩
    have hxs : x ≤ 8796093022208 := by rw [← hx]; exact Nat.le_trans (Nat.div_le_self _ _) (by omega)
    have HX : Hid (N * 8 / 256 ^ j = x) := hx
    have HN : Hid (Arr .u8 5 wr w.heap.size (fillAt L (N * 8) j) ∧ Below w.heap.size w wr) := ⟨hA, hBw⟩
    simp only [hx]
    by_cases hpos : 0 < x
    · have hj : j < 7 := small8 (m := N * 8) (by omega) (by rw [hx]; exact hpos)
      have hlen := fillAt_len (L := L) (m := N * 8) (j := j) (by omega)
      have hc1 := hA.cell p (by omega)
      have hf1 := hA.frozen p
      obtain ⟨o, ho⟩ : ∃ o, (fillAt L (N * 8) j).getD p 0 = o := ⟨_, rfl⟩
      rw [ho] at hc1
      have hpL : (p : Int) < (L : Int) := by omega
      have hp1 : (1 : Int) ≤ (p : Int) := by omega
      have hposI : (0 : Int) < (x : Int) := by omega
      clear hx ho hA hBw hlen hc0 hf0
      go_wp2
      go_roundw
      case rel =>
        obtain ⟨hA, hBw⟩ := HN.out
        refine ⟨j + 1, p - 1, by congr 1; omega, ?_, by omega, by omega, ?_, (Upd.set _ _ _ _).below hBw hBw.size (Nat.le_refl _)⟩
        · rw [Nat.pow_succ, ← Nat.div_div_eq_div_mul, HX.out]; rfl
        · have := hA.set p ((x % 256 : Nat) : Int)
          have e := fillAt_set (L := L) (m := N * 8) (j := j) (by omega)
          rw [HX.out, show L - 1 - j = p by omega] at e
          rw [e] at this
          exact this
      case measure => simp [intOf]; omega
    · have hx0 : x = 0 := by omega
      subst hx0
      have HE : Hid (fillAt L (N * 8) j = fill N 128) := by rw [← HL.out]; exact fillAt_end (by omega) (by omega) HX.out
      clear hx hA hBw hc0 hf0
      go_wp2
      go_ret
      exact ⟨rfl, by rw [← HE.out]; exact HN.out.1, HN.out.2⟩

theorem filling_any {w : World} (N B : Nat) (hN : N ≤ 1099511627776) (hB : B = 64 ∨ B = 128) :
    Calls Tryz.prog 84 #[.int .i64 N, .int .i64 B] w fun e w' => e = .returned (.slice (some ⟨w.heap.size, 0, none⟩) (fillLen N B) (fillLen N B)) ∧ Arr .u8 5 w' w.heap.size (fill N B) ∧ Below w.heap.size w w' := by
  rcases hB with rfl | rfl
  · exact filling_64 N hN
  · exact filling_128 N hN
end Go.Proofs.YtjmiaakfdclfjaaGreatDoor.Sh
/-
  Digest: state: the state's bytes.
-/
namespace Go.Proofs.YtjmiaakfdclfjaaGreatDoor.Sh
open Go.RowKit
set_option maxRecDepth 20000
variable {HT : TypeId}
theorem R8.at {U : Int → Prop} {r : R8} (h : r.ok U) (i : Nat) (hi : i < 8) : U (r.list.getD i 0) := by
  obtain ⟨h0, h1, h2, h3, h4, h5, h6, h7⟩ := h
  match i, hi with
  | 0, _ => exact h0
  | 1, _ => exact h1
  | 2, _ => exact h2
  | 3, _ => exact h3
  | 4, _ => exact h4
  | 5, _ => exact h5
  | 6, _ => exact h6
  | 7, _ => exact h7
theorem Hs.cell_words {w : World} {g : Nat} {h : Hs} (hb : Blk HT w g h.cells) (i : Nat) (hi : i < 8) : w.cell? ⟨g, 2 + i, none⟩ = some (.int .u32 (h.words.list.getD i 0)) := by
  have h8 : h.words.list.length = 8 := rfl
  rw [hb.cell, show 2 + i = i + 2 by omega]
  simp only [Hs.cells, List.getElem?_cons_succ]
  rw [List.getElem?_append_left (by simp [h8, hi])]
  simp [h8, hi]
theorem Hs.cell_wide {w : World} {g : Nat} {h : Hs} (hb : Blk HT w g h.cells) (i : Nat) (hi : i < 8) : w.cell? ⟨g, 10 + i, none⟩ = some (.int .u64 (h.wide.list.getD i 0)) := by
  have h8 : h.words.list.length = 8 := rfl
  have h9 : h.wide.list.length = 8 := rfl
  rw [hb.cell, show 10 + i = (i + 8) + 2 by omega]
  simp only [Hs.cells, List.getElem?_cons_succ]
  rw [List.getElem?_append_right (by simp [h8]), List.getElem?_append_left (by simp [h8, h9, hi])]
  simp [h8, h9, hi]
theorem out_set (alg : Int) (s : St) (i n : Nat) (hi : i < siz alg) (x : Int) (hx : x = outB alg s i) (hn : n = siz alg) :
    ((out alg s).take i ++ List.replicate (n - i) 0).set i x = (out alg s).take (i + 1) ++ List.replicate (n - (i + 1)) 0 := by
  subst hn
  have h1 : ((out alg s).take i).length = i := by rw [List.length_take, out_len]; omega
  rw [List.set_append_right _ _ (by omega), h1, Nat.sub_self, show siz alg - i = (siz alg - (i + 1)) + 1 by omega, List.replicate_succ, List.set_cons_zero, List.take_succ_eq_append_getElem (by rw [out_len]; exact hi), List.append_assoc, hx]
  simp [out]

set_option maxHeartbeats 1000000 in
theorem state_64 {w : World} (h : Hs) (hk : h.ok) (g : Nat) (hG : Blk HT w g h.cells) (hB : blk h.alg = 64) (hsz : siz h.alg ≤ 32) :
    Calls Tryz.prog 85 #[.pointer (some ⟨g, 0, none⟩)] w fun e w' => e = .returned (.slice (some ⟨w.heap.size, 0, none⟩) (siz h.alg) (siz h.alg)) ∧ Arr .u8 5 w' w.heap.size (out h.alg ⟨h.words, h.wide⟩) ∧ Below w.heap.size w w' := by
  obtain ⟨alg, hae⟩ : ∃ a, h.alg = a := ⟨_, rfl⟩
  have hc0 : w.cell? ⟨g, 0, none⟩ = some (.int .i64 alg) := by rw [← hae]; exact hG.cell 0
  rw [hae] at hB hsz
  rw [hae]
  have HBl : Hid (∀ w' : World, Calls Tryz.prog 82 #[.int .i64 alg] w' fun e w'' => e = .returned (.int .i64 64) ∧ w' = w'') := fun w' => (ShaBlock_any alg).mono fun _ _ h => ⟨by rw [h.1, hB]; rfl, h.2.symm⟩
  obtain ⟨sz, hse⟩ : ∃ s, siz alg = s := ⟨_, rfl⟩
  have HSz : Hid (∀ w' : World, Calls Tryz.prog 48 #[.int .i64 alg] w' fun e w'' => e = .returned (.int .i64 sz) ∧ w' = w'') := fun w' => (ShaSize_any alg).mono fun _ _ h => ⟨by rw [h.1, hse], h.2.symm⟩
  rw [hse] at hsz
  rw [hse]
  have HG : Hid (Blk HT w g h.cells) := hG
  have hgl := hG.lt
  have HO : Hid (∀ i, outB alg ⟨h.words, h.wide⟩ i = h.words.list.getD (i / 4) 0 / 2 ^ (24 - i % 4 * 8) % 256) := fun i => by unfold outB; rw [hB]; rfl
  have HE : Hid (siz alg = sz) := hse
  clear hse hae hG hB
  go_enter Tryz.func85, Tryz.ntmps85
  go_wp2_with (first
    | (go_at_call 48; refine (HSz.out _).mono ?_; rintro e w' ⟨rfl, rfl⟩)
    | (refine wpList_mk w rfl (.tmp 9) (.tmp 9) 22 rfl .u8 5 1 Tryz.und8 Tryz.info8 _ sz rfl rfl rfl (by omega) (by omega) ?_; intro w1 hA1 hB1; have HA1 : Hid (Arr .u8 5 w1 w.heap.size (List.replicate sz 0) ∧ Below w.heap.size w w1) := ⟨hA1, hB1⟩; clear hA1 hB1))
  go_loopw [13] (fun iv wr => ∃ i : Nat, iv = .int .i64 i ∧ i ≤ sz ∧ Arr .u8 5 wr w.heap.size ((out alg ⟨h.words, h.wide⟩).take i ++ List.replicate (sz - i) 0) ∧ Below w.heap.size w wr) (fun iv _ => sz - (intOf iv).toNat)
  case atStart => exact ⟨0, rfl, by omega, by simpa using HA1.out.1, HA1.out.2⟩
  case round =>
    obtain ⟨i, rfl, hi, hA, hBw⟩ := hrel
    by_cases hlt : i < sz
    · have hGr := below_blk hBw hgl HG.out
      have hc0r : wr.cell? ⟨g, 0, none⟩ = some (.int .i64 alg) := by rw [hBw.cell (p := ⟨g, 0, none⟩) hgl]; exact hc0
      obtain ⟨y, hy⟩ : ∃ y : Nat, i / 4 = y := ⟨_, rfl⟩
      obtain ⟨z, hz⟩ : ∃ z : Nat, i % 4 = z := ⟨_, rfl⟩
      have hy' : ((i : Int) / 4) = y := by omega
      have hz' : ((i : Int) % 4) = z := by omega
      have hy8 : y < 8 := by omega
      have hz4 : z < 4 := by omega
      obtain ⟨sh, hsh⟩ : ∃ s : Nat, 24 - z * 8 = s := ⟨_, rfl⟩
      have hsh' : (24 : Int) - (z : Int) * 8 = sh := by omega
      have hsb : sh ≤ 24 := by omega
      have hcx := h.cell_words hGr y hy8
      have hux := R8.at hk.words y hy8
      have HV := HO.out i
      rw [hy, hz, hsh] at HV
      obtain ⟨x, hx⟩ : ∃ x, h.words.list.getD y 0 = x := ⟨_, rfl⟩
      rw [hx] at hcx hux HV
      have HV2 : Hid (outB alg ⟨h.words, h.wide⟩ i = x / 2 ^ sh % 256) := HV
      obtain ⟨hx0, hx1⟩ := hux
      have hlen : ((out alg ⟨h.words, h.wide⟩).take i ++ List.replicate (sz - i) (0 : Int)).length = sz := by rw [List.length_append, List.length_take, out_len, HE.out, List.length_replicate]; omega
      have hco := hA.cell i (by omega)
      have hfo := hA.frozen i
      obtain ⟨o, ho⟩ : ∃ o, ((out alg ⟨h.words, h.wide⟩).take i ++ List.replicate (sz - i) (0 : Int)).getD i 0 = o := ⟨_, rfl⟩
      rw [ho] at hco
      have HN : Hid (Arr .u8 5 wr w.heap.size ((out alg ⟨h.words, h.wide⟩).take i ++ List.replicate (sz - i) 0) ∧ Below w.heap.size w wr) := ⟨hA, hBw⟩
      have hiI : (i : Int) < (sz : Int) := by omega
      have hyI : (y : Int) < 8 := by omega
      clear HV hx ho hA hBw hlen hy hz hsh hGr
      go_wp2_with (go_at_call 82; refine (HBl.out _).mono ?_; rintro e w' ⟨rfl, rfl⟩)
      obtain ⟨hA, hBw⟩ := HN.out
      refine ⟨⟨i + 1, by go_num, by omega, ?_, (Upd.set _ _ _ _).below hBw hBw.size (Nat.le_refl _)⟩, by simp [intOf]; omega⟩
      have := hA.set i (x / 2 ^ sh % 256)
      rw [out_set alg _ i sz (by rw [HE.out]; exact hlt) _ HV2.out.symm HE.out.symm] at this
      exact this
    · obtain rfl : i = sz := by omega
      clear hc0
      go_wp2
      go_ret
      refine ⟨rfl, ?_, hBw⟩
      rw [List.take_of_length_le (by rw [out_len, HE.out]; omega), Nat.sub_self, List.replicate_zero, List.append_nil] at hA
      exact hA

set_option maxHeartbeats 1000000 in
theorem state_128 {w : World} (h : Hs) (hk : h.ok) (g : Nat) (hG : Blk HT w g h.cells) (hB : blk h.alg = 128) (hsz : siz h.alg ≤ 64) :
    Calls Tryz.prog 85 #[.pointer (some ⟨g, 0, none⟩)] w fun e w' => e = .returned (.slice (some ⟨w.heap.size, 0, none⟩) (siz h.alg) (siz h.alg)) ∧ Arr .u8 5 w' w.heap.size (out h.alg ⟨h.words, h.wide⟩) ∧ Below w.heap.size w w' := by
  obtain ⟨alg, hae⟩ : ∃ a, h.alg = a := ⟨_, rfl⟩
  have hc0 : w.cell? ⟨g, 0, none⟩ = some (.int .i64 alg) := by rw [← hae]; exact hG.cell 0
  rw [hae] at hB hsz
  rw [hae]
  have HBl : Hid (∀ w' : World, Calls Tryz.prog 82 #[.int .i64 alg] w' fun e w'' => e = .returned (.int .i64 128) ∧ w' = w'') := fun w' => (ShaBlock_any alg).mono fun _ _ h => ⟨by rw [h.1, hB]; rfl, h.2.symm⟩
  obtain ⟨sz, hse⟩ : ∃ s, siz alg = s := ⟨_, rfl⟩
  have HSz : Hid (∀ w' : World, Calls Tryz.prog 48 #[.int .i64 alg] w' fun e w'' => e = .returned (.int .i64 sz) ∧ w' = w'') := fun w' => (ShaSize_any alg).mono fun _ _ h => ⟨by rw [h.1, hse], h.2.symm⟩
  rw [hse] at hsz
  rw [hse]
  have HG : Hid (Blk HT w g h.cells) := hG
  have hgl := hG.lt
  have HO : Hid (∀ i, outB alg ⟨h.words, h.wide⟩ i = h.wide.list.getD (i / 8) 0 / 2 ^ (56 - i % 8 * 8) % 256) := fun i => by unfold outB; rw [hB]; rfl
  have HE : Hid (siz alg = sz) := hse
  clear hse hae hG hB
  go_enter Tryz.func85, Tryz.ntmps85
  go_wp2_with (first
    | (go_at_call 48; refine (HSz.out _).mono ?_; rintro e w' ⟨rfl, rfl⟩)
    | (refine wpList_mk w rfl (.tmp 9) (.tmp 9) 22 rfl .u8 5 1 Tryz.und8 Tryz.info8 _ sz rfl rfl rfl (by omega) (by omega) ?_; intro w1 hA1 hB1; have HA1 : Hid (Arr .u8 5 w1 w.heap.size (List.replicate sz 0) ∧ Below w.heap.size w w1) := ⟨hA1, hB1⟩; clear hA1 hB1))
  go_loopw [13] (fun iv wr => ∃ i : Nat, iv = .int .i64 i ∧ i ≤ sz ∧ Arr .u8 5 wr w.heap.size ((out alg ⟨h.words, h.wide⟩).take i ++ List.replicate (sz - i) 0) ∧ Below w.heap.size w wr) (fun iv _ => sz - (intOf iv).toNat)
  case atStart => exact ⟨0, rfl, by omega, by simpa using HA1.out.1, HA1.out.2⟩
  case round =>
    obtain ⟨i, rfl, hi, hA, hBw⟩ := hrel
    by_cases hlt : i < sz
    · have hGr := below_blk hBw hgl HG.out
      have hc0r : wr.cell? ⟨g, 0, none⟩ = some (.int .i64 alg) := by rw [hBw.cell (p := ⟨g, 0, none⟩) hgl]; exact hc0
      obtain ⟨y, hy⟩ : ∃ y : Nat, i / 8 = y := ⟨_, rfl⟩
      obtain ⟨z, hz⟩ : ∃ z : Nat, i % 8 = z := ⟨_, rfl⟩
      have hy' : ((i : Int) / 8) = y := by omega
      have hz' : ((i : Int) % 8) = z := by omega
      have hy8 : y < 8 := by omega
      have hz4 : z < 8 := by omega
      obtain ⟨sh, hsh⟩ : ∃ s : Nat, 56 - z * 8 = s := ⟨_, rfl⟩
      have hsh' : (56 : Int) - (z : Int) * 8 = sh := by omega
      have hsb : sh ≤ 56 := by omega
      have hcx := h.cell_wide hGr y hy8
      have hux := R8.at hk.wide y hy8
      have HV := HO.out i
      rw [hy, hz, hsh] at HV
      obtain ⟨x, hx⟩ : ∃ x, h.wide.list.getD y 0 = x := ⟨_, rfl⟩
      rw [hx] at hcx hux HV
      have HV2 : Hid (outB alg ⟨h.words, h.wide⟩ i = x / 2 ^ sh % 256) := HV
      obtain ⟨hx0, hx1⟩ := hux
      have hlen : ((out alg ⟨h.words, h.wide⟩).take i ++ List.replicate (sz - i) (0 : Int)).length = sz := by rw [List.length_append, List.length_take, out_len, HE.out, List.length_replicate]; omega
      have hco := hA.cell i (by omega)
      have hfo := hA.frozen i
      obtain ⟨o, ho⟩ : ∃ o, ((out alg ⟨h.words, h.wide⟩).take i ++ List.replicate (sz - i) (0 : Int)).getD i 0 = o := ⟨_, rfl⟩
      rw [ho] at hco
      have HN : Hid (Arr .u8 5 wr w.heap.size ((out alg ⟨h.words, h.wide⟩).take i ++ List.replicate (sz - i) 0) ∧ Below w.heap.size w wr) := ⟨hA, hBw⟩
      have hiI : (i : Int) < (sz : Int) := by omega
      have hyI : (y : Int) < 8 := by omega
      clear HV hx ho hA hBw hlen hy hz hsh hGr
      go_wp2_with (go_at_call 82; refine (HBl.out _).mono ?_; rintro e w' ⟨rfl, rfl⟩)
      obtain ⟨hA, hBw⟩ := HN.out
      refine ⟨⟨i + 1, by go_num, by omega, ?_, (Upd.set _ _ _ _).below hBw hBw.size (Nat.le_refl _)⟩, by simp [intOf]; omega⟩
      have := hA.set i (x / 2 ^ sh % 256)
      rw [out_set alg _ i sz (by rw [HE.out]; exact hlt) _ HV2.out.symm HE.out.symm] at this
      exact this
    · obtain rfl : i = sz := by omega
      clear hc0
      go_wp2
      go_ret
      refine ⟨rfl, ?_, hBw⟩
      rw [List.take_of_length_le (by rw [out_len, HE.out]; omega), Nat.sub_self, List.replicate_zero, List.append_nil] at hA
      exact hA

theorem siz_le (alg : Int) : siz alg ≤ 64 := by unfold siz; repeat' split <;> try omega
theorem state_any {w : World} (h : Hs) (hk : h.ok) (ha : Alg h.alg) (g : Nat) (hG : Blk HT w g h.cells) :
    Calls Tryz.prog 85 #[.pointer (some ⟨g, 0, none⟩)] w fun e w' => e = .returned (.slice (some ⟨w.heap.size, 0, none⟩) (siz h.alg) (siz h.alg)) ∧ Arr .u8 5 w' w.heap.size (out h.alg ⟨h.words, h.wide⟩) ∧ Below w.heap.size w w' := by
  have h1 := siz_le h.alg
  rcases ha with e | e | e | e
  · exact state_64 h hk g hG (by rw [e]; rfl) (by rw [e]; decide)
  · exact state_64 h hk g hG (by rw [e]; rfl) (by rw [e]; decide)
  · exact state_128 h hk g hG (by rw [e]; rfl) h1
  · exact state_128 h hk g hG (by rw [e]; rfl) h1
end Go.Proofs.YtjmiaakfdclfjaaGreatDoor.Sh
/-
  Digest: New, Write, Sum, Len, Alg of a Hash.
-/
namespace Go.Proofs.YtjmiaakfdclfjaaGreatDoor.Sh
open Go.RowKit
set_option maxRecDepth 20000
/-- Block g is a Hash of that algorithm that was handed the message. -/
def HashIs (w : World) (g : Nat) (alg : Int) (msg : List Int) : Prop := ∃ (HT : TypeId) (h : Hs), Blk HT w g h.cells ∧ h.ok ∧ Inv alg h msg
theorem HashIs.lt {w : World} {g : Nat} {alg : Int} {msg : List Int} (h : HashIs w g alg msg) : g < w.heap.size := by obtain ⟨_, _, h, _⟩ := h; exact h.lt
theorem HashIs.below {w w' : World} {g B : Nat} {alg : Int} {msg : List Int} (h : HashIs w g alg msg) (hb : Below B w w') (hg : g < B) : HashIs w' g alg msg := by
  obtain ⟨HT, s, h1, h2⟩ := h; exact ⟨HT, s, below_blk hb hg h1, h2⟩
theorem HashIs.upd {w w' : World} {g b : Nat} {alg : Int} {msg : List Int} (h : HashIs w g alg msg) (hu : Upd w w' b) (hg : g ≠ b) : HashIs w' g alg msg := by
  obtain ⟨HT, s, h1, h2⟩ := h; exact ⟨HT, s, hu.blk h1 hg, h2⟩
theorem HashIs.drewN {w : World} {g : Nat} {alg : Int} {msg : List Int} (h : HashIs w g alg msg) (n : Nat) : HashIs (w.drewN n) g alg msg := h
theorem blk_alg {alg : Int} (h : Alg alg) : ¬ (blk alg : Int) = 0 := by rcases h.blk_pos with e | e <;> rw [e] <;> decide
theorem ShaLen_any {w : World} (g : Nat) (alg : Int) (msg : List Int) (h : HashIs w g alg msg) :
    Calls Tryz.prog 81 #[.pointer (some ⟨g, 0, none⟩)] w fun e w' => e = .returned (.int .i64 msg.length) ∧ w' = w := by
  obtain ⟨HT, s, h1, h2, h3⟩ := h
  have hc1 : w.cell? ⟨g, 1, none⟩ = some (.int .i64 msg.length) := by rw [← h3.totalE]; exact h1.cell 1
  clear h1 h2 h3
  go_enter Tryz.func81, Tryz.ntmps81
  go_wp2
  go_ret
  exact ⟨rfl, rfl⟩
set_option maxHeartbeats 1000000 in
theorem Write_any {w : World} (g : Nat) (alg : Int) (ha : Alg alg) (msg bs : List Int) (h : HashIs w g alg msg) (hg7 : 8 ≤ g) (hT : Tabs w) (v : Value) (hv : SlX w g v bs) (um : U8s msg) (ub : U8s bs) (hm : msg.length ≤ 16777216) (hn : bs.length ≤ 1099511627776) (hfit : msg.length + bs.length ≤ 16777216) :
    Calls Tryz.prog 56 #[.pointer (some ⟨g, 0, none⟩), v] w fun e w' => e = .returned (.int .i64 0) ∧ HashIs w' g alg (msg ++ bs) ∧ Upd w w' g := by
  have HL : Hid (∀ w', w' = w → Calls Tryz.prog 81 #[.pointer (some ⟨g, 0, none⟩)] w' fun e w'' => e = .returned (.int .i64 msg.length) ∧ w' = w'') := fun w' hw => by subst hw; exact (ShaLen_any g alg msg h).mono fun _ _ h => ⟨h.1, h.2.symm⟩
  obtain ⟨HT, s, h1, h2, h3⟩ := h
  have HTk : Hid (∀ w', w' = w → Calls Tryz.prog _ _ w' _) := fun w' hw => by rw [hw]; exact take_any alg ha s h2 msg bs h3 g h1 hg7 hT v hv um ub (by omega) hn
  obtain ⟨a, c, rfl, hcl, hv⟩ := hv
  obtain ⟨n, hne⟩ : ∃ n, bs.length = n := ⟨_, rfl⟩
  obtain ⟨N, hNe⟩ : ∃ n, msg.length = n := ⟨_, rfl⟩
  rw [hne] at hfit hn hcl HTk
  rw [hNe] at hfit hm HL
  rw [hne]
  clear h1 h2 h3 hv hT hne hNe
  go_enter Tryz.func56, Tryz.ntmps56
  go_wp2_with (first
    | (go_at_call 81; refine (HL.out _ rfl).mono ?_; rintro e w' ⟨rfl, rfl⟩)
    | (go_at_call 60; refine (HTk.out _ rfl).mono ?_; rintro e w2 ⟨rfl, hh, hu⟩; have HH : Hid (HashIs w2 g alg (msg ++ bs) ∧ Upd w w2 g) := ⟨⟨HT, hh⟩, hu⟩; clear hh hu))
  go_ret
  exact ⟨rfl, HH.out⟩
end Go.Proofs.YtjmiaakfdclfjaaGreatDoor.Sh
/-
  Digest: New, and the method Sum.
-/
namespace Go.Proofs.YtjmiaakfdclfjaaGreatDoor.Sh
open Go.RowKit
set_option maxRecDepth 20000
theorem wp_gen {P : Program} {c : Code} {Q : Exit → Act → World → Prop} {a : Act} {W : World} (R : World → Prop) (hR : R W) (h : ∀ W', R W' → Code.wp P c Q a W') : Code.wp P c Q a W := h W hR
theorem Tryz.sizeH : (Tryz.prog.info? 95).map (·.size) = some 146 := by kernel_rfl
theorem Hs.cells_one (h : Hs) : h.cells.toArray.all (·.oneCell') = true := by
  refine all_oneCell_toArray fun v hv => ?_
  simp only [Hs.cells, List.mem_cons, List.mem_append, List.mem_map] at hv
  rcases hv with rfl | rfl | ⟨x, _, rfl⟩ | ⟨x, _, rfl⟩ | ⟨x, _, rfl⟩ <;> rfl
theorem fillLen_le {N B : Nat} (hB : B = 64 ∨ B = 128) : fillLen N B ≤ 144 := by
  unfold fillLen
  rcases hB with rfl | rfl <;> omega
theorem wpList_boxR {P : Program} {ops : Array Oper} {rest : List Oper} {o : Oper} {a : Act} {w : World} {Q : Exit → Act → World → Prop} (hg : o.guard = none) (t : TypeId) (x : Operand) (ho : o.op = .box t x) (cells : Array Value) (hx : a.eval x = .agg cells)
    (h : wpList P ops Q rest (a.put o.dst (.pointer (some ⟨w.heap.size, 0, none⟩))) (w.alloc (.cells cells t))) : wpList P ops Q (o :: rest) a w := by
  refine wpList_plain hg fun K hK => ?_
  unfold Oper.wp execOp
  simp only [ho, hx, Sem.run_bind, Instr.box, newVar, newRow, run_newObj_alloc, Sem.run_pure, Result.andThen_ok]
  exact hK _ _ h
set_option maxRecDepth 4000 in
set_option maxHeartbeats 2000000 in
theorem SumV_any {w : World} (s : Hs) (alg : Int) (ha : Alg alg) (msg : List Int) (hs : s.ok) (hi : Inv alg s msg) (hT : Tabs w) (um : U8s msg) (hm : msg.length ≤ 1000000000) :
    Calls Tryz.prog 61 #[.agg s.cells.toArray] w fun e w' => ∃ d, e = .returned (.slice (some ⟨d, 0, none⟩) (siz alg) (siz alg)) ∧ w.heap.size ≤ d ∧ Arr .u8 5 w' d (dig alg msg) ∧ Below w.heap.size w w' := by
  have hz7 := hT.size
  have HBl : Hid (∀ w' : World, Calls Tryz.prog 82 #[.int .i64 alg] w' fun e w'' => e = .returned (.int .i64 (blk alg)) ∧ w' = w'') := fun w' => (ShaBlock_any alg).mono fun _ _ h => ⟨h.1, h.2.symm⟩
  have hB := ha.blk_pos
  have hb0 : (0 : Int) < (blk alg : Int) := by omega
  have HD : Hid (∀ h' : Hs, Inv alg h' (msg ++ fill msg.length (blk alg)) → out h'.alg ⟨h'.words, h'.wide⟩ = dig alg msg) := fun h' hi => by
    unfold dig
    rw [hi.algE, hi.state, List.length_append, fill_len hB]
  have HS3 : Hid (Inv alg s msg ∧ s.ok ∧ Tabs w) := ⟨hi, hs, hT⟩
  obtain ⟨N, hNe⟩ : ∃ n, msg.length = n := ⟨_, rfl⟩
  rw [hNe] at hm HD
  have HN : Hid (msg.length = N) := hNe
  have HTS : Hid (Blk 95 (w.alloc (.cells s.cells.toArray 95)) w.heap.size s.cells ∧ Below w.heap.size w (w.alloc (.cells s.cells.toArray 95))) := ⟨Blk.new _ w _, (Below.refl _ _).alloc (Nat.le_refl _) _⟩
  clear hs hi hT hNe
  go_enter Tryz.func61, Tryz.ntmps61
  go_upto_region 1 with (refine wpList_boxR rfl 95 (.tmp 0) rfl s.cells.toArray rfl ?_)
  refine wp_gen (fun W2 => Blk 95 W2 w.heap.size s.cells ∧ Below w.heap.size w W2) HTS.out ?_
  rintro W2 ⟨hE, hBE⟩
  have hc0' : W2.cell? ⟨w.heap.size, 0, none⟩ = some (.int .i64 alg) := by rw [← HS3.out.1.algE]; exact hE.cell 0
  have hc1' : W2.cell? ⟨w.heap.size, 1, none⟩ = some (.int .i64 N) := by rw [← HN.out, ← HS3.out.1.totalE]; exact hE.cell 1
  have HE : Hid (Blk 95 W2 w.heap.size s.cells ∧ Below w.heap.size w W2 ∧ w.heap.size < W2.heap.size) := ⟨hE, hBE, hE.lt⟩
  clear hE hBE HTS
  go_wp2_with (first
    | (go_at_call 82; refine (HBl.out _).mono ?_; rintro e w' ⟨rfl, rfl⟩)
    | (go_at_call 84; refine (filling_any N (blk alg) (by omega) hB).mono ?_; rintro e w3 ⟨rfl, hA3, hB3⟩
       have HW3 : Hid (Blk 95 w3 w.heap.size s.cells ∧ Below w.heap.size w w3 ∧ SlX w3 w.heap.size (.slice (some ⟨W2.heap.size, 0, none⟩) (fillLen N (blk alg)) (fillLen N (blk alg))) (fill N (blk alg))) := ⟨below_blk hB3 HE.out.2.2 HE.out.1, HE.out.2.1.trans (hB3.mono (Nat.le_of_lt HE.out.2.2)), ⟨_, _, by rw [fill_len hB], by rw [fill_len hB]; exact Nat.le_refl _, .inr ⟨W2.heap.size, 0, rfl, hA3.lt, by have := HE.out.2.2; omega, by have := hA3.rd 0 (fill N (blk alg)).length (by omega); simpa using this⟩⟩⟩
       clear hA3 hB3)
    | (go_at_call 60; refine (take_any (w := w3) alg ha s HS3.out.2.1 msg (fill N (blk alg)) HS3.out.1 w.heap.size HW3.out.1 hz7 (HS3.out.2.2.below HW3.out.2.1) _ HW3.out.2.2 um (fill_u8 _ _) (by rw [HN.out]; omega) (by rw [fill_len hB]; have := fillLen_le (N := N) hB; omega)).mono ?_; rintro e w4 ⟨rfl, ⟨h', hb4, hok4, hi4⟩, hu4⟩
       have HW4 : Hid (Blk 95 w4 w.heap.size h'.cells ∧ h'.ok ∧ Inv alg h' (msg ++ fill N (blk alg)) ∧ Below w.heap.size w w4) := ⟨hb4, hok4, hi4, hu4.below HW3.out.2.1 HW3.out.2.1.size (Nat.le_refl _)⟩
       clear hb4 hok4 hi4 hu4)
    | (go_at_call 85; refine (state_any (w := w4) h' HW4.out.2.1 (by rw [HW4.out.2.2.1.algE]; exact ha) w.heap.size HW4.out.1).mono ?_; rintro e w5 ⟨rfl, hA5, hB5⟩
       have HW5 : Hid (Arr .u8 5 w5 w4.heap.size (dig alg msg) ∧ Below w.heap.size w w5) := ⟨by rw [← HD.out h' HW4.out.2.2.1]; exact hA5, HW4.out.2.2.2.trans (hB5.mono HW4.out.2.2.2.size)⟩
       rw [HW4.out.2.2.1.algE]
       clear hA5 hB5))
  go_ret
  exact ⟨w4.heap.size, rfl, HW4.out.2.2.2.size, HW5.out⟩
set_option maxHeartbeats 1000000 in
theorem SumM_any {w : World} (g : Nat) (alg : Int) (ha : Alg alg) (msg : List Int) (h : HashIs w g alg msg) (hT : Tabs w) (um : U8s msg) (hm : msg.length ≤ 16777216) :
    Calls Tryz.prog 57 #[.pointer (some ⟨g, 0, none⟩)] w fun e w' => ∃ d, e = .returned (.slice (some ⟨d, 0, none⟩) (siz alg) (siz alg)) ∧ w.heap.size ≤ d ∧ Arr .u8 5 w' d (dig alg msg) ∧ Below w.heap.size w w' := by
  obtain ⟨HT, s, h1, h2, h3⟩ := h
  have HR : Hid (w.rangeAt g 0 s.cells) := h1.whole
  have HSz : Hid ((Tryz.prog.info? 95).map (·.size) = some s.cells.length) := by rw [Hs.cells_len h2.len]; exact Tryz.sizeH
  have HS : Hid (∀ w', w' = w → Calls Tryz.prog _ _ w' _) := fun w' hw => by rw [hw]; exact SumV_any s alg ha msg h2 h3 hT um (by omega)
  clear h1 h2 h3 hT
  go_enter Tryz.func57, Tryz.ntmps57
  go_wp2_with (first
    | (refine wpList_load_mid rfl 95 (.tmp 7) rfl g 0 rfl s.cells _ HR.out Tryz.underlying95 rfl HSz.out ?_)
    | (go_at_call 61; refine (HS.out _ rfl).mono ?_; rintro e w2 ⟨d, rfl, hd, hA, hB⟩; have HH : Hid (w.heap.size ≤ d ∧ Arr .u8 5 w2 d (dig alg msg) ∧ Below w.heap.size w w2) := ⟨hd, hA, hB⟩; clear hd hA hB))
  go_ret
  exact ⟨d, rfl, HH.out⟩
end Go.Proofs.YtjmiaakfdclfjaaGreatDoor.Sh
