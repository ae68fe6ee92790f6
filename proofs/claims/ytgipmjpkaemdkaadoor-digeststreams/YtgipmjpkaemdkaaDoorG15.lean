/-
  Digest: state: the state's bytes.
-/
import Derived.Test.YtgipmjpkaemdkaaDoorG14
namespace Go.Proofs.YtgipmjpkaemdkaaDoor
open Go.RowKit
variable {HT : TypeId}
theorem R8.at {U : Int → Prop} {r : R8} (h : r.ok U) (i : Nat) (hi : i < 8) : U (r.list.getD i 0) := by
  obtain ⟨h0, h1, h2, h3, h4, h5, h6, h7⟩ := h
  match i, hi with
  | 0, _ => exact h0
  | 1, _ => exact h1
  | 2, _ => exact h2
  | 3, _ => exact h3
  | 4, _ => exact h4
  | 5, _ => exact h5
  | 6, _ => exact h6
  | 7, _ => exact h7
theorem Hs.cell_words {w : World} {g : Nat} {h : Hs} (hb : Blk HT w g h.cells) (i : Nat) (hi : i < 8) : w.cell? ⟨g, 2 + i, none⟩ = some (.int .u32 (h.words.list.getD i 0)) := by
  have h8 : h.words.list.length = 8 := rfl
  rw [hb.cell, show 2 + i = i + 2 by omega]
  simp only [Hs.cells, List.getElem?_cons_succ]
  rw [List.getElem?_append_left (by simp [h8, hi])]
  simp [h8, hi]
theorem Hs.cell_wide {w : World} {g : Nat} {h : Hs} (hb : Blk HT w g h.cells) (i : Nat) (hi : i < 8) : w.cell? ⟨g, 10 + i, none⟩ = some (.int .u64 (h.wide.list.getD i 0)) := by
  have h8 : h.words.list.length = 8 := rfl
  have h9 : h.wide.list.length = 8 := rfl
  rw [hb.cell, show 10 + i = (i + 8) + 2 by omega]
  simp only [Hs.cells, List.getElem?_cons_succ]
  rw [List.getElem?_append_right (by simp [h8]), List.getElem?_append_left (by simp [h8, h9, hi])]
  simp [h8, h9, hi]
theorem out_set (alg : Int) (s : St) (i n : Nat) (hi : i < siz alg) (x : Int) (hx : x = outB alg s i) (hn : n = siz alg) :
    ((out alg s).take i ++ List.replicate (n - i) 0).set i x = (out alg s).take (i + 1) ++ List.replicate (n - (i + 1)) 0 := by
  subst hn
  have h1 : ((out alg s).take i).length = i := by rw [List.length_take, out_len]; omega
  rw [List.set_append_right _ _ (by omega), h1, Nat.sub_self, show siz alg - i = (siz alg - (i + 1)) + 1 by omega, List.replicate_succ, List.set_cons_zero, List.take_succ_eq_append_getElem (by rw [out_len]; exact hi), List.append_assoc, hx]
  simp [out]

set_option maxHeartbeats 1000000 in
theorem state_64 {w : World} (h : Hs) (hk : h.ok) (g : Nat) (hG : Blk HT w g h.cells) (hB : blk h.alg = 64) (hsz : siz h.alg ≤ 32) :
    Calls Tryd.prog 41 #[.pointer (some ⟨g, 0, none⟩)] w fun e w' => e = .returned (.slice (some ⟨w.heap.size, 0, none⟩) (siz h.alg) (siz h.alg)) ∧ Arr .u8 5 w' w.heap.size (out h.alg ⟨h.words, h.wide⟩) ∧ Below w.heap.size w w' := by
  obtain ⟨alg, hae⟩ : ∃ a, h.alg = a := ⟨_, rfl⟩
  have hc0 : w.cell? ⟨g, 0, none⟩ = some (.int .i64 alg) := by rw [← hae]; exact hG.cell 0
  rw [hae] at hB hsz
  rw [hae]
  have HBl : Hid (∀ w' : World, Calls Tryd.prog 29 #[.int .i64 alg] w' fun e w'' => e = .returned (.int .i64 64) ∧ w' = w'') := fun w' => (ShaBlock_any alg).mono fun _ _ h => ⟨by rw [h.1, hB]; rfl, h.2.symm⟩
  obtain ⟨sz, hse⟩ : ∃ s, siz alg = s := ⟨_, rfl⟩
  have HSz : Hid (∀ w' : World, Calls Tryd.prog 28 #[.int .i64 alg] w' fun e w'' => e = .returned (.int .i64 sz) ∧ w' = w'') := fun w' => (ShaSize_any alg).mono fun _ _ h => ⟨by rw [h.1, hse], h.2.symm⟩
  rw [hse] at hsz
  rw [hse]
  have HG : Hid (Blk HT w g h.cells) := hG
  have hgl := hG.lt
  have HO : Hid (∀ i, outB alg ⟨h.words, h.wide⟩ i = h.words.list.getD (i / 4) 0 / 2 ^ (24 - i % 4 * 8) % 256) := fun i => by unfold outB; rw [hB]; rfl
  have HE : Hid (siz alg = sz) := hse
  clear hse hae hG hB
  go_enter Tryd.func41, Tryd.ntmps41
  go_wp2_with (first
    | (go_at_call 28; refine (HSz.out _).mono ?_; rintro e w' ⟨rfl, rfl⟩)
    | (refine wpList_mk w rfl (.tmp 9) (.tmp 9) 25 rfl .u8 5 1 Tryd.und8 Tryd.info8 _ sz rfl rfl rfl (by omega) (by omega) ?_; intro w1 hA1 hB1; have HA1 : Hid (Arr .u8 5 w1 w.heap.size (List.replicate sz 0) ∧ Below w.heap.size w w1) := ⟨hA1, hB1⟩; clear hA1 hB1))
  go_loopw [13] (fun iv wr => ∃ i : Nat, iv = .int .i64 i ∧ i ≤ sz ∧ Arr .u8 5 wr w.heap.size ((out alg ⟨h.words, h.wide⟩).take i ++ List.replicate (sz - i) 0) ∧ Below w.heap.size w wr) (fun iv _ => sz - (intOf iv).toNat)
  case atStart => exact ⟨0, rfl, by omega, by simpa using HA1.out.1, HA1.out.2⟩
  case round =>
    obtain ⟨i, rfl, hi, hA, hBw⟩ := hrel
    by_cases hlt : i < sz
    · have hGr := below_blk hBw hgl HG.out
      have hc0r : wr.cell? ⟨g, 0, none⟩ = some (.int .i64 alg) := by rw [hBw.cell (p := ⟨g, 0, none⟩) hgl]; exact hc0
      obtain ⟨y, hy⟩ : ∃ y : Nat, i / 4 = y := ⟨_, rfl⟩
      obtain ⟨z, hz⟩ : ∃ z : Nat, i % 4 = z := ⟨_, rfl⟩
      have hy' : ((i : Int) / 4) = y := by omega
      have hz' : ((i : Int) % 4) = z := by omega
      have hy8 : y < 8 := by omega
      have hz4 : z < 4 := by omega
      obtain ⟨sh, hsh⟩ : ∃ s : Nat, 24 - z * 8 = s := ⟨_, rfl⟩
      have hsh' : (24 : Int) - (z : Int) * 8 = sh := by omega
      have hsb : sh ≤ 24 := by omega
      have hcx := h.cell_words hGr y hy8
      have hux := R8.at hk.words y hy8
      have HV := HO.out i
      rw [hy, hz, hsh] at HV
      obtain ⟨x, hx⟩ : ∃ x, h.words.list.getD y 0 = x := ⟨_, rfl⟩
      rw [hx] at hcx hux HV
      have HV2 : Hid (outB alg ⟨h.words, h.wide⟩ i = x / 2 ^ sh % 256) := HV
      obtain ⟨hx0, hx1⟩ := hux
      have hlen : ((out alg ⟨h.words, h.wide⟩).take i ++ List.replicate (sz - i) (0 : Int)).length = sz := by rw [List.length_append, List.length_take, out_len, HE.out, List.length_replicate]; omega
      have hco := hA.cell i (by omega)
      have hfo := hA.frozen i
      obtain ⟨o, ho⟩ : ∃ o, ((out alg ⟨h.words, h.wide⟩).take i ++ List.replicate (sz - i) (0 : Int)).getD i 0 = o := ⟨_, rfl⟩
      rw [ho] at hco
      have HN : Hid (Arr .u8 5 wr w.heap.size ((out alg ⟨h.words, h.wide⟩).take i ++ List.replicate (sz - i) 0) ∧ Below w.heap.size w wr) := ⟨hA, hBw⟩
      have hiI : (i : Int) < (sz : Int) := by omega
      have hyI : (y : Int) < 8 := by omega
      clear HV hx ho hA hBw hlen hy hz hsh hGr
      go_wp2_with (go_at_call 29; refine (HBl.out _).mono ?_; rintro e w' ⟨rfl, rfl⟩)
      obtain ⟨hA, hBw⟩ := HN.out
      refine ⟨⟨i + 1, by go_num, by omega, ?_, (Upd.set _ _ _ _).below hBw hBw.size (Nat.le_refl _)⟩, by simp [intOf]; omega⟩
      have := hA.set i (x / 2 ^ sh % 256)
      rw [out_set alg _ i sz (by rw [HE.out]; exact hlt) _ HV2.out.symm HE.out.symm] at this
      exact this
    · obtain rfl : i = sz := by omega
      clear hc0
      go_wp2
      go_ret
      refine ⟨rfl, ?_, hBw⟩
      rw [List.take_of_length_le (by rw [out_len, HE.out]; omega), Nat.sub_self, List.replicate_zero, List.append_nil] at hA
      exact hA

set_option maxHeartbeats 1000000 in
theorem state_128 {w : World} (h : Hs) (hk : h.ok) (g : Nat) (hG : Blk HT w g h.cells) (hB : blk h.alg = 128) (hsz : siz h.alg ≤ 64) :
    Calls Tryd.prog 41 #[.pointer (some ⟨g, 0, none⟩)] w fun e w' => e = .returned (.slice (some ⟨w.heap.size, 0, none⟩) (siz h.alg) (siz h.alg)) ∧ Arr .u8 5 w' w.heap.size (out h.alg ⟨h.words, h.wide⟩) ∧ Below w.heap.size w w' := by
  obtain ⟨alg, hae⟩ : ∃ a, h.alg = a := ⟨_, rfl⟩
  have hc0 : w.cell? ⟨g, 0, none⟩ = some (.int .i64 alg) := by rw [← hae]; exact hG.cell 0
  rw [hae] at hB hsz
  rw [hae]
  have HBl : Hid (∀ w' : World, Calls Tryd.prog 29 #[.int .i64 alg] w' fun e w'' => e = .returned (.int .i64 128) ∧ w' = w'') := fun w' => (ShaBlock_any alg).mono fun _ _ h => ⟨by rw [h.1, hB]; rfl, h.2.symm⟩
  obtain ⟨sz, hse⟩ : ∃ s, siz alg = s := ⟨_, rfl⟩
  have HSz : Hid (∀ w' : World, Calls Tryd.prog 28 #[.int .i64 alg] w' fun e w'' => e = .returned (.int .i64 sz) ∧ w' = w'') := fun w' => (ShaSize_any alg).mono fun _ _ h => ⟨by rw [h.1, hse], h.2.symm⟩
  rw [hse] at hsz
  rw [hse]
  have HG : Hid (Blk HT w g h.cells) := hG
  have hgl := hG.lt
  have HO : Hid (∀ i, outB alg ⟨h.words, h.wide⟩ i = h.wide.list.getD (i / 8) 0 / 2 ^ (56 - i % 8 * 8) % 256) := fun i => by unfold outB; rw [hB]; rfl
  have HE : Hid (siz alg = sz) := hse
  clear hse hae hG hB
  go_enter Tryd.func41, Tryd.ntmps41
  go_wp2_with (first
    | (go_at_call 28; refine (HSz.out _).mono ?_; rintro e w' ⟨rfl, rfl⟩)
    | (refine wpList_mk w rfl (.tmp 9) (.tmp 9) 25 rfl .u8 5 1 Tryd.und8 Tryd.info8 _ sz rfl rfl rfl (by omega) (by omega) ?_; intro w1 hA1 hB1; have HA1 : Hid (Arr .u8 5 w1 w.heap.size (List.replicate sz 0) ∧ Below w.heap.size w w1) := ⟨hA1, hB1⟩; clear hA1 hB1))
  go_loopw [13] (fun iv wr => ∃ i : Nat, iv = .int .i64 i ∧ i ≤ sz ∧ Arr .u8 5 wr w.heap.size ((out alg ⟨h.words, h.wide⟩).take i ++ List.replicate (sz - i) 0) ∧ Below w.heap.size w wr) (fun iv _ => sz - (intOf iv).toNat)
  case atStart => exact ⟨0, rfl, by omega, by simpa using HA1.out.1, HA1.out.2⟩
  case round =>
    obtain ⟨i, rfl, hi, hA, hBw⟩ := hrel
    by_cases hlt : i < sz
    · have hGr := below_blk hBw hgl HG.out
      have hc0r : wr.cell? ⟨g, 0, none⟩ = some (.int .i64 alg) := by rw [hBw.cell (p := ⟨g, 0, none⟩) hgl]; exact hc0
      obtain ⟨y, hy⟩ : ∃ y : Nat, i / 8 = y := ⟨_, rfl⟩
      obtain ⟨z, hz⟩ : ∃ z : Nat, i % 8 = z := ⟨_, rfl⟩
      have hy' : ((i : Int) / 8) = y := by omega
      have hz' : ((i : Int) % 8) = z := by omega
      have hy8 : y < 8 := by omega
      have hz4 : z < 8 := by omega
      obtain ⟨sh, hsh⟩ : ∃ s : Nat, 56 - z * 8 = s := ⟨_, rfl⟩
      have hsh' : (56 : Int) - (z : Int) * 8 = sh := by omega
      have hsb : sh ≤ 56 := by omega
      have hcx := h.cell_wide hGr y hy8
      have hux := R8.at hk.wide y hy8
      have HV := HO.out i
      rw [hy, hz, hsh] at HV
      obtain ⟨x, hx⟩ : ∃ x, h.wide.list.getD y 0 = x := ⟨_, rfl⟩
      rw [hx] at hcx hux HV
      have HV2 : Hid (outB alg ⟨h.words, h.wide⟩ i = x / 2 ^ sh % 256) := HV
      obtain ⟨hx0, hx1⟩ := hux
      have hlen : ((out alg ⟨h.words, h.wide⟩).take i ++ List.replicate (sz - i) (0 : Int)).length = sz := by rw [List.length_append, List.length_take, out_len, HE.out, List.length_replicate]; omega
      have hco := hA.cell i (by omega)
      have hfo := hA.frozen i
      obtain ⟨o, ho⟩ : ∃ o, ((out alg ⟨h.words, h.wide⟩).take i ++ List.replicate (sz - i) (0 : Int)).getD i 0 = o := ⟨_, rfl⟩
      rw [ho] at hco
      have HN : Hid (Arr .u8 5 wr w.heap.size ((out alg ⟨h.words, h.wide⟩).take i ++ List.replicate (sz - i) 0) ∧ Below w.heap.size w wr) := ⟨hA, hBw⟩
      have hiI : (i : Int) < (sz : Int) := by omega
      have hyI : (y : Int) < 8 := by omega
      clear HV hx ho hA hBw hlen hy hz hsh hGr
      go_wp2_with (go_at_call 29; refine (HBl.out _).mono ?_; rintro e w' ⟨rfl, rfl⟩)
      obtain ⟨hA, hBw⟩ := HN.out
      refine ⟨⟨i + 1, by go_num, by omega, ?_, (Upd.set _ _ _ _).below hBw hBw.size (Nat.le_refl _)⟩, by simp [intOf]; omega⟩
      have := hA.set i (x / 2 ^ sh % 256)
      rw [out_set alg _ i sz (by rw [HE.out]; exact hlt) _ HV2.out.symm HE.out.symm] at this
      exact this
    · obtain rfl : i = sz := by omega
      clear hc0
      go_wp2
      go_ret
      refine ⟨rfl, ?_, hBw⟩
      rw [List.take_of_length_le (by rw [out_len, HE.out]; omega), Nat.sub_self, List.replicate_zero, List.append_nil] at hA
      exact hA

theorem siz_le (alg : Int) : siz alg ≤ 64 := by unfold siz; repeat' split <;> try omega
theorem state_any {w : World} (h : Hs) (hk : h.ok) (ha : Alg h.alg) (g : Nat) (hG : Blk HT w g h.cells) :
    Calls Tryd.prog 41 #[.pointer (some ⟨g, 0, none⟩)] w fun e w' => e = .returned (.slice (some ⟨w.heap.size, 0, none⟩) (siz h.alg) (siz h.alg)) ∧ Arr .u8 5 w' w.heap.size (out h.alg ⟨h.words, h.wide⟩) ∧ Below w.heap.size w w' := by
  have h1 := siz_le h.alg
  rcases ha with e | e | e | e
  · exact state_64 h hk g hG (by rw [e]; rfl) (by rw [e]; decide)
  · exact state_64 h hk g hG (by rw [e]; rfl) (by rw [e]; decide)
  · exact state_128 h hk g hG (by rw [e]; rfl) h1
  · exact state_128 h hk g hG (by rw [e]; rfl) h1
end Go.Proofs.YtgipmjpkaemdkaaDoor
