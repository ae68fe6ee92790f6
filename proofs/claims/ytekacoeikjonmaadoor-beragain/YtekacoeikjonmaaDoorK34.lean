/-
  The law BerOwn: what is read shares nothing with the bytes, nor one element with another; a tree in the one way shares nothing with the row.
-/
import Derived.Test.YtekacoeikjonmaaDoorK33
namespace Go.Proofs.YtekacoeikjonmaaDoor
open Go.RowKit
theorem prF_good {M : List Int} (hM : U8s M) : ∀ (f p q : Nat) (S : List Prt) (L : List Te) (R : Nat × List Te), L.length ≤ 65536 → (∀ x ∈ L, U8s x.d ∧ x.d.length ≤ M.length) → prF M f p q S L = .inr R → R.2.length ≤ 65536 ∧ ∀ x ∈ R.2, U8s x.d ∧ x.d.length ≤ M.length
  | 0, _, _, _, _, _, _, _, h => by simp [prF] at h
  | f + 1, p, q, S, L, R, hL, hP, h => by
    rw [prF] at h
    cases hb : belS M p q L.length S.length with
    | inl e => rw [hb] at h; cases h
    | inr r =>
      obtain ⟨t, l, j⟩ := r
      rw [hb] at h
      have h1 := belS_many hb
      have hL' : (L ++ [belE M p S.length t l j]).length ≤ 65536 := by rw [List.length_append, List.length_singleton]; omega
      have hP' : ∀ x ∈ L ++ [belE M p S.length t l j], U8s x.d ∧ x.d.length ≤ M.length := by
        intro x hx
        rcases List.mem_append.1 hx with hx | hx
        · exact hP x hx
        · rw [List.mem_singleton] at hx
          subst hx
          unfold belE
          simp only []
          split
          · exact ⟨(by intro y hy; cases hy), by simp⟩
          · refine ⟨(hM.drop j).take _, ?_⟩
            rw [List.length_take, List.length_drop]; omega
      simp only [] at h
      split at h
      · cases h; exact ⟨hL', hP'⟩
      · exact prF_good hM f _ _ _ _ R hL' hP' h
theorem parse_good {M : List Int} (hM : U8s M) {L : List Te} (h : parseS M = .inr L) : L.length ≤ 65536 ∧ ∀ x ∈ L, U8s x.d ∧ x.d.length ≤ M.length := by
  unfold parseS at h
  split at h
  · cases h
  cases hp : pr M 0 M.length [] [] with
  | inl x => rw [hp] at h; cases h
  | inr x =>
    have h1 := prF_good hM _ _ _ _ _ x (by simp) (by simp) hp
    obtain ⟨p, L'⟩ := x
    rw [hp] at h
    simp only [] at h
    split at h
    · cases h
    · cases h; exact h1
theorem datL_le {m : Nat} : ∀ {L : List Te}, (∀ x ∈ L, x.d.length ≤ m) → datL L ≤ L.length * m
  | [], _ => by simp [datL]
  | x :: r, h => by
    have h1 := h x (List.mem_cons_self ..)
    have h2 := datL_le (L := r) fun y hy => h y (List.mem_cons_of_mem _ hy)
    simp only [datL, List.length_cons]
    rw [Nat.add_mul]; omega
/-- What Normal answers, told at once. -/
theorem NrOut.uni {B : Nat} {w : World} {e : Ending} {L : List Te} (h : NrOut B w e L) (hL : L.length ≤ 65536) (hd : datL L ≤ 131072000) : ∃ v er at_ L', e = .returned (.tuple #[v, .int .i64 er, .int .i64 at_]) ∧ Elems B w v L' ∧ L'.length ≤ 65536 ∧ datL L' ≤ 131137536 := by
  rcases h with ⟨_, rfl⟩ | ⟨_, er, i, _, rfl⟩ | ⟨_, _, v, L', rfl, hN, hE⟩
  · exact ⟨_, _, _, [], rfl, Elems.nil _ _, by simp, by simp [datL]⟩
  · exact ⟨_, _, _, [], rfl, Elems.nil _ _, by simp, by simp [datL]⟩
  · have h1 := nrm_dat hN
    have h2 : datL (setL L) ≤ datL L + L.length := set_dat _ _
    have h3 : (setL L).length ≤ L.length := setF_len _ _
    exact ⟨v, _, _, L', rfl, hE, by omega, by omega⟩
theorem u8s1234 : U8s [1, 2, 3, 4] := by intro x hx; unfold U8; simp at hx; omega
set_option maxRecDepth 20000 in
set_option maxHeartbeats 8000000 in
theorem BerOwn_any {w : World} (hG : GlbE w) (a : Option Addr) (n c : Nat) (X : List Int) (hX : Sl .u8 w (.slice a n c) X) (uX : U8s X) (hn0 : n ≤ 9223372036854775807) :
    Calls Tryd.prog 6 #[.slice a n c] w fun e w' => e = .returned (.bool true) ∧ Below w.heap.size w w' := by
  have HX : Hid (GlbE w ∧ Sl .u8 w (.slice a n c) X ∧ U8s X ∧ X.length = n) := ⟨hG, hX, uX, hX.lens.1.symm⟩
  have HL : Hid (∀ W : World, Below w.heap.size w W → Calls Tryd.prog 7 #[] W fun e w' => e = .returned (.bool true) ∧ Below W.heap.size W w') := fun W hW => live03_any (HX.out.1.below hW)
  clear hG hX uX
  by_cases hn : 2000 < n
  · have hnI : (2000 : Int) < (n : Int) := by omega
    have hn0I : (n : Int) ≤ 9223372036854775807 := by omega
    go_enter Tryd.func6, Tryd.ntmps6
    go_wp2_with fail
    refine (HL.out w (Below.refl _ _)).mono ?_
    rintro e w1 ⟨rfl, hb⟩
    go_wp2
    go_ret
    exact ⟨rfl, hb⟩
  have hnI : ¬ (2000 : Int) < (n : Int) := by omega
  have hn2 : n ≤ 2000 := by omega
  have hn2I : (n : Int) ≤ 2000 := by omega
  clear hn hn0
  go_enter Tryd.func6, Tryd.ntmps6
  go_upto_region 4 with (at_builtin; refine wpList_ap rfl (.tmp 17) (.tmp 18) 22 22 rfl .u8 5 1 Tryd.und8 Tryd.info8 (by decide) w.heap.size _ [] rfl (row_emp w) _ X rfl (src_sl Tryd.und8 (below_sl (al1 _) HX.out.2.1)) (by have := HX.out.2.2.2; simp only [List.length_nil]; omega) (by simp) ?_; intro v1 w1 hr1 hg1; have hB1 := hg1.below (row_emp w) (by simp))
  rw [List.nil_append] at hr1
  obtain ⟨a1, c1, hv1⟩ := hr1.ne
  rw [HX.out.2.2.2] at hv1
  subst hv1
  have H1 : Hid (Row .u8 5 w.heap.size w1 (.slice a1 n c1) X ∧ Below w.heap.size w w1) := ⟨hr1, (al1 _).trans hB1⟩
  clear hr1 hg1 hB1
  have hP := Parse_any (w := w1) (HX.out.1.below H1.out.2) (.slice a1 n c1) X H1.out.1.sl HX.out.2.2.1 (by have := HX.out.2.2.2; omega)
  cases hp : parseS X with
  | inl ea =>
    obtain ⟨er, at_⟩ := ea
    rw [hp] at hP
    have HP : Hid (Calls Tryd.prog 14 #[.slice a1 n c1] w1 fun e w' => e = .returned (.tuple #[.slice none 0 0, .int .i64 er, .int .i64 (at_ : Int)]) ∧ Below w1.heap.size w1 w') := hP
    have her : (er != 0) = true := by have := (parse_in HX.out.2.2.1 hp).2; simp; omega
    clear hP hp
    go_wp2_with fail
    refine HP.out.mono ?_
    rintro e w2 ⟨rfl, hb⟩
    have HB : Hid (Below w.heap.size w w2) := below_via H1.out.2 hb (Nat.le_refl _)
    clear hb
    go_wp2_with (first | (go_at_call 9; refine (num3_any _).mono ?_; rintro e w' ⟨rfl, rfl⟩) | (go_at_call 7; refine (HL.out _ HB.out).mono ?_; rintro ev w3 ⟨rfl, hb2⟩))
    go_ret
    exact ⟨rfl, below_via HB.out hb2 (Nat.le_refl _)⟩
  | inr L =>
    have hgd := parse_good HX.out.2.2.1 hp
    rw [HX.out.2.2.2] at hgd
    have hdl : datL L ≤ L.length * 2000 := datL_le fun x hx => by have := (hgd.2 x hx).2; omega
    have HQ : Hid (L.length ≤ 65536 ∧ (∀ x ∈ L, U8s x.d ∧ x.d.length ≤ 2000) ∧ datL L ≤ 131072000) := ⟨hgd.1, fun x hx => ⟨(hgd.2 x hx).1, by have := (hgd.2 x hx).2; omega⟩, by have := hgd.1; omega⟩
    rw [hp] at hP
    have HP : Hid (Calls Tryd.prog 14 #[.slice a1 n c1] w1 fun e w' => (∃ v, e = .returned (.tuple #[v, .int .i64 0, .int .i64 (X.length : Int)]) ∧ Elems w1.heap.size w' v L) ∧ Below w1.heap.size w1 w') := hP
    clear hP hp hgd hdl
    go_wp2_with fail
    refine HP.out.mono ?_
    rintro e w2 ⟨⟨v2, rfl, ht2⟩, hb2⟩
    obtain ⟨Y, hYL, hm, hrows, hap⟩ := ht2
    obtain ⟨al, cl, hv⟩ := hm.ne
    obtain ⟨k, hk⟩ : ∃ k, Y.length = k := ⟨_, rfl⟩
    rw [hk] at hv
    subst hv
    have hF2 : ElF w1.heap.size w2 (.slice al k cl) Y 0 := ⟨hm, fun j y _ hy => hrows y (List.mem_of_getElem? hy)⟩
    have HY : Hid (Y.map (·.1) = L ∧ Y.length = k ∧ L.length = k ∧ Apart (Y.map (·.2)) ∧ ∀ y ∈ Y, ∀ b, blkOf y.2 = some b → w1.heap.size ≤ b ∧ b < w2.heap.size) :=
      ⟨hYL, hk, by rw [← hYL, List.length_map, hk], hap, fun y hy b hb => (hrows y hy).blk_lt hb⟩
    have H2 : Hid (ElF w1.heap.size w2 (.slice al k cl) Y 0 ∧ Below w1.heap.size w1 w2 ∧ ElS w2 (.slice al k cl) L) := ⟨hF2, hb2, by have := hF2.s hap; rwa [hYL] at this⟩
    clear hm hrows hap hF2 hb2 hk hYL
    go_wp2_with (go_at_call 9; refine (num3_any _).mono ?_; rintro e w' ⟨rfl, rfl⟩)
    refine (Copy_any _ L H2.out.2.2 HQ.out.1 (by have := HQ.out.2.2; omega)).mono ?_
    rintro e w3 ⟨⟨v3, rfl, ht3⟩, hb3⟩
    obtain ⟨a3, c3, hv3⟩ := ht3.len
    rw [HY.out.2.2.1] at hv3
    subst hv3
    have H3 : Hid (ElF w1.heap.size w3 (.slice al k cl) Y 0 ∧ Elems w2.heap.size w3 (.slice a3 k c3) L ∧ Below w1.heap.size w1 w3 ∧ w2.heap.size ≤ w3.heap.size) := ⟨H2.out.1.below hb3, ht3, below_via H2.out.2.1 hb3 (Nat.le_refl _), hb3.size⟩
    clear ht3 hb3
    go_wp2_with fail
    refine (Spoil_own _ ((H1.out.1.below H3.out.2.2.1).own8 (by have := HX.out.2.2.2; omega))).mono ?_
    rintro e w4 ⟨rfl, ho4, _⟩
    have H4 : Hid (ElF w1.heap.size w4 (.slice al k cl) Y 0 ∧ Elems w2.heap.size w4 (.slice a3 k c3) L ∧ Below w.heap.size w w4 ∧ w3.heap.size ≤ w4.heap.size) := by
      have h1 := ho4 (fun j => blkOf (.slice a1 n c1) = some j) (fun _ h => h)
      refine ⟨H3.out.1.onlB h1 (fun j hj => (H1.out.1.blk_lt hj).2), h1.elems H3.out.2.1 (fun j hj => by have := (H1.out.1.blk_lt hj).2; have := H2.out.2.1.size; omega), ?_, h1.size⟩
      exact h1.below (below_via H1.out.2 H3.out.2.2.1 (Nat.le_refl _)) (Nat.le_trans H1.out.2.size H3.out.2.2.1.size) (fun j hj => (H1.out.1.blk_lt hj).1)
    clear ho4
    have HS4 : Hid (ElS w4 (.slice al k cl) L) := by have := H4.out.1.s HY.out.2.2.2.1; rwa [HY.out.1] at this
    go_wp2_with fail
    refine (Same_any _ _ L HS4.out H4.out.2.1.s (by have := HQ.out.1; omega) (fun y hy => by have := (HQ.out.2.1 y hy).2; omega)).mono ?_
    rintro e w5 ⟨rfl, hb5⟩
    have H5 : Hid (ElF w1.heap.size w5 (.slice al k cl) Y 0 ∧ Elems w2.heap.size w5 (.slice a3 k c3) L ∧ Below w.heap.size w w5 ∧ w2.heap.size ≤ w5.heap.size ∧ w1.heap.size ≤ w2.heap.size ∧ w.heap.size ≤ w1.heap.size ∧ ElS w5 (.slice al k cl) L) := ⟨H4.out.1.below hb5, H4.out.2.1.below hb5, below_via H4.out.2.2.1 hb5 (Nat.le_refl _), by have := H3.out.2.2.2; have := H4.out.2.2.2; have := hb5.size; omega, H2.out.2.1.size, H1.out.2.size, HS4.out.below hb5⟩
    clear hb5
    go_wp2_with fail
    refine (Normal_any (HX.out.1.below H5.out.2.2.1) _ L H5.out.2.2.2.2.2.2 ⟨by have := HQ.out.1; omega, fun x hx => (HQ.out.2.1 x hx).1, by have := HQ.out.2.2; omega, fun hT hC => chk_set hT hC⟩).mono ?_
    rintro e w6 ⟨hN, hb6⟩
    obtain ⟨vm, fe, pe, Lm, rfl, hEm, hLm, hDm⟩ := hN.uni HQ.out.1 HQ.out.2.2
    have H6 : Hid (ElF w1.heap.size w6 (.slice al k cl) Y 0 ∧ Elems w2.heap.size w6 (.slice a3 k c3) L ∧ Elems w5.heap.size w6 vm Lm ∧ Below w.heap.size w w6 ∧ w5.heap.size ≤ w6.heap.size) := ⟨H5.out.1.below hb6, H5.out.2.1.below hb6, hEm, below_via H5.out.2.2.1 hb6 (Nat.le_refl _), hb6.size⟩
    have HM : Hid (Lm.length ≤ 65536 ∧ datL Lm ≤ 131137536) := ⟨hLm, hDm⟩
    clear hN hb6 hEm hLm hDm
    go_wp2_with fail
    refine (Copy_any _ Lm H6.out.2.2.1.s HM.out.1 (by have := HM.out.2; omega)).mono ?_
    rintro e w7 ⟨⟨vk, rfl, htk⟩, hb7⟩
    have H7 : Hid (ElF w1.heap.size w7 (.slice al k cl) Y 0 ∧ Elems w2.heap.size w7 (.slice a3 k c3) L ∧ Elems w5.heap.size w7 vm Lm ∧ Elems w6.heap.size w7 vk Lm ∧ Below w.heap.size w w7 ∧ w2.heap.size ≤ w7.heap.size) := ⟨H6.out.1.below hb7, H6.out.2.1.below hb7, H6.out.2.2.1.below hb7, htk, below_via H6.out.2.2.2.1 hb7 (Nat.le_refl _), by have := H5.out.2.2.2.1; have := H6.out.2.2.2.2; have := hb7.size; omega⟩
    clear htk hb7
    have hk6 : k ≤ 65536 := by have := HY.out.2.2.1; have := HQ.out.1; omega
    go_wp2_with fail
    go_loopw [12] (fun iv wr => ∃ i : Nat, iv = .int .i64 i ∧ i ≤ k ∧ ElF w1.heap.size wr (.slice al k cl) Y i ∧ Elems w2.heap.size wr (.slice a3 k c3) L ∧ Elems w5.heap.size wr vm Lm ∧ Elems w6.heap.size wr vk Lm ∧ Below w.heap.size w wr ∧ w2.heap.size ≤ wr.heap.size) (fun iv _ => k - (intOf iv).toNat)
    case atStart => exact ⟨0, rfl, by omega, H7.out.1, H7.out.2.1, H7.out.2.2.1, H7.out.2.2.2.1, H7.out.2.2.2.2.1, H7.out.2.2.2.2.2⟩
    case round =>
      obtain ⟨i, rfl, hi, hF, hM, hMm, hMk, hB, hsz⟩ := hrel
      by_cases hlt : i < k
      · have l1 : (i : Int) < (k : Int) := by omega
        obtain ⟨⟨x, d⟩, hy⟩ : ∃ y, Y[i]? = some y := ⟨_, List.getElem?_eq_getElem (by have := HY.out.2.1; omega)⟩
        have hyr := hF.rows i _ (Nat.le_refl _) hy
        have hxL : x ∈ L := by rw [← HY.out.1]; exact List.mem_map.2 ⟨_, List.mem_of_getElem? hy, rfl⟩
        have hxl := (HQ.out.2.1 x hxL).2
        have hapt := apart_at Y HY.out.2.2.2.1 i _ hy
        have hblk := HY.out.2.2.2.2 _ (List.mem_of_getElem? hy)
        simp only [] at hyr hapt hblk
        obtain ⟨ad, cd, hd⟩ := hyr.ne
        obtain ⟨nd, hnd⟩ : ∃ nd, x.d.length = nd := ⟨_, rfl⟩
        rw [hnd] at hd
        subst hd
        obtain ⟨bl, hal, hkc, hbl, hcell⟩ := hF.mrow.cellQ hlt HY.out.2.1 hy
        subst hal
        have e3 : wr.cell? ⟨bl, i * 5 + 4, none⟩ = some (.slice ad nd cd) := hcell 4 _ (by omega) rfl
        have HR : Hid (ElF w1.heap.size wr (.slice (some ⟨bl, 0, none⟩) k cl) Y i ∧ Elems w2.heap.size wr (.slice a3 k c3) L ∧ Elems w5.heap.size wr vm Lm ∧ Elems w6.heap.size wr vk Lm ∧ Below w.heap.size w wr ∧ w2.heap.size ≤ wr.heap.size ∧ Y[i]? = some (x, .slice ad nd cd) ∧ x.d.length = nd ∧ x.d.length ≤ 2000) := ⟨hF, hM, hMm, hMk, hB, hsz, hy, hnd, hxl⟩
        have HA : Hid (Row .u8 5 w1.heap.size wr (.slice ad nd cd) x.d) := hyr
        have HP' : Hid ((∀ (j : Nat) (z : Tv), i < j → Y[j]? = some z → ∀ b, blkOf (.slice ad nd cd) = some b → blkOf z.2 ≠ some b) ∧ ∀ b, blkOf (.slice ad nd cd) = some b → w1.heap.size ≤ b ∧ b < w2.heap.size) := ⟨hapt, hblk⟩
        have hkcI : (k : Int) ≤ (cl : Int) := by omega
        clear hF hM hMm hMk hB hsz hy hyr hxL hxl hapt hblk hnd hcell
        go_wp2_with (at_builtin; refine wpList_apL rfl (.tmp 56) (.tmp 57) 22 22 rfl .u8 5 1 Tryd.und8 Tryd.info8 (by decide) w1.heap.size _ x.d rfl (HA.out.alloc _) _ [1, 2, 3, 4] rfl (src_sl Tryd.und8 (Arr.sl (S := [1, 2, 3, 4]) (arr_nw rfl rfl))) (by have := HR.out.2.2.2.2.2.2.2.2; simp; omega) (by have := HR.out.2.2.2.2.2.1; have := H5.out.2.2.2.2.1; simp; omega) ?_; intro v6 w8 hr6 hg6 hl6)
        refine (Spoil_own _ (hr6.own8 (by have := HR.out.2.2.2.2.2.2.2.2; rw [List.length_append]; simp; omega))).mono ?_
        rintro e w9 ⟨rfl, ho7, ht7⟩
        have H9 : Hid (Onl (fun j => blkOf (.slice ad nd cd) = some j) wr w9 ∧ Had w9 (.slice ad nd cd)) := by
          have o6 : Onl (fun j => blkOf (.slice ad nd cd) = some j) wr w8 := (Onl.ofBelow (al1 _)).trans hg6.onl
          refine ⟨o6.comb (ho7 _ fun b hb => ?_), ((hg6.had (HA.out.had.below (al1 _))).turn ht7)⟩
          rcases hl6 with h | h
          · rw [h] at hb; exact .inl hb
          · rw [h] at hb
            simp only [Option.some.injEq] at hb
            have := (al1 (w := wr) (.cells #[.int .u8 1, .int .u8 2, .int .u8 3, .int .u8 4] 5)).size
            exact .inr (by omega)
        have e3' : w9.cell? ⟨bl, i * 5 + 4, none⟩ = some (.slice ad nd cd) := by
          have hm7 := H9.out.1.mrow HR.out.1.mrow (fun _ _ hS _ hd => HA.out.not_el hS hd)
          obtain ⟨bl', hal, _, _, hcell⟩ := hm7.cellQ hlt HY.out.2.1 HR.out.2.2.2.2.2.2.1
          simp only [Option.some.injEq, Addr.mk.injEq, and_true] at hal
          subst hal
          exact hcell 4 _ (by omega) rfl
        clear hr6 hg6 hl6 ho7 ht7 e3
        go_wp2_with fail
        refine (Spoil_own _ (H9.out.2.own (by have := HR.out.2.2.2.2.2.2; omega))).mono ?_
        rintro e w10 ⟨rfl, ho8, _⟩
        have h8 := H9.out.1.trans (ho8 _ fun _ h => h)
        have hF8 : ElF w1.heap.size w10 (.slice (some ⟨bl, 0, none⟩) k cl) Y (i + 1) := HR.out.1.next.onl h8 HA.out (fun j y hj hy b hb => HP'.out.1 j y (by omega) hy b hb)
        have hM8 : Elems w2.heap.size w10 (.slice a3 k c3) L := h8.elems HR.out.2.1 (fun j hj => (HP'.out.2 j hj).2)
        have hMm8 : Elems w5.heap.size w10 vm Lm := h8.elems HR.out.2.2.1 (fun j hj => by have := (HP'.out.2 j hj).2; have := H5.out.2.2.2.1; omega)
        have hMk8 : Elems w6.heap.size w10 vk Lm := h8.elems HR.out.2.2.2.1 (fun j hj => by have := (HP'.out.2 j hj).2; have := H5.out.2.2.2.1; have := H6.out.2.2.2.2; omega)
        have hB8 : Below w.heap.size w w10 := h8.below HR.out.2.2.2.2.1 HR.out.2.2.2.2.1.size (fun j hj => by have := (HP'.out.2 j hj).1; have := H5.out.2.2.2.2.2.1; omega)
        obtain ⟨Y3, hY3L, hF3⟩ := hM8.f (i + 1)
        have hY3k : Y3.length = k := by rw [← HY.out.2.2.1, ← hY3L, List.length_map]
        obtain ⟨y3, hy3⟩ : ∃ y, Y3[i]? = some y := ⟨_, List.getElem?_eq_getElem (by omega)⟩
        obtain ⟨b3, ha3, hkc3, hb3, _⟩ := hF3.mrow.cellQ hlt hY3k hy3
        subst ha3
        obtain ⟨i1, hi1⟩ : ∃ i1, i + 1 = i1 := ⟨_, rfl⟩
        rw [hi1] at hF8 hF3
        obtain ⟨u1, hu1⟩ : ∃ u1 : Option Addr, (if cl = i1 then some ⟨bl, 0, none⟩ else some ⟨bl, i1 * 5, none⟩) = u1 := ⟨_, rfl⟩
        obtain ⟨u3, hu3⟩ : ∃ u3 : Option Addr, (if c3 = i1 then some ⟨b3, 0, none⟩ else some ⟨b3, i1 * 5, none⟩) = u3 := ⟨_, rfl⟩
        have HF : Hid (ElF w1.heap.size w10 (.slice (some ⟨bl, 0, none⟩) k cl) Y i1 ∧ Elems w2.heap.size w10 (.slice (some ⟨b3, 0, none⟩) k c3) L ∧ Elems w5.heap.size w10 vm Lm ∧ Elems w6.heap.size w10 vk Lm ∧ Below w.heap.size w w10 ∧ w2.heap.size ≤ w10.heap.size ∧ i + 1 = i1) := ⟨hF8, hM8, hMm8, hMk8, hB8, by have := HR.out.2.2.2.2.2.1; have := h8.size; omega, hi1⟩
        have HS1 : Hid (ElS w10 (.slice u1 (k - i1) (cl - i1)) (L.drop i1)) := by
          have := hF8.drop (a' := u1) HY.out.2.1 (by omega) (by rw [← hu1]; exact addr5 _ _ _)
          rw [List.map_drop, HY.out.1] at this
          exact this
        have HS3 : Hid (ElS w10 (.slice u3 (k - i1) (c3 - i1)) (L.drop i1)) := by
          have := hF3.drop (a' := u3) hY3k (by omega) (by rw [← hu3]; exact addr5 _ _ _)
          rw [List.map_drop, hY3L] at this
          exact this
        have i1I : (i : Int) + 1 = (i1 : Int) := by omega
        have hwi : IntKind.i64.wrap (i1 : Int) = (i1 : Int) := by rw [IntKind.wrap_i64]; omega
        have i1k : (i1 : Int) ≤ (k : Int) := by omega
        have i1kN : i1 ≤ k := by omega
        have hkc3I : (k : Int) ≤ (c3 : Int) := by omega
        clear h8 ho8 hF8 hM8 hMm8 hMk8 hB8 hY3L hF3 hY3k hy3 hi1 e3'
        go_upto_region 18 with (fail)
        go_region_held3 (fun W => Below w10.heap.size w10 W) (first | exact (Below.refl _ _).drew | exact below_via (by assumption) (by assumption) (Nat.le_refl _))
          (first | (go_at_call 15; refine (Same_any _ _ (L.drop i1) (HS1.out.below (by assumption)) (HS3.out.below (by assumption)) (by have := HQ.out.1; rw [List.length_drop]; omega) (fun y hy => by have := (HQ.out.2.1 y (List.mem_of_mem_drop hy)).2; omega)).mono ?_; rintro e w11 ⟨rfl, hb11⟩))
        have H11 : Hid (Below w10.heap.size w10 w11) := by assumption
        clear hb11
        go_wp2
        go_roundw
        case rel => exact ⟨i1, rfl, i1kN, HF.out.1.below H11.out, HF.out.2.1.below H11.out, HF.out.2.2.1.below H11.out, HF.out.2.2.2.1.below H11.out, below_via HF.out.2.2.2.2.1 H11.out (Nat.le_refl _), by have := HF.out.2.2.2.2.2.1; have := H11.out.size; omega⟩
        case measure => have := HF.out.2.2.2.2.2.2; simp [intOf]; omega
      · obtain rfl : i = k := by omega
        have l1 : ¬ (i : Int) < (i : Int) := by omega
        have HB : Hid (Below w.heap.size w wr ∧ ElS wr vm Lm ∧ ElS wr vk Lm) := ⟨hB, hMm.s, hMk.s⟩
        clear hF hM hMm hMk hB hsz
        by_cases hfe : fe = 0
        · subst hfe
          go_wp2_with (first | (go_at_call 9; refine (num3_any _).mono ?_; rintro e w' ⟨rfl, rfl⟩) | (go_at_call 15; refine (Same_any _ _ Lm HB.out.2.1 HB.out.2.2 (by have := HM.out.1; omega) (fun y hy => by have := datL_mem hy; have := HM.out.2; omega)).mono ?_; rintro ev w8 ⟨rfl, hb8⟩; have H8 : Hid (Below w.heap.size w w8) := below_via HB.out.1 hb8 (Nat.le_refl _); clear hb8) | (go_at_call 7; refine (HL.out _ H8.out).mono ?_; rintro ev w9 ⟨rfl, hb9⟩))
          go_ret
          exact ⟨rfl, below_via H8.out hb9 (Nat.le_refl _)⟩
        · have hfb : (fe != 0) = true := by simpa using hfe
          go_wp2_with (first | (go_at_call 9; refine (num3_any _).mono ?_; rintro e w' ⟨rfl, rfl⟩) | (go_at_call 7; refine (HL.out _ HB.out.1).mono ?_; rintro ev w9 ⟨rfl, hb9⟩))
          go_ret
          exact ⟨rfl, below_via HB.out.1 hb9 (Nat.le_refl _)⟩
end Go.Proofs.YtekacoeikjonmaaDoor
/-
  Ber: rows sorted set by set come to the same bytes, whatever way they were sorted (pure).
-/
namespace Go.Proofs.YtekacoeikjonmaaDoor
open Go.RowKit
abbrev bt (x : List Nv) : List Int := bytesOf (ndsOf x)
theorem bt_app (A B : List Nv) : bt (A ++ B) = bt A ++ bt B := by
  unfold bt bytesOf ndsOf; rw [List.map_append, List.flatMap_append]
theorem bt_cons (z : Nv) (A : List Nv) : bt (z :: A) = z.nd.2 ++ z.nd.1.d ++ bt A := by
  unfold bt bytesOf ndsOf; rw [List.map_cons, List.flatMap_cons]
theorem bt_flat : ∀ G : List (List Nv), bt G.flatten = (G.map bt).flatten
  | [] => rfl
  | x :: G => by rw [List.flatten_cons, bt_app, bt_flat G, List.map_cons, List.flatten_cons]
/-- The parts of a row, each as long as its first node tells. -/
def Cut (G : List (List Nv)) : Prop := ∀ x ∈ G, ∃ y s, x = y :: s ∧ y.ct = x.length
theorem cut_uniq : ∀ {G H : List (List Nv)}, Cut G → Cut H → G.flatten = H.flatten → G = H
  | [], [], _, _, _ => rfl
  | [], x :: H, _, hH, h => by
    obtain ⟨y, s, rfl, _⟩ := hH x (List.mem_cons_self ..)
    simp at h
  | x :: G, [], hG, _, h => by
    obtain ⟨y, s, rfl, _⟩ := hG x (List.mem_cons_self ..)
    simp at h
  | x :: G, x' :: H, hG, hH, h => by
    obtain ⟨y, s, rfl, hc⟩ := hG x (List.mem_cons_self ..)
    obtain ⟨y', s', rfl, hc'⟩ := hH x' (List.mem_cons_self ..)
    rw [List.flatten_cons, List.flatten_cons] at h
    have hy : y = y' := by
      rw [List.cons_append, List.cons_append] at h
      exact (List.cons.inj h).1
    have hl : (y :: s).length = (y' :: s').length := by rw [← hc, ← hc', hy]
    have h1 := List.append_inj h hl
    rw [h1.1, cut_uniq (fun u hu => hG u (List.mem_cons_of_mem _ hu)) (fun u hu => hH u (List.mem_cons_of_mem _ hu)) h1.2]
/-- What nothing ahead reaches into. -/
def Shut (A B : List Nv) : Prop := ∀ u ∈ A, hdLe u.nd.1.dp B
theorem ct_le {z : Nv} {A B : List Nv} (h : Good (z :: (A ++ B))) (hB : hdLe z.nd.1.dp B) : z.ct - 1 ≤ A.length := by
  have h1 := h.2.1
  rw [inn_shut hB] at h1
  have h2 := inn_len z.nd.1.dp (ndsOf A)
  unfold ndsOf at h1 h2
  rw [List.length_map] at h2
  omega
theorem suf_split : ∀ {A B R : List Nv}, Good (A ++ B) → Shut A B → SufR (A ++ B) R → ∃ A' B', R = A' ++ B' ∧ SufR A A' ∧ SufR B B' ∧ A'.length = A.length
  | [], _, R, _, _, h => ⟨[], R, rfl, rfl, h, rfl⟩
  | z :: A, B, R, hg, hs, h => by
    obtain ⟨r', h1, h2⟩ := h
    obtain ⟨A', B', rfl, k1, k2, k3⟩ := suf_split hg.1 (fun u hu => hs u (List.mem_cons_of_mem _ hu)) h1
    have hct := ct_le hg (hs z (List.mem_cons_self ..))
    rcases h2 with ⟨hz, rfl⟩ | ⟨hz, G, G', hG, hc, hp, hsr, rfl⟩
    · exact ⟨z :: A', B', rfl, ⟨A', k1, .inl ⟨hz, rfl⟩⟩, k2, by simp [k3]⟩
    · rw [List.take_append_of_le_length (by omega)] at hG
      refine ⟨z :: (G'.flatten ++ A'.drop (z.ct - 1)), B', ?_, ⟨A', k1, .inr ⟨hz, G, G', hG, hc, hp, hsr, rfl⟩⟩, k2, ?_⟩
      · rw [List.drop_append_of_le_length (by omega), ← List.append_assoc]; rfl
      · have h3 := hp.flatten.length_eq
        rw [hG, List.length_take] at h3
        simp only [List.length_cons, List.length_append, List.length_drop]
        omega
theorem suf_join : ∀ {A B A' B' : List Nv}, Good (A ++ B) → Shut A B → SufR A A' → SufR B B' → A'.length = A.length → SufR (A ++ B) (A' ++ B')
  | [], _, A', _, _, _, h, hB, _ => by
    have h' : A' = [] := h
    subst h'
    exact hB
  | z :: A, B, _, B', hg, hs, h, hB, hl => by
    obtain ⟨r', h1, h2⟩ := h
    have hct := ct_le hg (hs z (List.mem_cons_self ..))
    have hrl : r'.length = A.length := by
      rcases h2 with ⟨_, rfl⟩ | ⟨_, G, G', hG, _, hp, _, rfl⟩
      · simpa using hl
      · have h3 := hp.flatten.length_eq
        rw [hG, List.length_take] at h3
        simp only [List.length_cons, List.length_append, List.length_drop] at hl
        omega
    have ih := suf_join hg.1 (fun u hu => hs u (List.mem_cons_of_mem _ hu)) h1 hB hrl
    rcases h2 with ⟨hz, rfl⟩ | ⟨hz, G, G', hG, hc, hp, hsr, rfl⟩
    · exact ⟨_, ih, .inl ⟨hz, rfl⟩⟩
    · refine ⟨_, ih, .inr ⟨hz, G, G', ?_, hc, hp, hsr, ?_⟩⟩
      · rw [List.take_append_of_le_length (by omega)]; exact hG
      · rw [List.drop_append_of_le_length (by omega), List.cons_append, List.append_assoc]
theorem suf_len : ∀ {Z R : List Nv}, Good Z → SufR Z R → R.length = Z.length
  | Z, R, hg, h => by
    obtain ⟨A', B', rfl, _, k2, k3⟩ := suf_split (A := Z) (B := []) (by rwa [List.append_nil]) (fun _ _ => trivial) (by rwa [List.append_nil])
    have : B' = [] := k2
    subst this
    rw [List.append_nil, k3]
theorem part_shut {e : Int} {x : List Nv} {B : List Nv} (h : Prtn e x) (hB : hdLe e B) : Shut x B := fun u hu => by
  obtain ⟨_, y, s, rfl, hy, _, hs⟩ := h
  cases B with
  | nil => trivial
  | cons b B =>
    have h5 : b.nd.1.dp ≤ e := hB
    show b.nd.1.dp ≤ u.nd.1.dp
    rcases List.mem_cons.1 hu with rfl | hu
    · omega
    · have := hs u hu; omega
theorem parts_le {e : Int} {P : List (List Nv)} (h : ∀ x ∈ P, Prtn e x) : hdLe e P.flatten := by
  cases P with
  | nil => trivial
  | cons x P =>
    obtain ⟨_, y, s, rfl, hy, _, _⟩ := h x (List.mem_cons_self ..)
    show y.nd.1.dp ≤ e
    omega
/-- Parts that were sorted, each for itself. -/
def SufP : List (List Nv) → List (List Nv) → Prop
  | [], [] => True
  | x :: P, y :: Q => SufR x y ∧ SufP P Q
  | _, _ => False
theorem suf_parts {e : Int} : ∀ {P : List (List Nv)} {R : List Nv}, (∀ x ∈ P, Prtn e x) → SufR P.flatten R → ∃ P' : List (List Nv), P'.flatten = R ∧ Cut P' ∧ SufP P P'
  | [], R, _, h => by
    have h' : R = [] := h
    subst h'
    exact ⟨[], rfl, fun x hx => by simp at hx, trivial⟩
  | x :: P, R, hP, h => by
    have hx := hP x (List.mem_cons_self ..)
    have hP' : ∀ u ∈ P, Prtn e u := fun u hu => hP u (List.mem_cons_of_mem _ hu)
    have hle := parts_le hP'
    have hgP := (parts_good hP' (B := []) trivial trivial)
    rw [List.append_nil] at hgP
    have hg : Good (x ++ P.flatten) := good_app hx.1 hgP.1 (part_shut hx hle)
    rw [List.flatten_cons] at h
    obtain ⟨A', B', rfl, k1, k2, k3⟩ := suf_split hg (part_shut hx hle) h
    obtain ⟨P', e1, e2, e3⟩ := suf_parts hP' k2
    refine ⟨A' :: P', by rw [List.flatten_cons, e1], fun u hu => ?_, ⟨k1, e3⟩⟩
    rcases List.mem_cons.1 hu with rfl | hu
    · obtain ⟨_, y, s, rfl, _, hct, _⟩ := hx
      obtain ⟨r', _, hr⟩ := k1
      rcases hr with ⟨_, rfl⟩ | ⟨_, G, G', _, _, _, _, rfl⟩
      · exact ⟨y, _, rfl, by rw [k3]; exact hct⟩
      · exact ⟨y, _, rfl, by rw [k3]; exact hct⟩
    · exact e2 u hu
theorem perm_sorted {l m : List (List Int)} (hl : l.Pairwise fun a b => ¬ cmpB b a < 0) (hm : m.Pairwise fun a b => ¬ cmpB b a < 0) (hp : l.Perm m) : l = m := by
  induction l generalizing m with
  | nil => exact (List.Perm.nil_eq hp)
  | cons a l ih =>
    cases m with
    | nil => exact absurd hp.length_eq (by simp)
    | cons b m =>
      have hab : a = b := by
        have h1 : a ∈ b :: m := hp.mem_iff.1 (List.mem_cons_self ..)
        have h2 : b ∈ a :: l := hp.mem_iff.2 (List.mem_cons_self ..)
        rcases List.mem_cons.1 h1 with h1 | h1
        · exact h1
        rcases List.mem_cons.1 h2 with h2 | h2
        · exact h2.symm
        have k1 := (List.pairwise_cons.1 hl).1 b h2
        have k2 := (List.pairwise_cons.1 hm).1 a h1
        have k3 := cmpB_swap a b
        exact cmpB_eq.1 (by omega)
      subst hab
      rw [ih (List.pairwise_cons.1 hl).2 (List.pairwise_cons.1 hm).2 (List.Perm.cons_inv hp)]
theorem srt_bt {G : List (List Nv)} (h : Srt G) : (G.map bt).Pairwise fun a b => ¬ cmpB b a < 0 := by
  rw [List.pairwise_map]
  exact h
/-- However a row was sorted set by set: the bytes are the same. -/
theorem suf_uniq : ∀ (n : Nat) {Z R1 R2 : List Nv}, Z.length ≤ n → Good Z → SufR Z R1 → SufR Z R2 → bt R1 = bt R2
  | _, [], R1, R2, _, _, h1, h2 => by
    have e1 : R1 = [] := h1
    have e2 : R2 = [] := h2
    rw [e1, e2]
  | 0, _ :: _, _, _, h, _, _, _ => by simp at h
  | n + 1, z :: r, R1, R2, hn, hg, h1, h2 => by
    obtain ⟨A, B, hr, hin, hA, hB⟩ := inn_cut z.nd.1.dp r
    subst hr
    simp only [List.length_cons, List.length_append] at hn
    have hsh : Shut A B := fun u hu => by
      have := hA u hu
      cases B with
      | nil => trivial
      | cons b B => have h5 : b.nd.1.dp ≤ z.nd.1.dp := hB; show b.nd.1.dp ≤ u.nd.1.dp; omega
    have hgA : Good A := good_left hg.1 hsh
    have hgB : Good B := good_right (A := A) hg.1
    have hct : z.ct - 1 = A.length := by
      have := hg.2.1
      rw [hin] at this
      unfold ndsOf at this
      rw [List.length_map] at this
      omega
    obtain ⟨r1, s1, t1⟩ := h1
    obtain ⟨r2, s2, t2⟩ := h2
    obtain ⟨A1, B1, rfl, a1, b1, l1⟩ := suf_split hg.1 hsh s1
    obtain ⟨A2, B2, rfl, a2, b2, l2⟩ := suf_split hg.1 hsh s2
    have hbB := suf_uniq n (by omega) hgB b1 b2
    rcases t1 with ⟨z1, rfl⟩ | ⟨z1, G1, G1', f1, c1, p1, o1, rfl⟩
    · rcases t2 with ⟨z2, rfl⟩ | ⟨z2, G2, G2', f2, c2, p2, o2, rfl⟩
      · have hbA := suf_uniq n (by omega) hgA a1 a2
        rw [bt_cons, bt_cons, bt_app, bt_app, hbA, hbB]
      · rw [z1] at z2; cases z2
    · rcases t2 with ⟨z2, rfl⟩ | ⟨z2, G2, G2', f2, c2, p2, o2, rfl⟩
      · rw [z1] at z2; cases z2
      · rw [hct, List.take_append_of_le_length (by omega), List.take_of_length_le (by omega)] at f1 f2
        rw [hct, List.drop_append_of_le_length (by omega), List.drop_of_length_le (by omega), List.nil_append, List.drop_append_of_le_length (by omega), List.drop_of_length_le (by omega), List.nil_append]
        have hdA : ∀ u ∈ A, z.nd.1.dp + 1 ≤ u.nd.1.dp := fun u hu => by have := hA u hu; omega
        obtain ⟨P, e1, e2, _⟩ := parts_of A.length A (z.nd.1.dp + 1) (Nat.le_refl _) hgA hdA (by
          cases A with
          | nil => trivial
          | cons y A => exact hg.2.2.2.2.2.2)
        subst e1
        obtain ⟨P1, g1, q1, w1⟩ := suf_parts e2 a1
        obtain ⟨P2, g2, q2, w2⟩ := suf_parts e2 a2
        have hG1 : G1 = P1 := cut_uniq c1 q1 (by rw [f1, g1])
        have hG2 : G2 = P2 := cut_uniq c2 q2 (by rw [f2, g2])
        subst hG1 hG2
        have hmm : ∀ (P G1 G2 : List (List Nv)), (∀ x ∈ P, Good x ∧ x.length ≤ n) → SufP P G1 → SufP P G2 → G1.map bt = G2.map bt := by
          intro P
          induction P with
          | nil =>
            intro G1 G2 _ h1 h2
            cases G1 with
            | nil => cases G2 with
              | nil => rfl
              | cons _ _ => exact h2.elim
            | cons _ _ => exact h1.elim
          | cons x P ih =>
            intro G1 G2 hx h1 h2
            cases G1 with
            | nil => exact h1.elim
            | cons y1 G1 => cases G2 with
              | nil => exact h2.elim
              | cons y2 G2 =>
                have hx0 := hx x (List.mem_cons_self ..)
                rw [List.map_cons, List.map_cons, suf_uniq n hx0.2 hx0.1 h1.1 h2.1, ih _ _ (fun y hy => hx y (List.mem_cons_of_mem _ hy)) h1.2 h2.2]
        have hlen : ∀ x ∈ P, x.length ≤ P.flatten.length := fun x hx => (List.sublist_flatten_of_mem hx).length_le
        have hbm := hmm P G1 G2 (fun x hx => ⟨(e2 x hx).1, by have := hlen x hx; omega⟩) w1 w2
        have hps : (G1'.map bt).Perm (G2'.map bt) := ((p1.map bt).trans (by rw [hbm])).trans (p2.map bt).symm
        have heq := perm_sorted (srt_bt o1) (srt_bt o2) hps
        rw [bt_cons, bt_cons, bt_app, bt_app, bt_flat, bt_flat, heq, hbB]
end Go.Proofs.YtekacoeikjonmaaDoor
/-
  Ber: what is sorted set by set stays so; the tree in the one way comes to itself (pure).
-/
namespace Go.Proofs.YtekacoeikjonmaaDoor
open Go.RowKit
theorem Eqv.refl (X : List Nv) : Eqv X X := fun _ => ⟨rfl, rfl⟩
theorem Eqv.trans {A B C : List Nv} (h : Eqv A B) (k : Eqv B C) : Eqv A C := fun d => ⟨(h d).1.trans (k d).1, (h d).2.trans (k d).2⟩
theorem part_cut {e : Int} {G : List (List Nv)} (h : ∀ x ∈ G, Prtn e x) : Cut G := fun x hx => by
  obtain ⟨_, y, s, h1, _, h2, _⟩ := h x hx
  exact ⟨y, s, h1, h2⟩
theorem suf_head {z : Nv} {r R : List Nv} (h : SufR (z :: r) R) : ∃ s, R = z :: s := by
  obtain ⟨_, _, h⟩ := h
  rcases h with ⟨_, rfl⟩ | ⟨_, _, _, _, _, _, _, rfl⟩
  · exact ⟨_, rfl⟩
  · exact ⟨_, rfl⟩
theorem good_eqv {z : Nv} {r r' : List Nv} (h : Good (z :: r)) (hg : Good r') (he : Eqv r r') (hh : hdOk z.nd.1.dp (ndsOf r')) : Good (z :: r') := by
  obtain ⟨h1, h2, h3, h4, h5, h6, h7⟩ := h
  have e := he z.nd.1.dp
  refine ⟨hg, by rw [← e.1]; exact h2, by rw [← e.2]; exact h3, h4, fun hc => ?_, by rw [← e.2]; exact h6, hh⟩
  have := h5 hc
  rw [this] at e
  exact List.eq_nil_of_length_eq_zero (by rw [← e.1]; rfl)
theorem sufP_self {e : Int} : ∀ {G : List (List Nv)}, (∀ x ∈ G, Prtn e x ∧ SufR x x) → ∀ {B : List Nv}, Good B → hdLe e B → SufR B B → SufR (G.flatten ++ B) (G.flatten ++ B)
  | [], _, B, _, _, hB => hB
  | x :: G, h, B, hgB, hle, hB => by
    have hx := h x (List.mem_cons_self ..)
    have hG : ∀ y ∈ G, Prtn e y ∧ SufR y y := fun y hy => h y (List.mem_cons_of_mem _ hy)
    have ih := sufP_self hG hgB hle hB
    have hg := parts_good (fun y hy => (hG y hy).1) hgB hle
    rw [List.flatten_cons, List.append_assoc]
    exact suf_join (good_app hx.1.1 hg.1 (part_shut hx.1 hg.2)) (part_shut hx.1 hg.2) hx.2 ih rfl
theorem sufP_mem : ∀ {G : List (List Nv)}, SufP G G → ∀ x ∈ G, SufR x x
  | [], _, x, hx => by simp at hx
  | y :: G, h, x, hx => by
    rcases List.mem_cons.1 hx with rfl | hx
    · exact h.1
    · exact sufP_mem h.2 x hx
/-- What is sorted set by set stays so. -/
theorem suf_fix : ∀ {Z R : List Nv}, Good Z → SufR Z R → Good R ∧ SufR R R ∧ Eqv Z R
  | [], R, _, h => by
    have h' : R = [] := h
    subst h'
    exact ⟨trivial, rfl, Eqv.refl _⟩
  | z :: r, R, hg, h => by
    obtain ⟨r', h1, h2⟩ := h
    obtain ⟨k1, k2, k3⟩ := suf_fix hg.1 h1
    have hh : hdOk z.nd.1.dp (ndsOf r') := by
      have h7 := hg.2.2.2.2.2.2
      cases r with
      | nil =>
        have h' : r' = [] := h1
        subst h'
        exact h7
      | cons y r =>
        obtain ⟨s, rfl⟩ := suf_head h1
        exact h7
    have hgz := good_eqv hg k1 k3 hh
    rcases h2 with ⟨hz, rfl⟩ | ⟨hz, G, G', hG, hc, hp, hs, rfl⟩
    · exact ⟨hgz, ⟨r', k2, .inl ⟨hz, rfl⟩⟩, k3.cons z⟩
    · obtain ⟨G0, B, p1, p2, p3, p4, p5, p6, _⟩ := set_parts hgz
      have hG0 : G = G0 := cut_uniq hc (part_cut p4) (by rw [hG, p2])
      subst hG0
      rw [← p3]
      subst p1
      have hshut : Shut G.flatten B := fun u hu => by
        have := parts_deep p4 u hu
        cases B with
        | nil => trivial
        | cons b B => have h5 : b.nd.1.dp ≤ z.nd.1.dp := p5; show b.nd.1.dp ≤ u.nd.1.dp; omega
      obtain ⟨A', B', q1, q2, q3, q4⟩ := suf_split k1 hshut k2
      have q5 := List.append_inj q1 q4.symm
      obtain ⟨rfl, rfl⟩ := q5
      obtain ⟨P', w1, w2, w3⟩ := suf_parts p4 q2
      have hP : P' = G := cut_uniq w2 hc w1
      subst hP
      have hself := sufP_mem w3
      have hG' : ∀ x ∈ G', Prtn (z.nd.1.dp + 1) x ∧ SufR x x := fun x hx => ⟨p4 x (hp.mem_iff.1 hx), hself x (hp.mem_iff.1 hx)⟩
      have hleB : hdLe (z.nd.1.dp + 1) B := by
        cases B with
        | nil => trivial
        | cons b B => have h5 : b.nd.1.dp ≤ z.nd.1.dp := p5; show b.nd.1.dp ≤ _; omega
      have hjoin := sufP_self hG' (good_right (A := P'.flatten) k1) hleB q3
      have hl : G'.flatten.length = z.ct - 1 := by rw [hp.flatten.length_eq, p6]
      refine ⟨set_good hgz p4 p5 hp, ⟨_, hjoin, .inr ⟨hz, G', G', ?_, part_cut fun x hx => (hG' x hx).1, List.Perm.refl _, hs, ?_⟩⟩, (k3.cons z).trans (eqv_set p4 hp)⟩
      · rw [List.take_append_of_le_length (by omega), List.take_of_length_le (by omega)]
      · rw [List.drop_append_of_le_length (by omega), List.drop_of_length_le (by omega), List.nil_append]
/-- What of a node counts. -/
def pk (z : Nv) : Nv := { z with s := .nilIface, f := .nilIface, sz := 0 }
theorem bt_pk (R : List Nv) : bt (R.map pk) = bt R := by
  unfold bt ndsOf
  rw [List.map_map]
  rfl
theorem ndsOf_pk (R : List Nv) : ndsOf (R.map pk) = ndsOf R := by
  unfold ndsOf
  rw [List.map_map]
  rfl
theorem good_pk : ∀ {R : List Nv}, Good R → Good (R.map pk)
  | [], _ => trivial
  | z :: r, h => by
    obtain ⟨h1, h2, h3, h4, h5, h6, h7⟩ := h
    rw [List.map_cons]
    refine ⟨good_pk h1, ?_, ?_, h4, ?_, ?_, ?_⟩
    · rw [ndsOf_pk]; exact h2
    · rw [ndsOf_pk]; exact h3
    · rw [ndsOf_pk]; exact h5
    · rw [ndsOf_pk]; exact h6
    · rw [ndsOf_pk]; exact h7
theorem suf_pk : ∀ {Z R : List Nv}, SufR Z R → SufR (Z.map pk) (R.map pk)
  | [], R, h => by
    have h' : R = [] := h
    subst h'
    rfl
  | z :: r, R, h => by
    obtain ⟨r', h1, h2⟩ := h
    refine ⟨r'.map pk, suf_pk h1, ?_⟩
    rcases h2 with ⟨hz, rfl⟩ | ⟨hz, G, G', hG, hc, hp, hs, rfl⟩
    · exact .inl ⟨hz, rfl⟩
    · refine .inr ⟨hz, G.map (List.map pk), G'.map (List.map pk), ?_, fun x hx => ?_, hp.map _, ?_, ?_⟩
      · rw [← List.map_flatten, hG, List.map_take]; rfl
      · obtain ⟨u, hu, rfl⟩ := List.mem_map.1 hx
        obtain ⟨y, s, rfl, hct⟩ := hc u hu
        exact ⟨pk y, s.map pk, rfl, by rw [List.length_map]; exact hct⟩
      · unfold Srt at *
        rw [List.pairwise_map]
        refine hs.imp fun {a b} h => ?_
        have e1 := bt_pk a
        have e2 := bt_pk b
        unfold bt at e1 e2
        rw [e1, e2]; exact h
      · rw [← List.map_flatten]
        simp only [List.map_cons, List.map_append, List.map_drop]
        rfl
theorem good_nds : ∀ {R : List Nv}, Good R → ndsOf R = nds (R.map fun z : Nv => z.nd.1)
  | [], _ => rfl
  | z :: r, h => by
    have ih := good_nds h.1
    show z.nd :: ndsOf r = nds (z.nd.1 :: r.map fun z : Nv => z.nd.1)
    rw [nds, ← ih, ← h.2.2.1]
theorem key_eq : ∀ {Z R : List Nv}, Good Z → Good R → ndsOf Z = ndsOf R → Z.map pk = R.map pk
  | [], [], _, _, _ => rfl
  | [], _ :: _, _, _, h => by simp [ndsOf] at h
  | _ :: _, [], _, _, h => by simp [ndsOf] at h
  | z :: r, z' :: r', h, h', he => by
    have he' : z.nd :: ndsOf r = z'.nd :: ndsOf r' := he
    obtain ⟨e1, e2⟩ := List.cons.inj he'
    rw [List.map_cons, List.map_cons, key_eq h.1 h'.1 e2]
    have hct : z.ct = z'.ct := by rw [h.2.1, h'.2.1, e1, e2]
    have : pk z = pk z' := by unfold pk; rw [e1, hct]
    rw [this]
/-- The bytes of the tree in the one way are one. -/
theorem nrm_uniq {S A B : List Te} (hT : treeB S = true) (hb : byt (nds S) < 281474976710656) (hA : NrmR S A) (hB : NrmR S B) : bytesOf (nds A) = bytesOf (nds B) := by
  obtain ⟨Y1, Z1, R1, y1, m1, s1, g1, _, l1⟩ := hA
  obtain ⟨Y2, Z2, R2, y2, m2, s2, g2, _, l2⟩ := hB
  have k1 := tree_good y1 m1 hT hb
  have k2 := tree_good y2 m2 hT hb
  have e1 : ndsOf Z1 = nds S := by rw [← y1]; exact MeasZ.row m1
  have e2 : ndsOf Z2 = nds S := by rw [← y2]; exact MeasZ.row m2
  have hk := key_eq k1 k2 (e1.trans e2.symm)
  have p1 := suf_pk s1
  have p2 := suf_pk s2
  rw [← hk] at p2
  have hu := suf_uniq _ (Nat.le_refl _) (good_pk k1) p1 p2
  rw [bt_pk, bt_pk] at hu
  rw [← l1, ← l2, ← good_nds g1, ← good_nds g2]
  exact hu
/-- It comes to itself. -/
theorem nrm_again {S A B : List Te} (hT : treeB S = true) (hb : byt (nds S) < 281474976710656) (hA : NrmR S A) (hTA : treeB A = true) (hbA : byt (nds A) < 281474976710656) (hB : NrmR A B) : bytesOf (nds B) = bytesOf (nds A) := by
  obtain ⟨Y1, Z1, R1, y1, m1, s1, g1, _, l1⟩ := hA
  obtain ⟨Y2, Z2, R2, y2, m2, s2, g2, _, l2⟩ := hB
  have k1 := tree_good y1 m1 hT hb
  have k2 := tree_good y2 m2 hTA hbA
  obtain ⟨_, f2, _⟩ := suf_fix k1 s1
  have e1 : ndsOf R1 = nds A := by rw [← l1]; exact good_nds g1
  have e2 : ndsOf Z2 = nds A := by rw [← y2]; exact MeasZ.row m2
  have hk := key_eq g1 k2 (e1.trans e2.symm)
  have p1 := suf_pk f2
  have p2 := suf_pk s2
  rw [← hk] at p2
  have hu := suf_uniq _ (Nat.le_refl _) (good_pk g1) p2 p1
  rw [bt_pk, bt_pk] at hu
  rw [← l2, ← good_nds g2, ← e1]
  exact hu
end Go.Proofs.YtekacoeikjonmaaDoor
