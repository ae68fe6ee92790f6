/-
  The law BerOwn: what is read shares nothing with the bytes, nor one element with another; a tree in the one way shares nothing with the row.
-/
import Derived.Test.YtekacoeikjonmaaDoorK33
namespace Go.Proofs.YtekacoeikjonmaaDoor
open Go.RowKit
theorem prF_good {M : List Int} (hM : U8s M) : ∀ (f p q : Nat) (S : List Prt) (L : List Te) (R : Nat × List Te), L.length ≤ 65536 → (∀ x ∈ L, U8s x.d ∧ x.d.length ≤ M.length) → prF M f p q S L = .inr R → R.2.length ≤ 65536 ∧ ∀ x ∈ R.2, U8s x.d ∧ x.d.length ≤ M.length
  | 0, _, _, _, _, _, _, _, h => by simp [prF] at h
  | f + 1, p, q, S, L, R, hL, hP, h => by
    rw [prF] at h
    cases hb : belS M p q L.length S.length with
    | inl e => rw [hb] at h; cases h
    | inr r =>
      obtain ⟨t, l, j⟩ := r
      rw [hb] at h
      have h1 := belS_many hb
      have hL' : (L ++ [belE M p S.length t l j]).length ≤ 65536 := by rw [List.length_append, List.length_singleton]; omega
      have hP' : ∀ x ∈ L ++ [belE M p S.length t l j], U8s x.d ∧ x.d.length ≤ M.length := by
        intro x hx
        rcases List.mem_append.1 hx with hx | hx
        · exact hP x hx
        · rw [List.mem_singleton] at hx
          subst hx
          unfold belE
          simp only []
          split
          · exact ⟨(by intro y hy; cases hy), by simp⟩
          · refine ⟨(hM.drop j).take _, ?_⟩
            rw [List.length_take, List.length_drop]; omega
      simp only [] at h
      split at h
      · cases h; exact ⟨hL', hP'⟩
      · exact prF_good hM f _ _ _ _ R hL' hP' h
theorem parse_good {M : List Int} (hM : U8s M) {L : List Te} (h : parseS M = .inr L) : L.length ≤ 65536 ∧ ∀ x ∈ L, U8s x.d ∧ x.d.length ≤ M.length := by
  unfold parseS at h
  split at h
  · cases h
  cases hp : pr M 0 M.length [] [] with
  | inl x => rw [hp] at h; cases h
  | inr x =>
    have h1 := prF_good hM _ _ _ _ _ x (by simp) (by simp) hp
    obtain ⟨p, L'⟩ := x
    rw [hp] at h
    simp only [] at h
    split at h
    · cases h
    · cases h; exact h1
theorem datL_le {m : Nat} : ∀ {L : List Te}, (∀ x ∈ L, x.d.length ≤ m) → datL L ≤ L.length * m
  | [], _ => by simp [datL]
  | x :: r, h => by
    have h1 := h x (List.mem_cons_self ..)
    have h2 := datL_le (L := r) fun y hy => h y (List.mem_cons_of_mem _ hy)
    simp only [datL, List.length_cons]
    rw [Nat.add_mul]; omega
/-- What Normal answers, told at once. -/
theorem NrOut.uni {B : Nat} {w : World} {e : Ending} {L : List Te} (h : NrOut B w e L) (hL : L.length ≤ 65536) (hd : datL L ≤ 131072000) : ∃ v er at_ L', e = .returned (.tuple #[v, .int .i64 er, .int .i64 at_]) ∧ Elems B w v L' ∧ L'.length ≤ 65536 ∧ datL L' ≤ 131137536 := by
  rcases h with ⟨_, rfl⟩ | ⟨_, er, i, _, rfl⟩ | ⟨_, _, v, L', rfl, hN, hE⟩
  · exact ⟨_, _, _, [], rfl, Elems.nil _ _, by simp, by simp [datL]⟩
  · exact ⟨_, _, _, [], rfl, Elems.nil _ _, by simp, by simp [datL]⟩
  · have h1 := nrm_dat hN
    have h2 : datL (setL L) ≤ datL L + L.length := set_dat _ _
    have h3 : (setL L).length ≤ L.length := setF_len _ _
    exact ⟨v, _, _, L', rfl, hE, by omega, by omega⟩
theorem u8s1234 : U8s [1, 2, 3, 4] := by intro x hx; unfold U8; simp at hx; omega
set_option maxRecDepth 20000 in
set_option maxHeartbeats 8000000 in
theorem BerOwn_any {w : World} (hG : GlbE w) (a : Option Addr) (n c : Nat) (X : List Int) (hX : Sl .u8 w (.slice a n c) X) (uX : U8s X) (hn0 : n ≤ 9223372036854775807) :
    Calls Tryd.prog 6 #[.slice a n c] w fun e w' => e = .returned (.bool true) ∧ Below w.heap.size w w' := by
  have HX : Hid (GlbE w ∧ Sl .u8 w (.slice a n c) X ∧ U8s X ∧ X.length = n) := ⟨hG, hX, uX, hX.lens.1.symm⟩
  have HL : Hid (∀ W : World, Below w.heap.size w W → Calls Tryd.prog 7 #[] W fun e w' => e = .returned (.bool true) ∧ Below W.heap.size W w') := fun W hW => live03_any (HX.out.1.below hW)
  clear hG hX uX
  by_cases hn : 2000 < n
  · have hnI : (2000 : Int) < (n : Int) := by omega
    have hn0I : (n : Int) ≤ 9223372036854775807 := by omega
    go_enter Tryd.func6, Tryd.ntmps6
    go_wp2_with fail
    refine (HL.out w (Below.refl _ _)).mono ?_
    rintro e w1 ⟨rfl, hb⟩
    go_wp2
    go_ret
    exact ⟨rfl, hb⟩
  have hnI : ¬ (2000 : Int) < (n : Int) := by omega
  have hn2 : n ≤ 2000 := by omega
  have hn2I : (n : Int) ≤ 2000 := by omega
  clear hn hn0
  go_enter Tryd.func6, Tryd.ntmps6
  go_upto_region 4 with (at_builtin; refine wpList_ap rfl (.tmp 17) (.tmp 18) 22 22 rfl .u8 5 1 Tryd.und8 Tryd.info8 (by decide) w.heap.size _ [] rfl (row_emp w) _ X rfl (src_sl Tryd.und8 (below_sl (al1 _) HX.out.2.1)) (by have := HX.out.2.2.2; simp only [List.length_nil]; omega) (by simp) ?_; intro v1 w1 hr1 hg1; have hB1 := hg1.below (row_emp w) (by simp))
  rw [List.nil_append] at hr1
  obtain ⟨a1, c1, hv1⟩ := hr1.ne
  rw [HX.out.2.2.2] at hv1
  subst hv1
  have H1 : Hid (Row .u8 5 w.heap.size w1 (.slice a1 n c1) X ∧ Below w.heap.size w w1) := ⟨hr1, (al1 _).trans hB1⟩
  clear hr1 hg1 hB1
  have hP := Parse_any (w := w1) (HX.out.1.below H1.out.2) (.slice a1 n c1) X H1.out.1.sl HX.out.2.2.1 (by have := HX.out.2.2.2; omega)
  cases hp : parseS X with
  | inl ea =>
    obtain ⟨er, at_⟩ := ea
    rw [hp] at hP
    have HP : Hid (Calls Tryd.prog 14 #[.slice a1 n c1] w1 fun e w' => e = .returned (.tuple #[.slice none 0 0, .int .i64 er, .int .i64 (at_ : Int)]) ∧ Below w1.heap.size w1 w') := hP
    have her : (er != 0) = true := by have := (parse_in HX.out.2.2.1 hp).2; simp; omega
    clear hP hp
    go_wp2_with fail
    refine HP.out.mono ?_
    rintro e w2 ⟨rfl, hb⟩
    have HB : Hid (Below w.heap.size w w2) := below_via H1.out.2 hb (Nat.le_refl _)
    clear hb
    go_wp2_with (first | (go_at_call 9; refine (num3_any _).mono ?_; rintro e w' ⟨rfl, rfl⟩) | (go_at_call 7; refine (HL.out _ HB.out).mono ?_; rintro ev w3 ⟨rfl, hb2⟩))
    go_ret
    exact ⟨rfl, below_via HB.out hb2 (Nat.le_refl _)⟩
  | inr L =>
    have hgd := parse_good HX.out.2.2.1 hp
    rw [HX.out.2.2.2] at hgd
    have hdl : datL L ≤ L.length * 2000 := datL_le fun x hx => by have := (hgd.2 x hx).2; omega
    have HQ : Hid (L.length ≤ 65536 ∧ (∀ x ∈ L, U8s x.d ∧ x.d.length ≤ 2000) ∧ datL L ≤ 131072000) := ⟨hgd.1, fun x hx => ⟨(hgd.2 x hx).1, by have := (hgd.2 x hx).2; omega⟩, by have := hgd.1; omega⟩
    rw [hp] at hP
    have HP : Hid (Calls Tryd.prog 14 #[.slice a1 n c1] w1 fun e w' => (∃ v, e = .returned (.tuple #[v, .int .i64 0, .int .i64 (X.length : Int)]) ∧ Elems w1.heap.size w' v L) ∧ Below w1.heap.size w1 w') := hP
    clear hP hp hgd hdl
    go_wp2_with fail
    refine HP.out.mono ?_
    rintro e w2 ⟨⟨v2, rfl, ht2⟩, hb2⟩
    obtain ⟨Y, hYL, hm, hrows, hap⟩ := ht2
    obtain ⟨al, cl, hv⟩ := hm.ne
    obtain ⟨k, hk⟩ : ∃ k, Y.length = k := ⟨_, rfl⟩
    rw [hk] at hv
    subst hv
    have hF2 : ElF w1.heap.size w2 (.slice al k cl) Y 0 := ⟨hm, fun j y _ hy => hrows y (List.mem_of_getElem? hy)⟩
    have HY : Hid (Y.map (·.1) = L ∧ Y.length = k ∧ L.length = k ∧ Apart (Y.map (·.2)) ∧ ∀ y ∈ Y, ∀ b, blkOf y.2 = some b → w1.heap.size ≤ b ∧ b < w2.heap.size) :=
      ⟨hYL, hk, by rw [← hYL, List.length_map, hk], hap, fun y hy b hb => (hrows y hy).blk_lt hb⟩
    have H2 : Hid (ElF w1.heap.size w2 (.slice al k cl) Y 0 ∧ Below w1.heap.size w1 w2 ∧ ElS w2 (.slice al k cl) L) := ⟨hF2, hb2, by have := hF2.s hap; rwa [hYL] at this⟩
    clear hm hrows hap hF2 hb2 hk hYL
    go_wp2_with (go_at_call 9; refine (num3_any _).mono ?_; rintro e w' ⟨rfl, rfl⟩)
    refine (Copy_any _ L H2.out.2.2 HQ.out.1 (by have := HQ.out.2.2; omega)).mono ?_
    rintro e w3 ⟨⟨v3, rfl, ht3⟩, hb3⟩
    obtain ⟨a3, c3, hv3⟩ := ht3.len
    rw [HY.out.2.2.1] at hv3
    subst hv3
    have H3 : Hid (ElF w1.heap.size w3 (.slice al k cl) Y 0 ∧ Elems w2.heap.size w3 (.slice a3 k c3) L ∧ Below w1.heap.size w1 w3 ∧ w2.heap.size ≤ w3.heap.size) := ⟨H2.out.1.below hb3, ht3, below_via H2.out.2.1 hb3 (Nat.le_refl _), hb3.size⟩
    clear ht3 hb3
    go_wp2_with fail
    refine (Spoil_own _ ((H1.out.1.below H3.out.2.2.1).own8 (by have := HX.out.2.2.2; omega))).mono ?_
    rintro e w4 ⟨rfl, ho4, _⟩
    have H4 : Hid (ElF w1.heap.size w4 (.slice al k cl) Y 0 ∧ Elems w2.heap.size w4 (.slice a3 k c3) L ∧ Below w.heap.size w w4 ∧ w3.heap.size ≤ w4.heap.size) := by
      have h1 := ho4 (fun j => blkOf (.slice a1 n c1) = some j) (fun _ h => h)
      refine ⟨H3.out.1.onlB h1 (fun j hj => (H1.out.1.blk_lt hj).2), h1.elems H3.out.2.1 (fun j hj => by have := (H1.out.1.blk_lt hj).2; have := H2.out.2.1.size; omega), ?_, h1.size⟩
      exact h1.below (below_via H1.out.2 H3.out.2.2.1 (Nat.le_refl _)) (Nat.le_trans H1.out.2.size H3.out.2.2.1.size) (fun j hj => (H1.out.1.blk_lt hj).1)
    clear ho4
    have HS4 : Hid (ElS w4 (.slice al k cl) L) := by have := H4.out.1.s HY.out.2.2.2.1; rwa [HY.out.1] at this
    go_wp2_with fail
    refine (Same_any _ _ L HS4.out H4.out.2.1.s (by have := HQ.out.1; omega) (fun y hy => by have := (HQ.out.2.1 y hy).2; omega)).mono ?_
    rintro e w5 ⟨rfl, hb5⟩
    have H5 : Hid (ElF w1.heap.size w5 (.slice al k cl) Y 0 ∧ Elems w2.heap.size w5 (.slice a3 k c3) L ∧ Below w.heap.size w w5 ∧ w2.heap.size ≤ w5.heap.size ∧ w1.heap.size ≤ w2.heap.size ∧ w.heap.size ≤ w1.heap.size ∧ ElS w5 (.slice al k cl) L) := ⟨H4.out.1.below hb5, H4.out.2.1.below hb5, below_via H4.out.2.2.1 hb5 (Nat.le_refl _), by have := H3.out.2.2.2; have := H4.out.2.2.2; have := hb5.size; omega, H2.out.2.1.size, H1.out.2.size, HS4.out.below hb5⟩
    clear hb5
    go_wp2_with fail
    refine (Normal_any (HX.out.1.below H5.out.2.2.1) _ L H5.out.2.2.2.2.2.2 ⟨by have := HQ.out.1; omega, fun x hx => (HQ.out.2.1 x hx).1, by have := HQ.out.2.2; omega, fun hT hC => chk_set hT hC⟩).mono ?_
    rintro e w6 ⟨hN, hb6⟩
    obtain ⟨vm, fe, pe, Lm, rfl, hEm, hLm, hDm⟩ := hN.uni HQ.out.1 HQ.out.2.2
    have H6 : Hid (ElF w1.heap.size w6 (.slice al k cl) Y 0 ∧ Elems w2.heap.size w6 (.slice a3 k c3) L ∧ Elems w5.heap.size w6 vm Lm ∧ Below w.heap.size w w6 ∧ w5.heap.size ≤ w6.heap.size) := ⟨H5.out.1.below hb6, H5.out.2.1.below hb6, hEm, below_via H5.out.2.2.1 hb6 (Nat.le_refl _), hb6.size⟩
    have HM : Hid (Lm.length ≤ 65536 ∧ datL Lm ≤ 131137536) := ⟨hLm, hDm⟩
    clear hN hb6 hEm hLm hDm
    go_wp2_with fail
    refine (Copy_any _ Lm H6.out.2.2.1.s HM.out.1 (by have := HM.out.2; omega)).mono ?_
    rintro e w7 ⟨⟨vk, rfl, htk⟩, hb7⟩
    have H7 : Hid (ElF w1.heap.size w7 (.slice al k cl) Y 0 ∧ Elems w2.heap.size w7 (.slice a3 k c3) L ∧ Elems w5.heap.size w7 vm Lm ∧ Elems w6.heap.size w7 vk Lm ∧ Below w.heap.size w w7 ∧ w2.heap.size ≤ w7.heap.size) := ⟨H6.out.1.below hb7, H6.out.2.1.below hb7, H6.out.2.2.1.below hb7, htk, below_via H6.out.2.2.2.1 hb7 (Nat.le_refl _), by have := H5.out.2.2.2.1; have := H6.out.2.2.2.2; have := hb7.size; omega⟩
    clear htk hb7
    have hk6 : k ≤ 65536 := by have := HY.out.2.2.1; have := HQ.out.1; omega
    go_wp2_with fail
    go_loopw [12] (fun iv wr => ∃ i : Nat, iv = .int .i64 i ∧ i ≤ k ∧ ElF w1.heap.size wr (.slice al k cl) Y i ∧ Elems w2.heap.size wr (.slice a3 k c3) L ∧ Elems w5.heap.size wr vm Lm ∧ Elems w6.heap.size wr vk Lm ∧ Below w.heap.size w wr ∧ w2.heap.size ≤ wr.heap.size) (fun iv _ => k - (intOf iv).toNat)
    case atStart => exact ⟨0, rfl, by omega, H7.out.1, H7.out.2.1, H7.out.2.2.1, H7.out.2.2.2.1, H7.out.2.2.2.2.1, H7.out.2.2.2.2.2⟩
    case round =>
      obtain ⟨i, rfl, hi, hF, hM, hMm, hMk, hB, hsz⟩ := hrel
      by_cases hlt : i < k
      · have l1 : (i : Int) < (k : Int) := by omega
        obtain ⟨⟨x, d⟩, hy⟩ : ∃ y, Y[i]? = some y := ⟨_, List.getElem?_eq_getElem (by have := HY.out.2.1; omega)⟩
        have hyr := hF.rows i _ (Nat.le_refl _) hy
        have hxL : x ∈ L := by rw [← HY.out.1]; exact List.mem_map.2 ⟨_, List.mem_of_getElem? hy, rfl⟩
        have hxl := (HQ.out.2.1 x hxL).2
        have hapt := apart_at Y HY.out.2.2.2.1 i _ hy
        have hblk := HY.out.2.2.2.2 _ (List.mem_of_getElem? hy)
        simp only [] at hyr hapt hblk
        obtain ⟨ad, cd, hd⟩ := hyr.ne
        obtain ⟨nd, hnd⟩ : ∃ nd, x.d.length = nd := ⟨_, rfl⟩
        rw [hnd] at hd
        subst hd
        obtain ⟨bl, hal, hkc, hbl, hcell⟩ := hF.mrow.cellQ hlt HY.out.2.1 hy
        subst hal
        have e3 : wr.cell? ⟨bl, i * 5 + 4, none⟩ = some (.slice ad nd cd) := hcell 4 _ (by omega) rfl
        have HR : Hid (ElF w1.heap.size wr (.slice (some ⟨bl, 0, none⟩) k cl) Y i ∧ Elems w2.heap.size wr (.slice a3 k c3) L ∧ Elems w5.heap.size wr vm Lm ∧ Elems w6.heap.size wr vk Lm ∧ Below w.heap.size w wr ∧ w2.heap.size ≤ wr.heap.size ∧ Y[i]? = some (x, .slice ad nd cd) ∧ x.d.length = nd ∧ x.d.length ≤ 2000) := ⟨hF, hM, hMm, hMk, hB, hsz, hy, hnd, hxl⟩
        have HA : Hid (Row .u8 5 w1.heap.size wr (.slice ad nd cd) x.d) := hyr
        have HP' : Hid ((∀ (j : Nat) (z : Tv), i < j → Y[j]? = some z → ∀ b, blkOf (.slice ad nd cd) = some b → blkOf z.2 ≠ some b) ∧ ∀ b, blkOf (.slice ad nd cd) = some b → w1.heap.size ≤ b ∧ b < w2.heap.size) := ⟨hapt, hblk⟩
        have hkcI : (k : Int) ≤ (cl : Int) := by omega
        clear hF hM hMm hMk hB hsz hy hyr hxL hxl hapt hblk hnd hcell
        go_wp2_with (at_builtin; refine wpList_apL rfl (.tmp 56) (.tmp 57) 22 22 rfl .u8 5 1 Tryd.und8 Tryd.info8 (by decide) w1.heap.size _ x.d rfl (HA.out.alloc _) _ [1, 2, 3, 4] rfl (src_sl Tryd.und8 (Arr.sl (S := [1, 2, 3, 4]) (arr_nw rfl rfl))) (by have := HR.out.2.2.2.2.2.2.2.2; simp; omega) (by have := HR.out.2.2.2.2.2.1; have := H5.out.2.2.2.2.1; simp; omega) ?_; intro v6 w8 hr6 hg6 hl6)
        refine (Spoil_own _ (hr6.own8 (by have := HR.out.2.2.2.2.2.2.2.2; rw [List.length_append]; simp; omega))).mono ?_
        rintro e w9 ⟨rfl, ho7, ht7⟩
        have H9 : Hid (Onl (fun j => blkOf (.slice ad nd cd) = some j) wr w9 ∧ Had w9 (.slice ad nd cd)) := by
          have o6 : Onl (fun j => blkOf (.slice ad nd cd) = some j) wr w8 := (Onl.ofBelow (al1 _)).trans hg6.onl
          refine ⟨o6.comb (ho7 _ fun b hb => ?_), ((hg6.had (HA.out.had.below (al1 _))).turn ht7)⟩
          rcases hl6 with h | h
          · rw [h] at hb; exact .inl hb
          · rw [h] at hb
            simp only [Option.some.injEq] at hb
            have := (al1 (w := wr) (.cells #[.int .u8 1, .int .u8 2, .int .u8 3, .int .u8 4] 5)).size
            exact .inr (by omega)
        have e3' : w9.cell? ⟨bl, i * 5 + 4, none⟩ = some (.slice ad nd cd) := by
          have hm7 := H9.out.1.mrow HR.out.1.mrow (fun _ _ hS _ hd => HA.out.not_el hS hd)
          obtain ⟨bl', hal, _, _, hcell⟩ := hm7.cellQ hlt HY.out.2.1 HR.out.2.2.2.2.2.2.1
          simp only [Option.some.injEq, Addr.mk.injEq, and_true] at hal
          subst hal
          exact hcell 4 _ (by omega) rfl
        clear hr6 hg6 hl6 ho7 ht7 e3
        go_wp2_with fail
        refine (Spoil_own _ (H9.out.2.own (by have := HR.out.2.2.2.2.2.2; omega))).mono ?_
        rintro e w10 ⟨rfl, ho8, _⟩
        have h8 := H9.out.1.trans (ho8 _ fun _ h => h)
        have hF8 : ElF w1.heap.size w10 (.slice (some ⟨bl, 0, none⟩) k cl) Y (i + 1) := HR.out.1.next.onl h8 HA.out (fun j y hj hy b hb => HP'.out.1 j y (by omega) hy b hb)
        have hM8 : Elems w2.heap.size w10 (.slice a3 k c3) L := h8.elems HR.out.2.1 (fun j hj => (HP'.out.2 j hj).2)
        have hMm8 : Elems w5.heap.size w10 vm Lm := h8.elems HR.out.2.2.1 (fun j hj => by have := (HP'.out.2 j hj).2; have := H5.out.2.2.2.1; omega)
        have hMk8 : Elems w6.heap.size w10 vk Lm := h8.elems HR.out.2.2.2.1 (fun j hj => by have := (HP'.out.2 j hj).2; have := H5.out.2.2.2.1; have := H6.out.2.2.2.2; omega)
        have hB8 : Below w.heap.size w w10 := h8.below HR.out.2.2.2.2.1 HR.out.2.2.2.2.1.size (fun j hj => by have := (HP'.out.2 j hj).1; have := H5.out.2.2.2.2.2.1; omega)
        obtain ⟨Y3, hY3L, hF3⟩ := hM8.f (i + 1)
        have hY3k : Y3.length = k := by rw [← HY.out.2.2.1, ← hY3L, List.length_map]
        obtain ⟨y3, hy3⟩ : ∃ y, Y3[i]? = some y := ⟨_, List.getElem?_eq_getElem (by omega)⟩
        obtain ⟨b3, ha3, hkc3, hb3, _⟩ := hF3.mrow.cellQ hlt hY3k hy3
        subst ha3
        obtain ⟨i1, hi1⟩ : ∃ i1, i + 1 = i1 := ⟨_, rfl⟩
        rw [hi1] at hF8 hF3
        obtain ⟨u1, hu1⟩ : ∃ u1 : Option Addr, (if cl = i1 then some ⟨bl, 0, none⟩ else some ⟨bl, i1 * 5, none⟩) = u1 := ⟨_, rfl⟩
        obtain ⟨u3, hu3⟩ : ∃ u3 : Option Addr, (if c3 = i1 then some ⟨b3, 0, none⟩ else some ⟨b3, i1 * 5, none⟩) = u3 := ⟨_, rfl⟩
        have HF : Hid (ElF w1.heap.size w10 (.slice (some ⟨bl, 0, none⟩) k cl) Y i1 ∧ Elems w2.heap.size w10 (.slice (some ⟨b3, 0, none⟩) k c3) L ∧ Elems w5.heap.size w10 vm Lm ∧ Elems w6.heap.size w10 vk Lm ∧ Below w.heap.size w w10 ∧ w2.heap.size ≤ w10.heap.size ∧ i + 1 = i1) := ⟨hF8, hM8, hMm8, hMk8, hB8, by have := HR.out.2.2.2.2.2.1; have := h8.size; omega, hi1⟩
        have HS1 : Hid (ElS w10 (.slice u1 (k - i1) (cl - i1)) (L.drop i1)) := by
          have := hF8.drop (a' := u1) HY.out.2.1 (by omega) (by rw [← hu1]; exact addr5 _ _ _)
          rw [List.map_drop, HY.out.1] at this
          exact this
        have HS3 : Hid (ElS w10 (.slice u3 (k - i1) (c3 - i1)) (L.drop i1)) := by
          have := hF3.drop (a' := u3) hY3k (by omega) (by rw [← hu3]; exact addr5 _ _ _)
          rw [List.map_drop, hY3L] at this
          exact this
        have i1I : (i : Int) + 1 = (i1 : Int) := by omega
        have hwi : IntKind.i64.wrap (i1 : Int) = (i1 : Int) := by rw [IntKind.wrap_i64]; omega
        have i1k : (i1 : Int) ≤ (k : Int) := by omega
        have i1kN : i1 ≤ k := by omega
        have hkc3I : (k : Int) ≤ (c3 : Int) := by omega
        clear h8 ho8 hF8 hM8 hMm8 hMk8 hB8 hY3L hF3 hY3k hy3 hi1 e3'
        go_upto_region 18 with (fail)
        go_region_held3 (fun W => Below w10.heap.size w10 W) (first | exact (Below.refl _ _).drew | exact below_via (by assumption) (by assumption) (Nat.le_refl _))
          (first | (go_at_call 15; refine (Same_any _ _ (L.drop i1) (HS1.out.below (by assumption)) (HS3.out.below (by assumption)) (by have := HQ.out.1; rw [List.length_drop]; omega) (fun y hy => by have := (HQ.out.2.1 y (List.mem_of_mem_drop hy)).2; omega)).mono ?_; rintro e w11 ⟨rfl, hb11⟩))
        have H11 : Hid (Below w10.heap.size w10 w11) := by assumption
        clear hb11
        go_wp2
        go_roundw
        case rel => exact ⟨i1, rfl, i1kN, HF.out.1.below H11.out, HF.out.2.1.below H11.out, HF.out.2.2.1.below H11.out, HF.out.2.2.2.1.below H11.out, below_via HF.out.2.2.2.2.1 H11.out (Nat.le_refl _), by have := HF.out.2.2.2.2.2.1; have := H11.out.size; omega⟩
        case measure => have := HF.out.2.2.2.2.2.2; simp [intOf]; omega
      · obtain rfl : i = k := by omega
        have l1 : ¬ (i : Int) < (i : Int) := by omega
        have HB : Hid (Below w.heap.size w wr ∧ ElS wr vm Lm ∧ ElS wr vk Lm) := ⟨hB, hMm.s, hMk.s⟩
        clear hF hM hMm hMk hB hsz
        by_cases hfe : fe = 0
        · subst hfe
          go_wp2_with (first | (go_at_call 9; refine (num3_any _).mono ?_; rintro e w' ⟨rfl, rfl⟩) | (go_at_call 15; refine (Same_any _ _ Lm HB.out.2.1 HB.out.2.2 (by have := HM.out.1; omega) (fun y hy => by have := datL_mem hy; have := HM.out.2; omega)).mono ?_; rintro ev w8 ⟨rfl, hb8⟩; have H8 : Hid (Below w.heap.size w w8) := below_via HB.out.1 hb8 (Nat.le_refl _); clear hb8) | (go_at_call 7; refine (HL.out _ H8.out).mono ?_; rintro ev w9 ⟨rfl, hb9⟩))
          go_ret
          exact ⟨rfl, below_via H8.out hb9 (Nat.le_refl _)⟩
        · have hfb : (fe != 0) = true := by simpa using hfe
          go_wp2_with (first | (go_at_call 9; refine (num3_any _).mono ?_; rintro e w' ⟨rfl, rfl⟩) | (go_at_call 7; refine (HL.out _ HB.out.1).mono ?_; rintro ev w9 ⟨rfl, hb9⟩))
          go_ret
          exact ⟨rfl, below_via HB.out.1 hb9 (Nat.le_refl _)⟩
end Go.Proofs.YtekacoeikjonmaaDoor
