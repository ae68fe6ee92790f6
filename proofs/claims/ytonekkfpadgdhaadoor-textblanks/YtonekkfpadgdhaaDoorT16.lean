/-
  Text: one text in two kinds; TextKinds.
-/
import Derived.Test.YtonekkfpadgdhaaDoorT13
namespace Go.Proofs.YtonekkfpadgdhaaDoor
open Go.RowKit
def wideB (l : List UInt8) : List UInt8 := l.flatMap fun b => [0, b]
theorem wide_snoc (l : List UInt8) (i : Nat) (h : i < l.length) : wideB (l.take (i + 1)) = wideB (l.take i) ++ [0, l.getD i 0] := by
  unfold wideB
  rw [List.take_add_one, List.getElem?_eq_getElem h, List.flatMap_append]
  simp [h]
theorem wide_len (l : List UInt8) : (wideB l).length = 2 * l.length := by
  unfold wideB
  induction l with
  | nil => rfl
  | cons b l ih => rw [List.flatMap_cons, List.length_append, ih]; simp; omega
theorem pairs_wide : ∀ l : List UInt8, allB pI l = true → pairsB (wideB l) = some l
  | [], _ => rfl
  | b :: l, h => by
    have hb : b.toNat < 128 := by
      unfold allB at h
      simp [pI] at h
      exact h.1
    have ih := pairs_wide l (by unfold allB at h ⊢; simp at h ⊢; exact h.2)
    show pairsB (0 :: b :: wideB l) = _
    have e : Lib.encodeRune (((0 : UInt8).toNat * 256 + b.toNat : Nat) : Int) = [b] := by
      unfold Lib.encodeRune
      rw [Lib.encodeRuneZ_one (by omega) (by simp; omega)]
      simp
    rw [pairsB, if_neg (by simp; omega), ih, e]
    rfl
theorem okT_same (b : Bool) (l : List UInt8) (h : (okT b l).2 = 0) : (okT b l).1 = l := by
  unfold okT at h ⊢; cases b <;> simp at h ⊢
theorem text_same (tag : Int) (l : List UInt8) (h30 : tag ≠ 30) (h : (textS tag l).2 = 0) : (textS tag l).1 = l := by
  unfold textS at h ⊢
  repeat' split
  all_goals first
    | (simp_all; done)
    | (simp_all; exact okT_same _ _ (by assumption))
theorem key_same (tag : Int) (l : List UInt8) (h30 : tag ≠ 30) (h : (textS tag l).2 = 0) : keyB tag l = 61 :: foldB l := by
  unfold keyB
  rw [if_pos h, text_same tag l h30 h]
theorem key_wide (l : List UInt8) (h : allB pI l = true) : keyB 30 (wideB l) = 61 :: foldB l := by
  have : textS 30 (wideB l) = (l, 0) := by
    unfold textS pairT
    rw [pairs_wide l h]
    simp
  unfold keyB
  rw [this]
  rfl
theorem allB_snoc (p : Nat → Bool) (l : List UInt8) (i : Nat) (h : i < l.length) : allB p (l.take (i + 1)) = (allB p (l.take i) && p (l.getD i 0).toNat) := by
  unfold allB
  rw [List.take_add_one, List.getElem?_eq_getElem h, List.all_append]
  simp [h]
set_option maxHeartbeats 4000000 in
set_option maxRecDepth 100000 in
theorem TextKinds_any {w : World} (tag other : Int) (v : Value) (l : List UInt8) (hX : Sl .u8 w v (nums l)) (ll : l.length ≤ 9223372036854775807)
    (h0 : -9223372036854775808 ≤ tag) (h1 : tag ≤ 9223372036854775807) (g0 : -9223372036854775808 ≤ other) (g1 : other ≤ 9223372036854775807) (hT : Tab w) :
    Calls Tryd.prog 8 #[.int .i64 tag, .int .i64 other, v] w fun e w' => e = .returned (.bool true) ∧ Below w.heap.size w w' := by
  have HT : Hid (Tab w) := hT
  have HX : Hid (Sl .u8 w v (nums l)) := hX
  obtain ⟨a, c, hv, hc, hr⟩ := hX
  rw [nums_len] at hv hc
  subst hv
  obtain ⟨n, hn⟩ : ∃ n, l.length = n := ⟨_, rfl⟩
  have HN : Hid (l.length = n) := hn
  rw [hn] at hc ll
  have HR : Hid (nums l = [] ∨ ∃ b off, a = some ⟨b, off, none⟩ ∧ b < w.heap.size ∧ Rd .u8 w b off (nums l)) := hr
  rw [hn] at HX ⊢
  clear hT hr hn
  have lz : (n : Int) ≤ 9223372036854775807 := by omega
  have cz : (n : Int) ≤ (c : Int) := by omega
  by_cases hbig : n ≤ 2000 ∧ tag ≠ 30 ∧ other ≠ 30
  · have b1 : ¬ (2000 : Int) < (n : Int) := by omega
    have b2 : (tag == 30) = false := by simp; omega
    have b3 : (other == 30) = false := by simp; omega
    have HT1 : Hid (∀ (W : World) (tg : Int), Below w.heap.size w W → Calls Tryd.prog 11 #[.int .i64 tg, .slice a n c] W fun e w' => e = TextEnd tg l ∧ Below W.heap.size W w') := fun W tg hW => Text_any tg _ l (below_sl hW HX.out) (by have := HN.out; omega) (HT.out.below hW).u8
    have HE1 : Hid ((textS tag l).2 = 0 → (textS tag l).1 = l ∧ keyB tag l = 61 :: foldB l) := fun h => ⟨text_same tag l hbig.2.1 h, key_same tag l hbig.2.1 h⟩
    have HE2 : Hid ((textS other l).2 = 0 → (textS other l).1 = l ∧ keyB other l = 61 :: foldB l) := fun h => ⟨text_same other l hbig.2.2 h, key_same other l hbig.2.2 h⟩
    have HAL : Hid (∀ W : World, Below w.heap.size w W → keyB tag l = keyB other l → Calls Tryd.prog 19 #[.int .i64 tag, .slice a n c, .int .i64 other, .slice a n c] W fun e w' => e = .returned (.bool true) ∧ Below W.heap.size W w') := fun W hW hk => by
      have := Alike_any (w := W) tag other _ _ l l (below_sl hW HX.out) (below_sl hW HX.out) (by have := HN.out; omega) (by have := HN.out; omega) h0 h1 g0 g1 (HT.out.below hW).u8 (HT.out.below hW).pw
      rw [decide_eq_true hk] at this
      exact this
    have HAW : Hid (∀ (W : World) (u : Value), Below w.heap.size w W → Sl .u8 W u (nums (wideB l)) → keyB 30 (wideB l) = keyB tag l → Calls Tryd.prog 19 #[.int .i64 30, u, .int .i64 tag, .slice a n c] W fun e w' => e = .returned (.bool true) ∧ Below W.heap.size W w') := fun W u hW hu hk => by
      have := Alike_any (w := W) 30 tag _ _ (wideB l) l hu (below_sl hW HX.out) (by rw [wide_len]; have := HN.out; omega) (by have := HN.out; omega) (by decide) (by decide) h0 h1 (HT.out.below hW).u8 (HT.out.below hW).pw
      rw [decide_eq_true hk] at this
      exact this
    have HN2 : Hid (n ≤ 2000) := hbig.1
    unfold TextEnd at HT1
    obtain ⟨S1, hS1⟩ : ∃ S, str (textS tag l).1 = S := ⟨_, rfl⟩
    obtain ⟨E1, hE1⟩ : ∃ E, (textS tag l).2 = E := ⟨_, rfl⟩
    obtain ⟨S2, hS2⟩ : ∃ S, str (textS other l).1 = S := ⟨_, rfl⟩
    obtain ⟨E2, hE2⟩ : ∃ E, (textS other l).2 = E := ⟨_, rfl⟩
    have HTa : Hid (∀ W : World, Below w.heap.size w W → Calls Tryd.prog 11 #[.int .i64 tag, .slice a n c] W fun e w' => e = .returned (.tuple #[.string S1, .int .i64 E1]) ∧ Below W.heap.size W w') := fun W hW => by rw [← hS1, ← hE1]; exact HT1.out W tag hW
    have HTb : Hid (∀ W : World, Below w.heap.size w W → Calls Tryd.prog 11 #[.int .i64 other, .slice a n c] W fun e w' => e = .returned (.tuple #[.string S2, .int .i64 E2]) ∧ Below W.heap.size W w') := fun W hW => by rw [← hS2, ← hE2]; exact HT1.out W other hW
    have HS : Hid (E1 = 0 → E2 = 0 → S1 = S2 ∧ keyB tag l = keyB other l ∧ keyB tag l = 61 :: foldB l) := fun e1 e2 => by
      have p1 := HE1.out (hE1.trans e1)
      have p2 := HE2.out (hE2.trans e2)
      exact ⟨by rw [← hS1, ← hS2, p1.1, p2.1], by rw [p1.2, p2.2], p1.2⟩
    clear hS1 hE1 hS2 hE2 HT1 HE1 HE2 hbig
    by_cases e1 : E1 = 0
    · by_cases e2 : E2 = 0
      · obtain ⟨rfl, hk1, hk2⟩ := HS.out e1 e2
        have HK : Hid (keyB tag l = keyB other l ∧ keyB tag l = 61 :: foldB l) := ⟨hk1, hk2⟩
        subst e1 e2
        clear HS hk1 hk2
        go_enter Tryd.func8, Tryd.ntmps8
        go_wp2_with fail
        refine (HTa.out _ (Below.refl _ _)).mono ?_
        rintro e w1 ⟨rfl, hb⟩
        go_wp2_with fail
        refine (HTb.out _ hb).mono ?_
        rintro e w2 ⟨rfl, hb'⟩
        have H2 : Hid (Below w.heap.size w w2) := below_via hb hb' (Nat.le_refl _)
        clear hb hb'
        go_wp2_with (go_at_call 13; refine (num_any _).mono ?_; rintro e w' ⟨rfl, rfl⟩)
        go_loopw [11, 12, 13] (fun wv pv iv wr => ∃ (i : Nat) (wa : Option Addr) (wn wc : Nat), iv = .int .i64 i ∧ wv = .slice wa wn wc ∧ i ≤ n ∧ pv = .bool (allB pI (l.take i)) ∧ Row .u8 5 w.heap.size wr (.slice wa wn wc) (nums (wideB (l.take i))) ∧ Below w.heap.size w wr) (fun _ _ iv _ => n - (intOf iv).toNat)
        case atStart => exact ⟨0, none, 0, 0, rfl, rfl, Nat.zero_le _, rfl, Row.nil _ _ _ _, H2.out⟩
        case round =>
          obtain ⟨i, wa, wn, wc, rfl, rfl, hi, rfl, hRow, hb⟩ := hrel
          have HB : Hid (Row .u8 5 w.heap.size wr (.slice wa wn wc) (nums (wideB (l.take i))) ∧ Below w.heap.size w wr) := ⟨hRow, hb⟩
          clear hRow hb
          by_cases hlt : i < n
          · have z1 : (i : Int) < (n : Int) := by omega
            rcases HR.out with hnil | ⟨b, off, rfl, hbl, hrd⟩
            · have := congrArg List.length hnil
              rw [nums_len, HN.out] at this
              simp at this; omega
            have c1 : wr.cell? ⟨b, off + i, none⟩ = some (.int .u8 (l.getD i 0).toNat) := by
              have := (below_rd HB.out.2 hbl hrd) i (by rw [nums_len, HN.out]; omega)
              rw [nums_get l i (by rw [HN.out]; omega)] at this; exact this
            have hws := wide_snoc l i (by rw [HN.out]; exact hlt)
            have has := allB_snoc pI l i (by rw [HN.out]; exact hlt)
            have hwl : (nums (wideB (l.take i))).length = 2 * i := by rw [nums_len, wide_len, List.length_take, HN.out]; omega
            obtain ⟨x, hx⟩ : ∃ x, l.getD i 0 = x := ⟨_, rfl⟩
            rw [hx] at c1 hws has
            have HW : Hid (wideB (l.take (i + 1)) = wideB (l.take i) ++ [0, x] ∧ (nums (wideB (l.take i))).length = 2 * i ∧ i ≤ 2000) := ⟨hws, hwl, by have := HN2.out; omega⟩
            have x1 : (x.toNat : Int) < 256 := by have := x.toNat_lt; omega
            clear hx hws hwl hrd hbl
            obtain ⟨p, hp⟩ : ∃ p, allB pI (l.take i) = p := ⟨_, rfl⟩
            rw [hp] at has ⊢
            obtain ⟨q, hq⟩ : ∃ q, pI x.toNat = q := ⟨_, rfl⟩
            rw [hq] at has
            have HQ : Hid (allB pI (l.take (i + 1)) = (p && q)) := has
            have hql : q = decide (x.toNat < 128) := hq.symm
            clear hp hq has
            have key : ∀ (q' : Bool), (p && q) = q' → True := fun _ _ => trivial
            clear key
            have cs : (p = false) ∨ (p = true ∧ x.toNat < 128 ∧ q = true) ∨ (p = true ∧ ¬ x.toNat < 128 ∧ q = false) := by
              cases p
              · exact .inl rfl
              · by_cases hx : x.toNat < 128
                · exact .inr (.inl ⟨rfl, hx, by rw [hql]; simp [hx]⟩)
                · exact .inr (.inr ⟨rfl, hx, by rw [hql]; simp [hx]⟩)
            clear hql
            rcases cs with rfl | ⟨rfl, hx, rfl⟩ | ⟨rfl, hx, rfl⟩
            · go_wp2_with (at_builtin; refine wpList_ap rfl (.tmp 61) (.tmp 66) 22 22 rfl .u8 5 1 Tryd.und8 Tryd.info8 (by decide) w.heap.size _ _ rfl (HB.out.1.alloc _) _ [0, (x.toNat : Int)] rfl (src_sl Tryd.und8 (new_sl [0, (x.toNat : Int)] (0, 0))) (by rw [HW.out.2.1]; have := HW.out.2.2; simp; omega) (by have := HB.out.2.size; simp; omega) ?_; intro v1 w3 hr hg)
              have hb1 := hg.below (HB.out.1.alloc _) (by have := HB.out.2.size; simp; omega)
              have H1 : Hid (Row .u8 5 w.heap.size w3 v1 (nums (wideB (l.take (i + 1)))) ∧ Below w.heap.size w w3) := ⟨by rw [HW.out.1, nums_app]; exact hr, (HB.out.2.alloc HB.out.2.size _).trans hb1⟩
              obtain ⟨va, vc, hv1⟩ := hr.ne
              subst hv1
              clear hr hg hb1 c1
              go_wp2
              go_roundw
              case rel => exact ⟨i + 1, _, _, _, by go_num, rfl, by omega, by rw [HQ.out]; rfl, H1.out.1, H1.out.2⟩
              case measure => simp [intOf]; omega
            · have xi : (x.toNat : Int) < 128 := by omega
              go_wp2_with (at_builtin; refine wpList_ap rfl (.tmp 61) (.tmp 66) 22 22 rfl .u8 5 1 Tryd.und8 Tryd.info8 (by decide) w.heap.size _ _ rfl (HB.out.1.alloc _) _ [0, (x.toNat : Int)] rfl (src_sl Tryd.und8 (new_sl [0, (x.toNat : Int)] (0, 0))) (by rw [HW.out.2.1]; have := HW.out.2.2; simp; omega) (by have := HB.out.2.size; simp; omega) ?_; intro v1 w3 hr hg)
              have hb1 := hg.below (HB.out.1.alloc _) (by have := HB.out.2.size; simp; omega)
              have H1 : Hid (Row .u8 5 w.heap.size w3 v1 (nums (wideB (l.take (i + 1)))) ∧ Below w.heap.size w w3) := ⟨by rw [HW.out.1, nums_app]; exact hr, (HB.out.2.alloc HB.out.2.size _).trans hb1⟩
              obtain ⟨va, vc, hv1⟩ := hr.ne
              subst hv1
              clear hr hg hb1 c1
              go_wp2
              go_roundw
              case rel => exact ⟨i + 1, _, _, _, by go_num, rfl, by omega, by rw [HQ.out]; rfl, H1.out.1, H1.out.2⟩
              case measure => simp [intOf]; omega
            · have xi : ¬ (x.toNat : Int) < 128 := by omega
              go_wp2_with (at_builtin; refine wpList_ap rfl (.tmp 61) (.tmp 66) 22 22 rfl .u8 5 1 Tryd.und8 Tryd.info8 (by decide) w.heap.size _ _ rfl (HB.out.1.alloc _) _ [0, (x.toNat : Int)] rfl (src_sl Tryd.und8 (new_sl [0, (x.toNat : Int)] (0, 0))) (by rw [HW.out.2.1]; have := HW.out.2.2; simp; omega) (by have := HB.out.2.size; simp; omega) ?_; intro v1 w3 hr hg)
              have hb1 := hg.below (HB.out.1.alloc _) (by have := HB.out.2.size; simp; omega)
              have H1 : Hid (Row .u8 5 w.heap.size w3 v1 (nums (wideB (l.take (i + 1)))) ∧ Below w.heap.size w w3) := ⟨by rw [HW.out.1, nums_app]; exact hr, (HB.out.2.alloc HB.out.2.size _).trans hb1⟩
              obtain ⟨va, vc, hv1⟩ := hr.ne
              subst hv1
              clear hr hg hb1 c1
              go_wp2
              go_roundw
              case rel => exact ⟨i + 1, _, _, _, by go_num, rfl, by omega, by rw [HQ.out]; rfl, H1.out.1, H1.out.2⟩
              case measure => simp [intOf]; omega
          · have hin : l.take i = l := List.take_of_length_le (by rw [HN.out]; omega)
            rw [hin] at HB ⊢
            have z1 : ¬ (i : Int) < (n : Int) := by omega
            clear hin
            obtain ⟨p, hp⟩ : ∃ p, allB pI l = p := ⟨_, rfl⟩
            rw [hp]
            have HP : Hid (allB pI l = p) := hp
            clear hp
            cases p
            · go_wp2_with fail
              refine (HAL.out _ HB.out.2 HK.out.1).mono ?_
              rintro e w3 ⟨rfl, hb'⟩
              have H3 : Hid (Below w.heap.size w w3) := below_via HB.out.2 hb' (Nat.le_refl _)
              clear hb'
              go_wp2_with fail
              refine (live_t (HT.out.below H3.out)).mono ?_
              rintro e w5 ⟨rfl, hb'⟩
              have H5 : Hid (Below w.heap.size w w5) := below_via H3.out hb' (Nat.le_refl _)
              clear hb'
              go_wp2
              go_ret
              exact ⟨rfl, H5.out⟩
            · go_wp2_with fail
              refine (HAL.out _ HB.out.2 HK.out.1).mono ?_
              rintro e w3 ⟨rfl, hb'⟩
              have H3 : Hid (Below w.heap.size w w3 ∧ Sl .u8 w3 _ (nums (wideB l))) := ⟨below_via HB.out.2 hb' (Nat.le_refl _), below_sl hb' HB.out.1.sl⟩
              clear hb'
              go_wp2_with fail
              refine (HAW.out _ _ H3.out.1 H3.out.2 (by rw [HK.out.2]; exact key_wide l HP.out)).mono ?_
              rintro e w4 ⟨rfl, hb'⟩
              have H4 : Hid (Below w.heap.size w w4) := below_via H3.out.1 hb' (Nat.le_refl _)
              clear hb'
              go_wp2_with fail
              refine (live_t (HT.out.below H4.out)).mono ?_
              rintro e w5 ⟨rfl, hb'⟩
              have H5 : Hid (Below w.heap.size w w5) := below_via H4.out hb' (Nat.le_refl _)
              clear hb'
              go_wp2
              go_ret
              exact ⟨rfl, H5.out⟩
      · have n1 : (E1 != 0) = false := by simp [e1]
        have n2 : (E2 != 0) = true := by simp [e2]
        clear HS e1 e2
        go_enter Tryd.func8, Tryd.ntmps8
        go_wp2_with fail
        refine (HTa.out _ (Below.refl _ _)).mono ?_
        rintro e w1 ⟨rfl, hb⟩
        go_wp2_with fail
        refine (HTb.out _ hb).mono ?_
        rintro e w2 ⟨rfl, hb'⟩
        have H2 : Hid (Below w.heap.size w w2) := below_via hb hb' (Nat.le_refl _)
        clear hb hb'
        go_wp2_with (go_at_call 13; refine (num_any _).mono ?_; rintro e w' ⟨rfl, rfl⟩)
        refine (live_t (HT.out.below H2.out)).mono ?_
        rintro e w5 ⟨rfl, hb'⟩
        have H5 : Hid (Below w.heap.size w w5) := below_via H2.out hb' (Nat.le_refl _)
        clear hb'
        go_wp2
        go_ret
        exact ⟨rfl, H5.out⟩
    · have n1 : (E1 != 0) = true := by simp [e1]
      clear HS e1
      go_enter Tryd.func8, Tryd.ntmps8
      go_wp2_with fail
      refine (HTa.out _ (Below.refl _ _)).mono ?_
      rintro e w1 ⟨rfl, hb⟩
      go_wp2_with fail
      refine (HTb.out _ hb).mono ?_
      rintro e w2 ⟨rfl, hb'⟩
      have H2 : Hid (Below w.heap.size w w2) := below_via hb hb' (Nat.le_refl _)
      clear hb hb'
      go_wp2_with (go_at_call 13; refine (num_any _).mono ?_; rintro e w' ⟨rfl, rfl⟩)
      refine (live_t (HT.out.below H2.out)).mono ?_
      rintro e w5 ⟨rfl, hb'⟩
      have H5 : Hid (Below w.heap.size w w5) := below_via H2.out hb' (Nat.le_refl _)
      clear hb'
      go_wp2
      go_ret
      exact ⟨rfl, H5.out⟩
  · have cs : (2000 : Int) < (n : Int) ∨ (¬ (2000 : Int) < (n : Int) ∧ tag = 30) ∨ (¬ (2000 : Int) < (n : Int) ∧ ¬ tag = 30 ∧ other = 30) := by omega
    clear hbig
    rcases cs with b1 | ⟨b1, rfl⟩ | ⟨b1, hb2, rfl⟩
    · go_enter Tryd.func8, Tryd.ntmps8
      go_wp2_with fail
      refine (live_t HT.out).mono ?_
      rintro e w1 ⟨rfl, hb⟩
      go_wp2
      go_ret
      exact ⟨rfl, hb⟩
    · go_enter Tryd.func8, Tryd.ntmps8
      go_wp2_with fail
      refine (live_t HT.out).mono ?_
      rintro e w1 ⟨rfl, hb⟩
      go_wp2
      go_ret
      exact ⟨rfl, hb⟩
    · have b2 : (tag == 30) = false := by simp [hb2]
      go_enter Tryd.func8, Tryd.ntmps8
      go_wp2_with fail
      refine (live_t HT.out).mono ?_
      rintro e w1 ⟨rfl, hb⟩
      go_wp2
      go_ret
      exact ⟨rfl, hb⟩
end Go.Proofs.YtonekkfpadgdhaaDoor
