/-
  Text: the reference's Fold; TextFolds.
-/
import Derived.Test.YtonekkfpadgdhaaDoorT11
namespace Go.Proofs.YtonekkfpadgdhaaDoor
open Go.RowKit
def lastB (o : List UInt8) : UInt8 := o.getD (o.length - 1) 0
def rstep (o : List UInt8) (c : UInt8) : List UInt8 := if c = 32 ∧ (o = [] ∨ lastB o = 32) then o else o ++ [low c]
def ro (st : List UInt8 × Bool) : List UInt8 := st.1 ++ gap st.1 st.2
def Tidy (a : List UInt8) : Prop := a = [] ∨ lastB a ≠ 32
theorem last_app (a : List UInt8) (x : UInt8) : lastB (a ++ [x]) = x := by simp [lastB]
theorem rstep_ro (st : List UInt8 × Bool) (c : UInt8) (h : Tidy st.1) : rstep (ro st) c = ro (fstep st c) ∧ Tidy (fstep st c).1 := by
  obtain ⟨a, p⟩ := st
  unfold fstep rstep ro
  by_cases hc : c = 32
  · subst hc
    simp only [if_true, true_and]
    refine ⟨?_, h⟩
    by_cases ha : a = []
    · subst ha; simp [gap]
    · cases p
      · have hl : lastB a ≠ 32 := h.resolve_left ha
        simp [gap, ha, hl]
        rfl
      · simp [gap, ha, last_app]
  · have hl : low c ≠ 32 := fun e => hc ((low32 c).1 e)
    rw [if_neg (fun h => hc h.1), if_neg hc]
    refine ⟨by simp [gap], .inr ?_⟩
    simp only
    rw [last_app]; exact hl
def rfold (l : List UInt8) : List UInt8 := l.foldl rstep []
theorem rfold_ro : ∀ (l : List UInt8) (st : List UInt8 × Bool), Tidy st.1 → l.foldl rstep (ro st) = ro (l.foldl fstep st) ∧ Tidy (l.foldl fstep st).1
  | [], _, h => ⟨rfl, h⟩
  | c :: l, st, h => by
    have h1 := rstep_ro st c h
    rw [List.foldl_cons, List.foldl_cons, h1.1]
    exact rfold_ro l _ h1.2
theorem rfold_eq (l : List UInt8) : rfold l = ro (l.foldl fstep ([], false)) ∧ Tidy (foldB l) := rfold_ro l ([], false) (.inl rfl)
/-- What is left when a last blank is cut off. -/
theorem rfold_end (l : List UInt8) : (rfold l ≠ [] → lastB (rfold l) = 32 → foldB l = (rfold l).take ((rfold l).length - 1)) ∧ (¬ (rfold l ≠ [] ∧ lastB (rfold l) = 32) → foldB l = rfold l) := by
  obtain ⟨h1, h2⟩ := rfold_eq l
  unfold foldB at h2 ⊢
  rw [h1]
  generalize l.foldl fstep ([], false) = st at h2 ⊢
  obtain ⟨a, p⟩ := st
  simp only at h2 ⊢
  unfold ro gap
  by_cases hg : p = true ∧ a ≠ []
  · simp only [if_pos hg]
    refine ⟨fun _ _ => by simp, fun h => absurd ⟨by simp, last_app a 32⟩ h⟩
  · simp only [if_neg hg, List.append_nil]
    refine ⟨fun hn hl => absurd hl (h2.resolve_left hn), fun _ => trivial⟩
theorem rfold_next (l : List UInt8) (i : Nat) (h : i < l.length) : rfold (l.take (i + 1)) = rstep (rfold (l.take i)) (l.getD i 0) := by
  unfold rfold
  rw [List.take_add_one, List.getElem?_eq_getElem h, List.foldl_append]
  simp [h]
theorem rfold_len : ∀ (l : List UInt8) (o : List UInt8), (l.foldl rstep o).length ≤ o.length + l.length
  | [], _ => by simp
  | c :: l, o => by
    have h1 := rfold_len l (rstep o c)
    have h2 : (rstep o c).length ≤ o.length + 1 := by unfold rstep; split <;> simp
    rw [List.foldl_cons, List.length_cons]
    omega
theorem nums_app (a b : List UInt8) : nums (a ++ b) = nums a ++ nums b := by simp [nums]
theorem nums_take (a : List UInt8) (n : Nat) : nums (a.take n) = (nums a).take n := by simp [nums]
theorem str_get (l : List UInt8) (i : Nat) (h : i < (str l).size) (hl : i < l.length) : (str l)[i]'h = l.getD i 0 := by
  show (l.toArray)[i]'(by simpa using hl) = _
  simp [hl]
set_option maxHeartbeats 4000000 in
set_option maxRecDepth 100000 in
theorem RFold_any {w : World} (l : List UInt8) (hl : l.length ≤ 100000) :
    Calls Tryd.prog 16 #[.string (str l)] w fun e w' => e = .returned (.string (str (foldB l))) ∧ Below w.heap.size w w' := by
  have HG : Hid (∀ i (h : i < (str l).size), i < l.length → (str l)[i]'h = l.getD i 0) := fun i h hl => str_get l i h hl
  obtain ⟨S, hS⟩ : ∃ S, str l = S := ⟨_, rfl⟩
  have HS : Hid (S.size = l.length) := by rw [← hS]; exact str_size l
  rw [hS] at HG ⊢
  clear hS
  go_enter Tryd.func16, Tryd.ntmps16
  go_wp2
  go_loopw [3, 4] (fun ov iv wr => ∃ (i : Nat) (o : List UInt8), iv = .int .i64 i ∧ i ≤ l.length ∧ o = rfold (l.take i) ∧ Row .u8 5 w.heap.size wr ov (nums o) ∧ Below w.heap.size w wr) (fun _ iv _ => l.length - (intOf iv).toNat)
  case atStart => exact ⟨0, [], rfl, Nat.zero_le _, rfl, Row.nil _ _ _ _, Below.refl _ _⟩
  case round =>
    obtain ⟨i, o, rfl, hi, ho, hR, hb⟩ := hrel
    have hol : o.length ≤ i := by
      have := rfold_len (l.take i) []
      rw [List.length_take, Nat.min_eq_left hi] at this
      rw [ho]; unfold rfold; simpa using this
    obtain ⟨a, c, hv⟩ := hR.ne
    subst hv
    rw [nums_len] at hR ⊢
    have HX : Hid (Row .u8 5 w.heap.size wr (.slice a o.length c) (nums o) ∧ Below w.heap.size w wr) := ⟨hR, hb⟩
    have HO : Hid (o = rfold (l.take i)) := ho
    clear hR hb ho
    by_cases hlt : i < l.length
    · have z1 : (i : Int) < (S.size : Int) := by rw [HS.out]; omega
      have hX := HG.out i (by rw [HS.out]; exact hlt) hlt
      have HN : Hid (rfold (l.take (i + 1)) = rstep o (l.getD i 0)) := by
        show _ = _
        rw [rfold_next l i hlt, ← HO.out]
      obtain ⟨x, hx⟩ : ∃ x, l.getD i 0 = x := ⟨_, rfl⟩
      rw [hx] at hX HN
      clear hx
      have x1 : (x.toNat : Int) < 256 := by have := x.toNat_lt; omega
      by_cases hG : 65 ≤ x.toNat ∧ x.toNat ≤ 90
      · have g1 : (65 : Int) ≤ (x.toNat : Int) := by omega
        have g2 : (x.toNat : Int) ≤ 90 := by omega
        have n32 : ¬ (x.toNat : Int) + 32 = 32 := by omega
        have HR : Hid (rstep o x = o ++ [low x]) := by
          show _ = _
          unfold rstep; rw [if_neg (fun h => by rw [h.1] at hG; simp at hG)]
        rw [← HN.out] at HR
        have HL : Hid (nums [low x] = [(x.toNat : Int) + 32]) := by
          show [((low x).toNat : Int)] = _
          rw [low_nat, if_pos hG]; rfl
        clear hG
        go_wp2_with (at_builtin; refine wpList_ap rfl (.tmp 39) (.tmp 41) 22 22 rfl .u8 5 1 Tryd.und8 Tryd.info8 (by decide) w.heap.size _ (nums o) rfl (HX.out.1.alloc _) _ [(x.toNat : Int) + 32] rfl (src_sl Tryd.und8 (new1 _)) (by rw [nums_len]; simp; omega) (by have := HX.out.2.size; simp; omega) ?_; intro v1 w1 hr hg)
        have hb1 := hg.below (HX.out.1.alloc _) (by have := HX.out.2.size; simp; omega)
        have H1 : Hid (Row .u8 5 w.heap.size w1 v1 (nums (o ++ [low x])) ∧ Below w.heap.size w w1) := ⟨by rw [nums_app]; exact HL.out ▸ hr, (HX.out.2.alloc HX.out.2.size _).trans hb1⟩
        clear hr hg hb1
        go_wp2
        go_roundw
        case rel => exact ⟨i + 1, o ++ [low x], by go_num, by omega, HR.out.symm, H1.out.1, H1.out.2⟩
        case measure => simp [intOf]; omega
      · have g1 : ¬ ((65 : Int) ≤ (x.toNat : Int) ∧ (x.toNat : Int) ≤ 90) := by omega
        have HL : Hid (nums [low x] = [(x.toNat : Int)]) := by
          show [((low x).toNat : Int)] = _
          rw [low_nat, if_neg hG]
        have cs : (¬ (65 : Int) ≤ (x.toNat : Int)) ∨ ((65 : Int) ≤ (x.toNat : Int) ∧ ¬ (x.toNat : Int) ≤ 90) := by omega
        clear hG g1
        by_cases h32 : x = 32
        · subst h32
          clear cs
          by_cases hne : o = []
          · subst hne
            have HR : Hid (rfold (l.take (i + 1)) = []) := by
              show _ = _
              rw [HN.out]; rfl
            go_wp2
            go_roundw
            case rel => exact ⟨i + 1, [], by go_num, by omega, HR.out.symm, HX.out.1, HX.out.2⟩
            case measure => simp [intOf]; omega
          · have h0 : 0 < o.length := List.length_pos_iff.2 hne
            obtain ⟨b, T, e, hB, hA, hle, ht, hm⟩ := HX.out.1.open o.length (nums_len o) h0
            cases e
            have hc1 := hA.cell (o.length - 1) (by omega)
            have e1 : T.getD (o.length - 1) 0 = ((lastB o).toNat : Int) := by
              have : (T.take o.length).getD (o.length - 1) 0 = T.getD (o.length - 1) 0 := by
                simp [List.getD, show o.length - 1 < o.length by omega]
              rw [← this, ht]
              exact nums_get o _ (by omega)
            rw [e1] at hc1
            clear e1
            have tl : (o.length : Int) ≤ (T.length : Int) := by omega
            have ol : (o.length : Int) ≤ 100000 := by omega
            clear hA hle ht hm
            obtain ⟨k, hk⟩ : ∃ k, o.length = k + 1 := ⟨o.length - 1, by omega⟩
            have HK : Hid (o.length = k + 1) := hk
            rw [hk] at hc1 tl ol ⊢
            rw [show k + 1 - 1 = k from rfl] at hc1
            obtain ⟨y, hy⟩ : ∃ y, lastB o = y := ⟨_, rfl⟩
            rw [hy] at hc1
            have kI : ((k + 1 : Nat) : Int) = (k : Int) + 1 := by omega
            have kz : ((k : Int) + 1 == 0) = false := by rw [beq_eq_false_iff_ne]; omega
            by_cases h32 : y = 32
            · subst h32
              have HR : Hid (rfold (l.take (i + 1)) = o) := by
                show _ = _
                rw [HN.out]; unfold rstep; rw [if_pos ⟨rfl, .inr hy⟩]
              have c32 : (UInt8.toNat 32 : Int) = 32 := rfl
              clear hk h0 hy hol hne hB x1
              rw [c32] at hc1
              go_wp2
              go_roundw
              case rel => exact ⟨i + 1, o, by go_num, by omega, HR.out.symm, HK.out ▸ HX.out.1, HX.out.2⟩
              case measure => simp [intOf]; omega
            · have y32 : ((y.toNat : Int) == 32) = false := by
                rw [beq_eq_false_iff_ne]
                intro h
                exact h32 (u8_eq (by simp; omega))
              have HR : Hid (rfold (l.take (i + 1)) = o ++ [low 32]) := by
                show _ = _
                rw [HN.out]; unfold rstep; rw [if_neg (fun h => h.2.elim hne (fun e => h32 (hy ▸ e)))]
              clear hk h0 hy h32
              go_wp2_with (at_builtin; refine wpList_ap rfl (.tmp 39) (.tmp 41) 22 22 rfl .u8 5 1 Tryd.und8 Tryd.info8 (by decide) w.heap.size _ (nums o) rfl (HK.out ▸ HX.out.1.alloc _) _ [32] rfl (src_sl Tryd.und8 (new1 _)) (by rw [nums_len]; simp; omega) (by have := HX.out.2.size; simp; omega) ?_; intro v1 w1 hr hg)
              have hb1 := hg.below (HK.out ▸ HX.out.1.alloc _) (by have := HX.out.2.size; simp; omega)
              have H1 : Hid (Row .u8 5 w.heap.size w1 v1 (nums (o ++ [low 32])) ∧ Below w.heap.size w w1) := ⟨by rw [nums_app]; exact hr, (HX.out.2.alloc HX.out.2.size _).trans hb1⟩
              clear hr hg hb1
              go_wp2
              go_roundw
              case rel => exact ⟨i + 1, o ++ [low 32], by go_num, by omega, HR.out.symm, H1.out.1, H1.out.2⟩
              case measure => simp [intOf]; omega
        · have HR : Hid (rfold (l.take (i + 1)) = o ++ [low x]) := by
            show _ = _
            rw [HN.out]; unfold rstep; rw [if_neg (fun h => h32 h.1)]
          have x32 : ((x.toNat : Int) == 32) = false := by
            rw [beq_eq_false_iff_ne]
            intro h
            exact h32 (u8_eq (by simp; omega))
          clear h32
          rcases cs with c1 | ⟨c1, c2⟩
          · go_wp2_with (at_builtin; refine wpList_ap rfl (.tmp 39) (.tmp 41) 22 22 rfl .u8 5 1 Tryd.und8 Tryd.info8 (by decide) w.heap.size _ (nums o) rfl (HX.out.1.alloc _) _ [(x.toNat : Int)] rfl (src_sl Tryd.und8 (new1 _)) (by rw [nums_len]; simp; omega) (by have := HX.out.2.size; simp; omega) ?_; intro v1 w1 hr hg)
            have hb1 := hg.below (HX.out.1.alloc _) (by have := HX.out.2.size; simp; omega)
            have H1 : Hid (Row .u8 5 w.heap.size w1 v1 (nums (o ++ [low x])) ∧ Below w.heap.size w w1) := ⟨by rw [nums_app]; exact HL.out ▸ hr, (HX.out.2.alloc HX.out.2.size _).trans hb1⟩
            clear hr hg hb1
            go_wp2
            go_roundw
            case rel => exact ⟨i + 1, o ++ [low x], by go_num, by omega, HR.out.symm, H1.out.1, H1.out.2⟩
            case measure => simp [intOf]; omega
          · go_wp2_with (at_builtin; refine wpList_ap rfl (.tmp 39) (.tmp 41) 22 22 rfl .u8 5 1 Tryd.und8 Tryd.info8 (by decide) w.heap.size _ (nums o) rfl (HX.out.1.alloc _) _ [(x.toNat : Int)] rfl (src_sl Tryd.und8 (new1 _)) (by rw [nums_len]; simp; omega) (by have := HX.out.2.size; simp; omega) ?_; intro v1 w1 hr hg)
            have hb1 := hg.below (HX.out.1.alloc _) (by have := HX.out.2.size; simp; omega)
            have H1 : Hid (Row .u8 5 w.heap.size w1 v1 (nums (o ++ [low x])) ∧ Below w.heap.size w w1) := ⟨by rw [nums_app]; exact HL.out ▸ hr, (HX.out.2.alloc HX.out.2.size _).trans hb1⟩
            clear hr hg hb1
            go_wp2
            go_roundw
            case rel => exact ⟨i + 1, o ++ [low x], by go_num, by omega, HR.out.symm, H1.out.1, H1.out.2⟩
            case measure => simp [intOf]; omega
    · have hin : i = l.length := by omega
      have HE := rfold_end l
      have hoe : o = rfold l := by rw [HO.out, hin, List.take_length]
      rw [← hoe] at HE
      have z1 : ¬ (i : Int) < (S.size : Int) := by rw [HS.out]; omega
      have ol : (o.length : Int) ≤ 100000 := by omega
      clear hin hoe hlt
      by_cases hne : o = []
      · subst hne
        have hF := HE.2 (fun h => h.1 rfl)
        have HF : Hid (foldB l = []) := hF
        obtain ⟨a', c', e, hcv⟩ := sl_str HX.out.1.sl
        cases e
        rw [List.length_nil] at hcv
        clear hF HE
        go_wp2
        go_ret
        exact ⟨by rw [HF.out]; rfl, HX.out.2⟩
      · have h0 : 0 < o.length := List.length_pos_iff.2 hne
        obtain ⟨b, T, e, hB, hA, hle, ht, hm⟩ := HX.out.1.open o.length (nums_len o) h0
        cases e
        have hc1 := hA.cell (o.length - 1) (by omega)
        have e1 : T.getD (o.length - 1) 0 = ((lastB o).toNat : Int) := by
          have : (T.take o.length).getD (o.length - 1) 0 = T.getD (o.length - 1) 0 := by
            simp [List.getD, show o.length - 1 < o.length by omega]
          rw [← this, ht]
          exact nums_get o _ (by omega)
        rw [e1] at hc1
        clear e1
        have HT : Hid (Arr .u8 5 wr b T ∧ o.length ≤ T.length ∧ T.take o.length = nums o ∧ T.length ≤ maxLen) := ⟨hA, hle, ht, hm⟩
        have tl : (o.length : Int) ≤ (T.length : Int) := by omega
        clear hA hle ht hm
        obtain ⟨k, hk⟩ : ∃ k, o.length = k + 1 := ⟨o.length - 1, by omega⟩
        have HK : Hid (o.length = k + 1) := hk
        rw [hk] at HX hc1 tl ol ⊢
        rw [show k + 1 - 1 = k from rfl] at hc1
        obtain ⟨y, hy⟩ : ∃ y, lastB o = y := ⟨_, rfl⟩
        rw [hy] at hc1 HE
        have kI : ((k + 1 : Nat) : Int) = (k : Int) + 1 := by omega
        clear hk h0 hy hol
        by_cases h32 : y = 32
        · subst h32
          have HF : Hid (foldB l = o.take k) := by
            show _ = _
            rw [HE.1 hne rfl, HK.out]; rfl
          have hs : Sl .u8 wr (.slice (some ⟨b, 0, none⟩) k T.length) (nums (o.take k)) := by
            have hlen : (nums (o.take k)).length = k := by rw [nums_len, List.length_take, HK.out]; omega
            refine ⟨_, _, by rw [hlen], by rw [hlen]; have := HT.out.2.1; have := HK.out; omega, .inr ⟨b, 0, rfl, HT.out.1.lt, ?_⟩⟩
            have h1 := HT.out.1.rd 0 k (by have := HT.out.2.1; have := HK.out; omega)
            rw [List.drop_zero] at h1
            have e : T.take k = nums (o.take k) := by
              have := congrArg (List.take k) HT.out.2.2.1
              rw [List.take_take, Nat.min_eq_left (by have := HK.out; omega), ← nums_take] at this
              exact this
            rw [e] at h1; exact h1
          obtain ⟨a', c', e, hcv⟩ := sl_str hs
          have hlen : (o.take k).length = k := by rw [List.length_take, HK.out]; omega
          rw [hlen] at e hcv
          cases e
          clear hs hlen HE
          go_wp2
          go_ret
          exact ⟨by rw [HF.out]; rfl, HX.out.2⟩
        · have y32 : ((y.toNat : Int) == 32) = false := by
            rw [beq_eq_false_iff_ne]
            intro h
            exact h32 (u8_eq (by simp; omega))
          have HF : Hid (foldB l = o) := HE.2 (fun h => h32 h.2)
          obtain ⟨a', c', e, hcv⟩ := sl_str HX.out.1.sl
          rw [HK.out] at e hcv
          cases e
          clear HE h32
          go_wp2
          go_ret
          exact ⟨by rw [HF.out]; rfl, HX.out.2⟩
end Go.Proofs.YtonekkfpadgdhaaDoor
