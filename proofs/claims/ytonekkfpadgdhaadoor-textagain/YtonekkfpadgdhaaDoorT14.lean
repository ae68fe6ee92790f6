/-
  Text: what is folded is folded to itself; TextAgain.
-/
import Derived.Test.YtonekkfpadgdhaaDoorT13
namespace Go.Proofs.YtonekkfpadgdhaaDoor
open Go.RowKit
/-- No great letter; no blank at an end; no two together. -/
def Nice (t : List UInt8) : Prop := ∀ i, i < t.length → ¬ (65 ≤ (t.getD i 0).toNat ∧ (t.getD i 0).toNat ≤ 90) ∧ (t.getD i 0 = 32 → 0 < i ∧ i + 1 < t.length ∧ t.getD (i - 1) 0 ≠ 32)
theorem getD_l (a b : List UInt8) (i : Nat) (h : i < a.length) : (a ++ b).getD i 0 = a.getD i 0 := by unfold List.getD; rw [List.getElem?_append_left h]
theorem getD_r (a b : List UInt8) (i : Nat) (h : a.length ≤ i) : (a ++ b).getD i 0 = b.getD (i - a.length) 0 := by unfold List.getD; rw [List.getElem?_append_right h]
theorem low_small (c : UInt8) : ¬ (65 ≤ (low c).toNat ∧ (low c).toNat ≤ 90) := by
  rw [low_nat]
  split <;> omega
theorem low_same {c : UInt8} (h : ¬ (65 ≤ c.toNat ∧ c.toNat ≤ 90)) : low c = c := by unfold low; rw [if_neg h]
theorem nice_step (st : List UInt8 × Bool) (c : UInt8) (h : Nice st.1) : Nice (fstep st c).1 := by
  obtain ⟨a, p⟩ := st
  unfold fstep
  by_cases hc : c = 32
  · rw [if_pos hc]; exact h
  · rw [if_neg hc]
    have hl : low c ≠ 32 := fun e => hc ((low32 c).1 e)
    have hs := low_small c
    simp only at h ⊢
    unfold gap
    by_cases hg : p = true ∧ a ≠ []
    · rw [if_pos hg]
      have ha : 0 < a.length := List.length_pos_iff.2 hg.2
      intro i hi
      simp at hi
      rw [List.append_assoc]
      by_cases h1 : i < a.length
      · have := h i h1
        rw [getD_l _ _ _ h1]
        refine ⟨this.1, fun e => ?_⟩
        have t := this.2 e
        rw [getD_l _ _ _ (by omega)]
        exact ⟨t.1, by simp; omega, t.2.2⟩
      · by_cases h2 : i = a.length
        · subst h2
          rw [getD_r _ _ _ (Nat.le_refl _)]
          simp only [Nat.sub_self]
          refine ⟨by simp, fun _ => ⟨ha, by simp, ?_⟩⟩
          rw [getD_l _ _ _ (by omega)]
          intro e
          have := (h (a.length - 1) (by omega)).2 e
          omega
        · have h3 : i = a.length + 1 := by omega
          subst h3
          rw [getD_r _ _ _ (by omega)]
          simp only [Nat.add_sub_cancel_left]
          exact ⟨hs, fun e => absurd e hl⟩
    · rw [if_neg hg, List.append_nil]
      intro i hi
      simp at hi
      by_cases h1 : i < a.length
      · have := h i h1
        rw [getD_l _ _ _ h1]
        refine ⟨this.1, fun e => ?_⟩
        have t := this.2 e
        rw [getD_l _ _ _ (by omega)]
        exact ⟨t.1, by simp; omega, t.2.2⟩
      · have h3 : i = a.length := by omega
        subst h3
        rw [getD_r _ _ _ (Nat.le_refl _)]
        simp only [Nat.sub_self]
        exact ⟨hs, fun e => absurd e hl⟩
theorem nice_fold : ∀ (l : List UInt8) (st : List UInt8 × Bool), Nice st.1 → Nice (l.foldl fstep st).1
  | [], _, h => h
  | c :: l, st, h => nice_fold l _ (nice_step st c h)
theorem nice_foldB (l : List UInt8) : Nice (foldB l) := nice_fold l _ (fun i hi => by simp at hi)
theorem take_next (t : List UInt8) (k : Nat) (h : k < t.length) : t.take (k + 1) = t.take k ++ [t.getD k 0] := by
  rw [List.take_add_one, List.getElem?_eq_getElem h]; simp [h]
theorem nice_take (t : List UInt8) (h : Nice t) : ∀ k, k ≤ t.length → (t.take k).foldl fstep ([], false) = if 0 < k ∧ t.getD (k - 1) 0 = 32 then (t.take (k - 1), true) else (t.take k, false)
  | 0, _ => by simp
  | k + 1, hk => by
    have ih := nice_take t h k (by omega)
    have hn := h k (by omega)
    rw [take_next t k (by omega), List.foldl_append, ih]
    simp only [List.foldl_cons, List.foldl_nil, Nat.add_sub_cancel]
    by_cases hc : t.getD k 0 = 32
    · have h2 := hn.2 hc
      rw [if_neg (fun e => h2.2.2 e.2), if_pos ⟨by omega, hc⟩]
      unfold fstep
      rw [if_pos hc]
    · have R : (if 0 < k + 1 ∧ t.getD k 0 = 32 then (t.take k, true) else (t.take k ++ [t.getD k 0], false)) = (t.take k ++ [t.getD k 0], false) := if_neg (fun e => hc e.2)
      rw [R]
      by_cases hp : 0 < k ∧ t.getD (k - 1) 0 = 32
      · rw [if_pos hp]
        have h2 := (h (k - 1) (by omega)).2 hp.2
        unfold fstep gap
        rw [if_neg hc, low_same hn.1]
        have hne : t.take (k - 1) ≠ [] := by
          intro e
          have := congrArg List.length e
          rw [List.length_take, List.length_nil, Nat.min_eq_left (by omega)] at this
          omega
        simp only [true_and, if_pos hne]
        have e1 : t.take k = t.take (k - 1) ++ [32] := by
          have := take_next t (k - 1) (by omega)
          rw [show k - 1 + 1 = k by omega, hp.2] at this
          exact this
        rw [e1]
      · rw [if_neg hp]
        unfold fstep gap
        rw [if_neg hc, low_same hn.1]
        simp
theorem fold_nice (t : List UInt8) (h : Nice t) : foldB t = t := by
  have := nice_take t h t.length (Nat.le_refl _)
  unfold foldB
  rw [List.take_length] at this
  rw [this]
  rw [if_neg ?_]
  rintro ⟨h0, h1⟩
  have := (h (t.length - 1) (by omega)).2 h1
  omega
theorem fold_len (l : List UInt8) : (foldB l).length ≤ l.length := by
  have := fst0_len l l.length (Nat.le_refl _)
  unfold fst0 at this
  rw [List.take_length] at this
  exact this
set_option maxHeartbeats 4000000 in
set_option maxRecDepth 100000 in
theorem TextAgain_any {w : World} (s : ByteArray) (hT : Tab w) (hs : s.size ≤ 9223372036854775807) : Calls Tryd.prog 6 #[.string s] w fun e w' => e = .returned (.bool true) ∧ Below w.heap.size w w' := by
  obtain ⟨l, hl⟩ : ∃ l, str l = s := ⟨s.data.toList, str_eta s⟩
  have HT : Hid (Tab w) := hT
  have HL : Hid (str l = s) := hl
  have hz : s.size = l.length := by rw [← hl]; exact str_size l
  have HZ : Hid (s.size = l.length) := hz
  clear hT hl hz
  have zI : (s.size : Int) ≤ 9223372036854775807 := by omega
  by_cases hbig : 16384 < s.size
  · have b1 : (16384 : Int) < (s.size : Int) := by omega
    go_enter Tryd.func6, Tryd.ntmps6
    go_wp2_with fail
    refine (live_t HT.out).mono ?_
    rintro e w1 ⟨rfl, hb⟩
    go_wp2
    go_ret
    exact ⟨rfl, hb⟩
  · have b1 : ¬ (16384 : Int) < (s.size : Int) := by omega
    have hle : l.length ≤ 100000 := by have := HZ.out; omega
    have hfl := fold_len l
    have hN := nice_foldB l
    have HF : Hid (∀ W, Tab W → Calls Tryd.prog 15 #[.string s] W fun e w' => e = .returned (.string (str (foldB l))) ∧ Below W.heap.size W w') := fun W h => HL.out ▸ Fold_any l hle h.u8
    obtain ⟨t, ht⟩ : ∃ t, foldB l = t := ⟨_, rfl⟩
    rw [ht] at HF hfl hN
    have HFF : Hid (∀ W, Tab W → Calls Tryd.prog 15 #[.string (str t)] W fun e w' => e = .returned (.string (str t)) ∧ Below W.heap.size W w') := fun W h => by
      have := Fold_any (w := W) t (by omega) h.u8
      rw [fold_nice t hN] at this
      exact this
    have HG : Hid (∀ i (h : i < (str t).size), i < t.length → (str t)[i]'h = t.getD i 0) := fun i h hl => str_get t i h hl
    obtain ⟨F, hF⟩ : ∃ F, str t = F := ⟨_, rfl⟩
    have hFz : F.size = t.length := by rw [← hF]; exact str_size t
    rw [hF] at HF HFF HG
    have HN : Hid (Nice t ∧ F.size = t.length) := ⟨hN, hFz⟩
    have f1 : (F.size : Int) ≤ (s.size : Int) := by have := HZ.out; omega
    clear hF ht hle hN hfl hFz
    go_enter Tryd.func6, Tryd.ntmps6
    go_wp2_with fail
    refine (HF.out _ HT.out).mono ?_
    rintro e w1 ⟨rfl, hb⟩
    have H1 : Hid (Below w.heap.size w w1) := hb
    clear hb
    go_wp2
    go_loopw [4] (fun iv wr => ∃ i : Nat, iv = .int .i64 i ∧ i ≤ t.length ∧ Below w.heap.size w wr) (fun iv _ => t.length - (intOf iv).toNat)
    case atStart => exact ⟨0, rfl, Nat.zero_le _, H1.out⟩
    case round =>
      obtain ⟨i, rfl, hi, hb⟩ := hrel
      have HB : Hid (Below w.heap.size w wr) := hb
      clear hb
      by_cases hlt : i < t.length
      · have hni := HN.out.1 i hlt
        have hX := HG.out i (by rw [HN.out.2]; exact hlt) hlt
        have z1 : (i : Int) < (F.size : Int) := by rw [HN.out.2]; omega
        have z0 : (F.size : Int) ≤ 16384 := by omega
        obtain ⟨x, hx⟩ : ∃ x, t.getD i 0 = x := ⟨_, rfl⟩
        rw [hx] at hX hni
        clear hx
        by_cases h32 : x = 32
        · subst h32
          have h2 := hni.2 rfl
          have hY := HG.out (i - 1) (by rw [HN.out.2]; omega) (by omega)
          obtain ⟨y, hy⟩ : ∃ y, t.getD (i - 1) 0 = y := ⟨_, rfl⟩
          rw [hy] at hY h2
          obtain ⟨k, rfl⟩ : ∃ k, i = k + 1 := ⟨i - 1, by omega⟩
          have y32 : ((y.toNat : Int) == 32) = false := by
            rw [beq_eq_false_iff_ne]
            intro h
            exact h2.2.2 (u8_eq (by simp; omega))
          have k0 : ((k : Int) + 1 == 0) = false := by rw [beq_eq_false_iff_ne]; omega
          have k1 : ((k : Int) + 1 == (F.size : Int) - 1) = false := by rw [beq_eq_false_iff_ne, HN.out.2]; have := h2.2.1; omega
          simp only [Nat.add_sub_cancel] at hY
          have z2 : (k : Int) < (F.size : Int) := by omega
          have kI : ((k + 1 : Nat) : Int) = (k : Int) + 1 := by omega
          rw [kI] at z1 ⊢
          clear h2 hy hni
          go_wp2
          go_roundw
          case rel => exact ⟨k + 2, by go_num, by omega, HB.out⟩
          case measure => simp [intOf]; omega
        · have x32 : ((x.toNat : Int) == 32) = false := by
            rw [beq_eq_false_iff_ne]
            intro h
            exact h32 (u8_eq (by simp; omega))
          have cs : (¬ (65 : Int) ≤ (x.toNat : Int)) ∨ ((65 : Int) ≤ (x.toNat : Int) ∧ ¬ (x.toNat : Int) ≤ 90) := by have := hni.1; omega
          clear h32 hni
          rcases cs with c1 | ⟨c1, c2⟩
          all_goals
            go_wp2
            go_roundw
            case rel => exact ⟨i + 1, by go_num, by omega, HB.out⟩
            case measure => simp [intOf]; omega
      · have z1 : ¬ (i : Int) < (F.size : Int) := by rw [HN.out.2]; omega
        go_wp2_with fail
        refine (HFF.out _ (HT.out.below HB.out)).mono ?_
        rintro e w2 ⟨rfl, hb2⟩
        have H2 : Hid (Below w.heap.size w w2) := below_via HB.out hb2 (Nat.le_refl _)
        clear hb2
        go_wp2_with fail
        refine (live_t (HT.out.below H2.out)).mono ?_
        rintro e w3 ⟨rfl, hb3⟩
        have H3 : Hid (Below w.heap.size w w3) := below_via H2.out hb3 (Nat.le_refl _)
        clear hb3
        go_wp2
        go_ret
        exact ⟨rfl, H3.out⟩
end Go.Proofs.YtonekkfpadgdhaaDoor
