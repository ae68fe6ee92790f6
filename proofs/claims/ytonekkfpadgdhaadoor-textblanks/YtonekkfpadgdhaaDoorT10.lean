/-
  Text: Key, Alike.
-/
import Derived.Test.YtonekkfpadgdhaaDoorT9
import Derived.Lib.ItoaLen
import Derived.Lib.Strings
namespace Go.Proofs.YtonekkfpadgdhaaDoor
open Go.RowKit
abbrev P10 (w : World) : Prop := Lib.TabIs Tryd.prog w "internal/strconv.uint64pow10" .u64 Lib.pow10Tab
theorem Itoa_any {w : World} (n : Int) (h0 : -9223372036854775808 ≤ n) (h1 : n ≤ 9223372036854775807) (hT : P10 w) :
    Calls Tryd.prog 35 #[.int .i64 n] w fun e w' => e = .returned (.string (str (Lib.itoa n))) ∧ Below w.heap.size w w' := by
  refine (Tryd.strconv_Itoa n h0 h1 w hT).mono ?_
  rintro e w' ⟨rfl, k, os, rfl⟩
  refine ⟨rfl, rfl, rfl, rfl, ?_, fun j hj => ?_⟩
  · show _ ≤ (w.heap ++ os).size
    rw [Array.size_append]; omega
  · show (w.heap ++ os)[j]? = _
    rw [Array.getElem?_append_left hj]
theorem pairs_len : ∀ (l t : List UInt8), pairsB l = some t → 2 * t.length ≤ 3 * l.length
  | [], t, h => by simp [pairsB] at h; subst h; simp
  | [_], t, h => by simp [pairsB] at h
  | a :: b :: l, t, h => by
    unfold pairsB at h
    split at h
    · cases h
    · obtain ⟨t', h1, rfl⟩ := Option.map_eq_some_iff.1 h
      have := pairs_len l t' h1
      have h3 : (Lib.encodeRune ((a.toNat * 256 + b.toNat : Nat) : Int)).length ≤ 3 := by
        have := a.toNat_lt; have := b.toNat_lt
        unfold Lib.encodeRune Lib.encodeRuneZ
        rw [List.length_map]
        repeat' split
        all_goals simp
        all_goals omega
      rw [List.length_append]
      simp only [List.length_cons]
      omega
theorem textS_len (tag : Int) (l : List UInt8) : (textS tag l).1.length ≤ 2 * l.length := by
  have key : ∀ b, (okT b l).1.length ≤ 2 * l.length := by
    intro b; unfold okT; cases b <;> simp; omega
  unfold textS
  repeat' split
  all_goals try exact key _
  · unfold pairT
    split
    · rename_i t h
      have := pairs_len l t h
      simp only; omega
    · simp
  · simp
def keyB (tag : Int) (l : List UInt8) : List UInt8 := if (textS tag l).2 = 0 then 61 :: foldB (textS tag l).1 else 35 :: (Lib.itoa tag ++ 58 :: l)
theorem str_app (a b : List UInt8) : str a ++ str b = str (a ++ b) := by
  apply ByteArray.ext
  simp [str, ByteArray.data_append]
theorem Tryd.g_pw : Tryd.prog.globalNamed "internal/strconv.uint64pow10" = some 3 := by kernel_rfl
theorem Tabs_below {w w' : World} (h : P10 w) (hb : Below w.heap.size w w') : P10 w' := by
  have hc := h.cell Tryd.g_pw 0 (by decide)
  have hlt : 3 < w.heap.size := by
    rcases Nat.lt_or_ge 3 w.heap.size with h' | h'
    · exact h'
    · unfold World.cell? at hc
      rw [Array.getElem?_eq_none h'] at hc
      cases hc
  unfold P10 Lib.TabIs World.var? at *
  rw [Tryd.g_pw] at h ⊢
  rw [← h]
  simp only [Option.bind_some]
  rw [hb.block _ hlt]
theorem errno_range (tag : Int) (l : List UInt8) : (textS tag l).2 = 0 ∨ (textS tag l).2 = 60 ∨ (textS tag l).2 = 61 := by
  have key : ∀ b, (okT b l).2 = 0 ∨ (okT b l).2 = 60 ∨ (okT b l).2 = 61 := by
    intro b; unfold okT; cases b <;> simp
  unfold textS
  repeat' split
  all_goals try exact key _
  · unfold pairT
    split <;> simp
  · simp
set_option maxHeartbeats 4000000 in
set_option maxRecDepth 100000 in
theorem Key_any {w : World} (tag : Int) (v : Value) (l : List UInt8) (hX : Sl .u8 w v (nums l)) (hl : l.length ≤ 50000) (h0 : -9223372036854775808 ≤ tag) (h1 : tag ≤ 9223372036854775807) (hT : U8T w) (hP : P10 w) : Calls Tryd.prog 17 #[.int .i64 tag, v] w fun e w' => e = .returned (.string (str (keyB tag l))) ∧ Below w.heap.size w w' := by
  have HC : Hid (Calls Tryd.prog 11 #[.int .i64 tag, v] w fun e w' => e = TextEnd tag l ∧ Below w.heap.size w w') := Text_any tag v l hX (by omega) hT
  have HX : Hid (Sl .u8 w v (nums l) ∧ U8T w ∧ P10 w) := ⟨hX, hT, hP⟩
  have HE := errno_range tag l
  have HN := textS_len tag l
  unfold TextEnd at HC
  obtain ⟨T, E, hTE⟩ : ∃ T E, textS tag l = (T, E) := ⟨_, _, rfl⟩
  have HK : Hid (keyB tag l = if E = 0 then 61 :: foldB T else 35 :: (Lib.itoa tag ++ 58 :: l)) := by
    show _ = _
    unfold keyB
    rw [hTE]
  rw [hTE] at HC HE HN
  simp only at HC HE HN
  clear hTE hT hP
  obtain ⟨a, c, rfl, -⟩ := sl_str hX
  clear hX
  by_cases hE : E = 0
  · subst hE
    rw [if_pos rfl] at HK
    go_enter Tryd.func17, Tryd.ntmps17
    go_wp2_with fail
    refine HC.out.mono ?_
    rintro e w1 ⟨rfl, hb⟩
    go_wp2_with fail
    refine (Fold_any T (by omega) (Utf8Tabs_below HX.out.2.1 hb)).mono ?_
    rintro e w2 ⟨rfl, hb2⟩
    have zF : (str (foldB T)).size ≤ 100000 := by
      rw [str_size]
      have := fst0_len T T.length (Nat.le_refl _)
      unfold fst0 at this
      rw [List.take_length] at this
      unfold foldB; omega
    obtain ⟨F, hF⟩ : ∃ F, str (foldB T) = F := ⟨_, rfl⟩
    rw [hF] at zF
    have HF : Hid (str (foldB T) = F) := hF
    rw [hF]
    clear hF
    go_wp2
    go_ret
    refine ⟨?_, below_via hb hb2 (Nat.le_refl _)⟩
    rw [HK.out]
    show Ending.returned (.string (str [61] ++ F)) = _
    rw [← HF.out, str_app]; rfl
  · have nE : (E != 0) = true := by simp [hE]
    rw [if_neg hE] at HK
    go_enter Tryd.func17, Tryd.ntmps17
    go_wp2_with fail
    refine HC.out.mono ?_
    rintro e w1 ⟨rfl, hb⟩
    have zI : (str (Lib.itoa tag)).size ≤ 21 := by rw [str_size]; exact Lib.itoa_length_le tag h0 h1
    have zD : (str l).size ≤ 50000 := by rw [str_size]; exact hl
    obtain ⟨I, hI⟩ : ∃ I, str (Lib.itoa tag) = I := ⟨_, rfl⟩
    obtain ⟨D, hD⟩ : ∃ D, str l = D := ⟨_, rfl⟩
    have HCV : ∀ W, Below w.heap.size w W → Sem.run Tryd.prog (convert 22 9 (.slice a l.length c)) W = .ok (.string (str l)) W := fun W hW => by
      obtain ⟨a', c', e, h⟩ := sl_str (below_sl hW HX.out.1)
      cases e
      exact h
    have HIT : Hid (∀ W, Below w.heap.size w W → Calls Tryd.prog 35 #[.int .i64 tag] W fun e w' => e = .returned (.string I) ∧ Below W.heap.size W w') := fun W hW => hI ▸ Itoa_any tag h0 h1 (Tabs_below HX.out.2.2 hW)
    rw [hI] at zI
    rw [hD] at zD HCV
    have HKS : Hid (∀ W, Below w.heap.size w W → Below w.heap.size w W ∧ Sem.run Tryd.prog (convert 22 9 (.slice a l.length c)) W = .ok (.string D) W) := fun W hW => ⟨hW, HCV _ hW⟩
    have HID : Hid (str (Lib.itoa tag) = I ∧ str l = D) := ⟨hI, hD⟩
    clear hI hD HCV HC
    have n1 : ¬ 9223372036854775807 < 1 + I.size := by omega
    have n2 : ¬ 9223372036854775807 < 1 + I.size + 1 := by omega
    have n3 : ¬ 9223372036854775807 < 1 + I.size + 1 + D.size := by omega
    go_wp2_with fail
    go_region_held3 (fun W => Below w.heap.size w W ∧ Sem.run Tryd.prog (convert 22 9 (.slice a l.length c)) W = .ok (.string D) W) ((refine HKS.out _ ?_; first | exact hb.drew | exact Below.drew (And.left (by assumption)) | exact And.left (by assumption) | exact below_via (And.left (by assumption)) hb2 (Nat.le_refl _) | exact Below.drew (below_via (And.left (by assumption)) hb2 (Nat.le_refl _)))) ((go_at_call 35; refine (HIT.out _ (And.left (by assumption))).mono ?_; rintro e w2 ⟨rfl, hb2⟩))
    all_goals
      rename_i hHeld
      have HB : Hid (Below w.heap.size w w2) := hHeld.1
      clear hHeld
      go_wp2
      go_ret
      refine ⟨?_, HB.out⟩
      rw [HK.out]
      show Ending.returned (.string (str [35] ++ I ++ str [58] ++ D)) = _
      rw [← HID.out.1, ← HID.out.2, str_app, str_app, str_app]
      simp
theorem beq_str (a b : List UInt8) : ((str a).toList == (str b).toList) = decide (a = b) := by
  rw [Lib.toList_data, Lib.toList_data, str_data, str_data, Bool.eq_iff_iff, beq_iff_eq, decide_eq_true_eq]
set_option maxHeartbeats 1000000 in
theorem Alike_any {w : World} (tag other : Int) (u v : Value) (a b : List UInt8) (hA : Sl .u8 w u (nums a)) (hB : Sl .u8 w v (nums b)) (la : a.length ≤ 50000) (lb : b.length ≤ 50000)
    (h0 : -9223372036854775808 ≤ tag) (h1 : tag ≤ 9223372036854775807) (g0 : -9223372036854775808 ≤ other) (g1 : other ≤ 9223372036854775807) (hT : U8T w) (hP : P10 w) :
    Calls Tryd.prog 19 #[.int .i64 tag, u, .int .i64 other, v] w fun e w' => e = .returned (.bool (decide (keyB tag a = keyB other b))) ∧ Below w.heap.size w w' := by
  have HX : Hid (Sl .u8 w u (nums a) ∧ Sl .u8 w v (nums b) ∧ U8T w ∧ P10 w) := ⟨hA, hB, hT, hP⟩
  clear hA hB hT hP
  go_enter Tryd.func19, Tryd.ntmps19
  go_wp2_with fail
  refine (Key_any tag u a HX.out.1 la h0 h1 HX.out.2.2.1 HX.out.2.2.2).mono ?_
  rintro e w1 ⟨rfl, hb⟩
  go_wp2_with fail
  refine (Key_any other v b (below_sl hb HX.out.2.1) lb g0 g1 (Utf8Tabs_below HX.out.2.2.1 hb) (Tabs_below HX.out.2.2.2 hb)).mono ?_
  rintro e w2 ⟨rfl, hb2⟩
  go_wp2
  go_ret
  refine ⟨?_, below_via hb hb2 (Nat.le_refl _)⟩
  rw [← beq_str]
  rfl
end Go.Proofs.YtonekkfpadgdhaaDoor
