/-
  Text: Text.
-/
import Derived.Laws.BytesArg
import Derived.Test.YtkjdihikcgpababDoorK22
namespace Go.Proofs.YtkjdihikcgpababDoor
open Go.RowKit
theorem str_nums (l : List UInt8) : strOfNums (nums l) = str l := by
  unfold strOfNums nums str
  rw [List.map_map]
  congr 2
  apply List.ext_getElem
  · simp
  · intro i h1 h2
    simp
theorem sl_str {w : World} {v : Value} {l : List UInt8} (h : Sl .u8 w v (nums l)) : ∃ a c, v = .slice a l.length c ∧ Sem.run Tryd.prog (convert 38 9 (.slice a l.length c)) w = .ok (.string (str l)) w := by
  rw [← str_nums]
  obtain ⟨a, c, rfl, _, hx | ⟨b, off, rfl, _, hr⟩⟩ := h
  · have hl : l = [] := by
      have := congrArg List.length hx
      rw [nums_len] at this
      exact List.eq_nil_of_length_eq_zero this
    subst hl
    refine ⟨a, c, rfl, ?_⟩
    rw [run_convert_bytes_string w _ _ _ _ _ c Tryd.und8 Tryd.e8 Tryd.str]
    cases a with
    | none => simp [Conv.bytesToString]; rfl
    | some p => simp [Conv.bytesToString, loadCells]; rfl
  · rw [nums_len]
    exact ⟨_, c, rfl, run_convert_bytes_arg w _ _ Tryd.und8 Tryd.e8 b off _ _ (nums l) (nums_len l) (fun i hi => hr i (by rw [nums_len]; exact hi)) _ Tryd.str⟩
def okT (b : Bool) (l : List UInt8) : List UInt8 × Int := if b then (l, 0) else ([], 60)
def pairT (l : List UInt8) : List UInt8 × Int := match pairsB l with
  | some t => (t, 0)
  | none => ([], 60)
def textS (tag : Int) (l : List UInt8) : List UInt8 × Int :=
  if tag = 12 then okT (Lib.validD l) l
  else if tag = 18 then okT (allB pN l) l
  else if tag = 19 then okT (allB pP l) l
  else if tag = 22 then okT (allB pI l) l
  else if tag = 26 then okT (allB pV l) l
  else if tag = 30 then pairT l
  else ([], 61)
def TextEnd (tag : Int) (l : List UInt8) : Ending := .returned (.tuple #[.string (str (textS tag l).1), .int .i64 (textS tag l).2])
theorem Valid_any {w : World} (l : List UInt8) (hl : l.length ≤ 100000) (hT : U8T w) : Calls Tryd.prog 60 #[.string (str l)] w fun e w' => e = .returned (.bool (Lib.validD l)) ∧ Below w.heap.size w w' := by
  have := Any.utf8_ValidString Tryd.lays196 (str l) w (by rw [str_size]; omega) hT
  rw [str_data] at this
  exact this
theorem Text_12 {w : World} (v : Value) (l : List UInt8) (hX : Sl .u8 w v (nums l)) (hl : l.length ≤ 100000) (hT : U8T w) : Calls Tryd.prog 55 #[.int .i64 12, v] w fun e w' => e = TextEnd 12 l ∧ Below w.heap.size w w' := by
  obtain ⟨a, c, rfl, hcv⟩ := sl_str hX
  have HE : Hid (textS 12 l = okT (Lib.validD l) l) := by
    show _ = _
    unfold textS
    simp
  have HC : Hid (∀ W, Below w.heap.size w W → Calls Tryd.prog 60 #[.string (str l)] W fun e w' => e = .returned (.bool (Lib.validD l)) ∧ Below W.heap.size W w') := fun W hW => Valid_any l hl (Utf8Tabs_below hT hW)
  obtain ⟨S, hS⟩ : ∃ S, str l = S := ⟨_, rfl⟩
  have HS : Hid (str l = S) := hS
  rw [hS] at HC hcv
  clear hS
  obtain ⟨r, hr⟩ : ∃ r, Lib.validD l = r := ⟨_, rfl⟩
  rw [hr] at HC HE
  clear hr hX
  cases r
  · go_enter Tryd.func55, Tryd.ntmps55
    go_wp2_with (go_at_call 60; refine (HC.out _ (Below.refl _ _)).mono ?_; rintro e w1 ⟨rfl, hb⟩)
    go_ret2
    refine ⟨?_, hb⟩
    unfold TextEnd
    rw [HE.out]; rfl
  · go_enter Tryd.func55, Tryd.ntmps55
    go_wp2_with (go_at_call 60; refine (HC.out _ (Below.refl _ _)).mono ?_; rintro e w1 ⟨rfl, hb⟩)
    go_ret2
    refine ⟨?_, hb⟩
    unfold TextEnd
    rw [HE.out, ← HS.out]; rfl
theorem Text_18 {w : World} (v : Value) (l : List UInt8) (hX : Sl .u8 w v (nums l)) (hl : l.length ≤ 100000) : Calls Tryd.prog 55 #[.int .i64 18, v] w fun e w' => e = TextEnd 18 l ∧ Below w.heap.size w w' := by
  obtain ⟨a, c, rfl, hcv⟩ := sl_str hX
  have HE : Hid (textS 18 l = okT (allB pN l) l) := by
    show _ = _
    unfold textS
    simp
  have HC : Hid (∀ W, Calls Tryd.prog 61 #[.string (str l), .func (.func 62) #[] #[]] W fun e w' => e = .returned (.bool (allB pN l)) ∧ Below W.heap.size W w') := fun W => all_isNumeric l hl
  obtain ⟨S, hS⟩ : ∃ S, str l = S := ⟨_, rfl⟩
  have HS : Hid (str l = S) := hS
  rw [hS] at HC hcv
  clear hS
  obtain ⟨r, hr⟩ : ∃ r, allB pN l = r := ⟨_, rfl⟩
  rw [hr] at HC HE
  clear hr hX
  cases r
  · go_enter Tryd.func55, Tryd.ntmps55
    go_wp2_with (go_at_call 61; refine (HC.out _).mono ?_; rintro e w1 ⟨rfl, hb⟩)
    go_ret2
    refine ⟨?_, hb⟩
    unfold TextEnd
    rw [HE.out]; rfl
  · go_enter Tryd.func55, Tryd.ntmps55
    go_wp2_with (go_at_call 61; refine (HC.out _).mono ?_; rintro e w1 ⟨rfl, hb⟩)
    go_ret2
    refine ⟨?_, hb⟩
    unfold TextEnd
    rw [HE.out, ← HS.out]; rfl
theorem Text_19 {w : World} (v : Value) (l : List UInt8) (hX : Sl .u8 w v (nums l)) (hl : l.length ≤ 100000) : Calls Tryd.prog 55 #[.int .i64 19, v] w fun e w' => e = TextEnd 19 l ∧ Below w.heap.size w w' := by
  obtain ⟨a, c, rfl, hcv⟩ := sl_str hX
  have HE : Hid (textS 19 l = okT (allB pP l) l) := by
    show _ = _
    unfold textS
    simp
  have HC : Hid (∀ W, Calls Tryd.prog 61 #[.string (str l), .func (.func 63) #[] #[]] W fun e w' => e = .returned (.bool (allB pP l)) ∧ Below W.heap.size W w') := fun W => all_isPrintable l hl
  obtain ⟨S, hS⟩ : ∃ S, str l = S := ⟨_, rfl⟩
  have HS : Hid (str l = S) := hS
  rw [hS] at HC hcv
  clear hS
  obtain ⟨r, hr⟩ : ∃ r, allB pP l = r := ⟨_, rfl⟩
  rw [hr] at HC HE
  clear hr hX
  cases r
  · go_enter Tryd.func55, Tryd.ntmps55
    go_wp2_with (go_at_call 61; refine (HC.out _).mono ?_; rintro e w1 ⟨rfl, hb⟩)
    go_ret2
    refine ⟨?_, hb⟩
    unfold TextEnd
    rw [HE.out]; rfl
  · go_enter Tryd.func55, Tryd.ntmps55
    go_wp2_with (go_at_call 61; refine (HC.out _).mono ?_; rintro e w1 ⟨rfl, hb⟩)
    go_ret2
    refine ⟨?_, hb⟩
    unfold TextEnd
    rw [HE.out, ← HS.out]; rfl
theorem Text_22 {w : World} (v : Value) (l : List UInt8) (hX : Sl .u8 w v (nums l)) (hl : l.length ≤ 100000) : Calls Tryd.prog 55 #[.int .i64 22, v] w fun e w' => e = TextEnd 22 l ∧ Below w.heap.size w w' := by
  obtain ⟨a, c, rfl, hcv⟩ := sl_str hX
  have HE : Hid (textS 22 l = okT (allB pI l) l) := by
    show _ = _
    unfold textS
    simp
  have HC : Hid (∀ W, Calls Tryd.prog 61 #[.string (str l), .func (.func 64) #[] #[]] W fun e w' => e = .returned (.bool (allB pI l)) ∧ Below W.heap.size W w') := fun W => all_isIa5 l hl
  obtain ⟨S, hS⟩ : ∃ S, str l = S := ⟨_, rfl⟩
  have HS : Hid (str l = S) := hS
  rw [hS] at HC hcv
  clear hS
  obtain ⟨r, hr⟩ : ∃ r, allB pI l = r := ⟨_, rfl⟩
  rw [hr] at HC HE
  clear hr hX
  cases r
  · go_enter Tryd.func55, Tryd.ntmps55
    go_wp2_with (go_at_call 61; refine (HC.out _).mono ?_; rintro e w1 ⟨rfl, hb⟩)
    go_ret2
    refine ⟨?_, hb⟩
    unfold TextEnd
    rw [HE.out]; rfl
  · go_enter Tryd.func55, Tryd.ntmps55
    go_wp2_with (go_at_call 61; refine (HC.out _).mono ?_; rintro e w1 ⟨rfl, hb⟩)
    go_ret2
    refine ⟨?_, hb⟩
    unfold TextEnd
    rw [HE.out, ← HS.out]; rfl
theorem Text_26 {w : World} (v : Value) (l : List UInt8) (hX : Sl .u8 w v (nums l)) (hl : l.length ≤ 100000) : Calls Tryd.prog 55 #[.int .i64 26, v] w fun e w' => e = TextEnd 26 l ∧ Below w.heap.size w w' := by
  obtain ⟨a, c, rfl, hcv⟩ := sl_str hX
  have HE : Hid (textS 26 l = okT (allB pV l) l) := by
    show _ = _
    unfold textS
    simp
  have HC : Hid (∀ W, Calls Tryd.prog 61 #[.string (str l), .func (.func 65) #[] #[]] W fun e w' => e = .returned (.bool (allB pV l)) ∧ Below W.heap.size W w') := fun W => all_isVisible l hl
  obtain ⟨S, hS⟩ : ∃ S, str l = S := ⟨_, rfl⟩
  have HS : Hid (str l = S) := hS
  rw [hS] at HC hcv
  clear hS
  obtain ⟨r, hr⟩ : ∃ r, allB pV l = r := ⟨_, rfl⟩
  rw [hr] at HC HE
  clear hr hX
  cases r
  · go_enter Tryd.func55, Tryd.ntmps55
    go_wp2_with (go_at_call 61; refine (HC.out _).mono ?_; rintro e w1 ⟨rfl, hb⟩)
    go_ret2
    refine ⟨?_, hb⟩
    unfold TextEnd
    rw [HE.out]; rfl
  · go_enter Tryd.func55, Tryd.ntmps55
    go_wp2_with (go_at_call 61; refine (HC.out _).mono ?_; rintro e w1 ⟨rfl, hb⟩)
    go_ret2
    refine ⟨?_, hb⟩
    unfold TextEnd
    rw [HE.out, ← HS.out]; rfl
theorem Text_30 {w : World} (v : Value) (l : List UInt8) (hX : Sl .u8 w v (nums l)) (hl : l.length ≤ 100000) : Calls Tryd.prog 55 #[.int .i64 30, v] w fun e w' => e = TextEnd 30 l ∧ Below w.heap.size w w' := by
  have HC : Hid (Calls Tryd.prog 66 #[v] w fun e w' => PairIs l e ∧ Below w.heap.size w w') := fromPairs_any v l hX hl
  obtain ⟨a, c, rfl, hcv⟩ := sl_str hX
  have HE : Hid (textS 30 l = pairT l) := by
    show _ = _
    unfold textS
    simp
  obtain ⟨S, hS⟩ : ∃ S, str l = S := ⟨_, rfl⟩
  rw [hS] at hcv
  clear hX hS
  go_enter Tryd.func55, Tryd.ntmps55
  go_wp2_with fail
  refine HC.out.mono ?_
  rintro e w1 ⟨hp, hb⟩
  rcases hp with ⟨t, ht, rfl⟩ | ⟨hn, rfl⟩
  · have HB : Hid (Below w.heap.size w w1 ∧ textS 30 l = (t, 0)) := ⟨hb, by rw [HE.out]; unfold pairT; rw [ht]⟩
    clear hb ht
    go_wp2
    go_ret2
    refine ⟨?_, HB.out.1⟩
    unfold TextEnd
    rw [HB.out.2]; rfl
  · have HB : Hid (Below w.heap.size w w1 ∧ textS 30 l = ([], 60)) := ⟨hb, by rw [HE.out]; unfold pairT; rw [hn]⟩
    clear hb hn
    go_wp2
    go_ret2
    refine ⟨?_, HB.out.1⟩
    unfold TextEnd
    rw [HB.out.2]; rfl
theorem Text_none {w : World} (tag : Int) (v : Value) (l : List UInt8) (hX : Sl .u8 w v (nums l)) (h : ¬ (tag = 12 ∨ tag = 18 ∨ tag = 19 ∨ tag = 22 ∨ tag = 26 ∨ tag = 30)) : Calls Tryd.prog 55 #[.int .i64 tag, v] w fun e w' => e = TextEnd tag l ∧ Below w.heap.size w w' := by
  obtain ⟨a, c, rfl, hcv⟩ := sl_str hX
  have HE : Hid (textS tag l = ([], 61)) := by
    show _ = _
    unfold textS
    simp only [not_or] at h
    simp [h]
  have h1 : (tag == 12) = false := by simp; omega
  have h2 : (tag == 18) = false := by simp; omega
  have h3 : (tag == 19) = false := by simp; omega
  have h4 : (tag == 22) = false := by simp; omega
  have h5 : (tag == 26) = false := by simp; omega
  have h6 : (tag == 30) = false := by simp; omega
  clear h hX
  go_enter Tryd.func55, Tryd.ntmps55
  go_wp2
  go_ret2
  refine ⟨?_, Below.refl _ _⟩
  unfold TextEnd
  rw [HE.out]; rfl
theorem Text_any {w : World} (tag : Int) (v : Value) (l : List UInt8) (hX : Sl .u8 w v (nums l)) (hl : l.length ≤ 100000) (hT : U8T w) : Calls Tryd.prog 55 #[.int .i64 tag, v] w fun e w' => e = TextEnd tag l ∧ Below w.heap.size w w' := by
  by_cases h : tag = 12 ∨ tag = 18 ∨ tag = 19 ∨ tag = 22 ∨ tag = 26 ∨ tag = 30
  · rcases h with rfl | rfl | rfl | rfl | rfl | rfl
    · exact Text_12 v l hX hl hT
    · exact Text_18 v l hX hl
    · exact Text_19 v l hX hl
    · exact Text_22 v l hX hl
    · exact Text_26 v l hX hl
    · exact Text_30 v l hX hl
  · exact Text_none tag v l hX h
end Go.Proofs.YtkjdihikcgpababDoor
