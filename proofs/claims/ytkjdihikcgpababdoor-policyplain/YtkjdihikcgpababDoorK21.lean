/-
  Text: printable characters; every character of a string asked.
-/
import Derived.Lib.QuoteLoop
import Derived.Test.YtkjdihikcgpababDoorK20
namespace Go.Proofs.YtkjdihikcgpababDoor
open Go.RowKit
set_option maxRecDepth 100000 in
theorem ix_marks : ∀ c : Fin 128, decide (0 ≤ Lib.indexByte mk.data.toList ((c.val : Int).toNat.toUInt8)) = decide (c.val ∈ marks) := by decide +kernel
theorem high_marks {c : Nat} (h : 128 ≤ c) : decide (c ∈ marks) = false := by
  unfold marks
  simp
  omega
theorem ContainsRune_any {w : World} (c : Nat) (h1 : c ≤ 1114111) (hv : Lib.validRune c = true) : Calls Tryd.prog 73 #[.string mk, .int .i32 c] w fun e w' => e = .returned (.bool (decide (c ∈ marks))) ∧ Below w.heap.size w w' := by
  have key : ∃ r : Int, decide (0 ≤ r) = decide (c ∈ marks) ∧ ∀ w, Calls Tryd.prog 81 #[.string mk, .int .i32 c] w fun e w' => e = .returned (.int .i64 r) ∧ Below w.heap.size w w' := by
    by_cases h : c < 128
    · refine ⟨_, ix_marks ⟨c, h⟩, fun w => ?_⟩
      exact (Tryd.strings_IndexRune_ascii mk c w (by omega) (by omega)).mono fun e w' h => ⟨h.1, h.2 ▸ Below.refl _ _⟩
    · refine ⟨-1, ?_, fun w => ?_⟩
      · rw [high_marks (by omega)]; rfl
      · by_cases he : c = 65533
        · subst he; exact IndexRune_err
        · exact IndexRune_high c (by omega) h1 hv he
  obtain ⟨r, hr, hC⟩ := key
  obtain ⟨M, hM⟩ : ∃ M, mk = M := ⟨_, rfl⟩
  rw [hM] at hC ⊢
  rw [← hr]
  clear hr hM hv h1
  have HC : Hid _ := hC
  clear hC
  go_enter Tryd.func73, Tryd.ntmps73
  go_wp2_with fail
  refine (HC.out _).mono ?_
  rintro e w1 ⟨rfl, hb⟩
  go_wp2
  go_ret
  exact ⟨rfl, hb⟩
theorem isPrintable_any {w : World} (c : Nat) (h1 : c ≤ 1114111) (hv : Lib.validRune c = true) : Calls Tryd.prog 63 #[.int .i32 c] w fun e w' => e = .returned (.bool (pP c)) ∧ Below w.heap.size w w' := by
  have HC : Hid (∀ w, Calls Tryd.prog 73 #[.string mk, .int .i32 c] w fun e w' => e = .returned (.bool (decide (c ∈ marks))) ∧ Below w.heap.size w w') := fun w => ContainsRune_any c h1 hv
  have HG : Hid (∀ w, Calls Tryd.prog 71 #[.int .i32 c] w fun e w' => e = .returned (.bool (pG c)) ∧ w = w') := fun w => isGreat_any c _ (by unfold pG; simp only [decide_eq_decide]; omega)
  have HS : Hid (∀ w, Calls Tryd.prog 72 #[.int .i32 c] w fun e w' => e = .returned (.bool (pS c)) ∧ w = w') := fun w => isSmall_any c
  have HN : Hid (∀ w, Calls Tryd.prog 62 #[.int .i32 c] w fun e w' => e = .returned (.bool (pN c)) ∧ w = w') := fun w => isNumeric_any c
  have HP : Hid (pP c = (pG c || pS c || pN c || decide (c ∈ marks))) := rfl
  obtain ⟨P, hP⟩ : ∃ P, pP c = P := ⟨_, rfl⟩
  obtain ⟨G, hG⟩ : ∃ G, pG c = G := ⟨_, rfl⟩
  obtain ⟨S, hS⟩ : ∃ S, pS c = S := ⟨_, rfl⟩
  obtain ⟨N, hN⟩ : ∃ N, pN c = N := ⟨_, rfl⟩
  obtain ⟨K, hK⟩ : ∃ K, decide (c ∈ marks) = K := ⟨_, rfl⟩
  rw [hP, hG, hS, hN, hK] at HP
  rw [hG] at HG
  rw [hS] at HS
  rw [hN] at HN
  rw [hK] at HC
  rw [hP]
  unfold mk at HC
  clear hP hG hS hN hK hv h1
  cases G
  · cases S
    · cases N
      · have := HP.out
        simp at this
        subst this
        clear HP
        go_enter Tryd.func63, Tryd.ntmps63
        go_wp2_with (first
          | (go_at_call 71; refine (HG.out _).mono ?_; rintro e w' ⟨rfl, rfl⟩)
          | (go_at_call 72; refine (HS.out _).mono ?_; rintro e w' ⟨rfl, rfl⟩)
          | (go_at_call 62; refine (HN.out _).mono ?_; rintro e w' ⟨rfl, rfl⟩))
        refine (HC.out _).mono ?_
        rintro e w1 ⟨rfl, hb⟩
        go_wp2
        go_ret
        exact ⟨rfl, hb⟩
      · have := HP.out
        simp at this
        subst this
        clear HP HC
        go_enter Tryd.func63, Tryd.ntmps63
        go_wp2_with (first
          | (go_at_call 71; refine (HG.out _).mono ?_; rintro e w' ⟨rfl, rfl⟩)
          | (go_at_call 72; refine (HS.out _).mono ?_; rintro e w' ⟨rfl, rfl⟩)
          | (go_at_call 62; refine (HN.out _).mono ?_; rintro e w' ⟨rfl, rfl⟩))
        go_ret
        exact ⟨rfl, Below.refl _ _⟩
    · have := HP.out
      simp at this
      subst this
      clear HP HC HN
      go_enter Tryd.func63, Tryd.ntmps63
      go_wp2_with (first
        | (go_at_call 71; refine (HG.out _).mono ?_; rintro e w' ⟨rfl, rfl⟩)
        | (go_at_call 72; refine (HS.out _).mono ?_; rintro e w' ⟨rfl, rfl⟩))
      go_ret
      exact ⟨rfl, Below.refl _ _⟩
  · have := HP.out
    simp at this
    subst this
    clear HP HC HN HS
    go_enter Tryd.func63, Tryd.ntmps63
    go_wp2_with (go_at_call 71; refine (HG.out _).mono ?_; rintro e w' ⟨rfl, rfl⟩)
    go_ret
    exact ⟨rfl, Below.refl _ _⟩
/-- Every byte is one of them. -/
def allB (p : Nat → Bool) (l : List UInt8) : Bool := l.all fun b => p b.toNat
theorem allB_cut (p : Nat → Bool) (l : List UInt8) (pos : Nat) : allB p l = (allB p (l.take pos) && allB p (l.drop pos)) := by
  unfold allB
  rw [← List.all_append, List.take_append_drop]
theorem dec_valid (l : List UInt8) : Lib.validRune ((Lib.decodeL l).1 : Int) = true := Lib.rune_valid _
/-- The character ahead is one of them just where its first byte is, and then it is one byte. -/
theorem all_step (p : Nat → Bool) (hp : ∀ c, 128 ≤ c → p c = false) (m : List UInt8) (hm : m ≠ []) :
    (p (Lib.decodeL m).1 = true → (Lib.decodeL m).2 = 1 ∧ allB p (m.take 1) = true) ∧ (p (Lib.decodeL m).1 = false → allB p m = false) := by
  rcases dec_cases m hm with ⟨b, t, rfl, hb, e⟩ | ⟨h1, _, h2, h3, h4, _⟩
  · rw [e]
    simp only [allB]
    refine ⟨fun h => ⟨trivial, by simp [h]⟩, fun h => by simp [h]⟩
  · rw [hp _ h1]
    refine ⟨fun h => by simp at h, fun _ => ?_⟩
    match m, hm with
    | b :: t, _ =>
      have hb : 128 ≤ b.toNat := h4 b (by
        obtain ⟨k, hk⟩ : ∃ k, (Lib.decodeL (b :: t)).2 = k + 1 := ⟨(Lib.decodeL (b :: t)).2 - 1, by omega⟩
        rw [hk]; simp)
      simp [allB, hp _ hb]
set_option maxHeartbeats 2000000 in
set_option maxRecDepth 100000 in
theorem all_isNumeric {w : World} (l : List UInt8) (hl : l.length ≤ 100000) :
    Calls Tryd.prog 61 #[.string (str l), .func (.func 62) #[] #[]] w fun e w' => e = .returned (.bool (allB pN l)) ∧ Below w.heap.size w w' := by
  obtain ⟨S, hS⟩ : ∃ S, str l = S := ⟨_, rfl⟩
  have HS : Hid (S.data.toList = l ∧ S.size = l.length) := ⟨by rw [← hS]; exact str_data l, by rw [← hS]; exact str_size l⟩
  rw [hS]
  clear hS
  go_enter Tryd.func61, Tryd.ntmps61
  go_wp2_with fail
  go_loopw [] (fun wr => ∃ pos : Nat, pos ≤ l.length ∧ wr.heap[w.heap.size]? = some (.stringIter S pos) ∧ Below w.heap.size w wr ∧ allB pN (l.take pos) = true) (fun wr => l.length - wr.iterPos w.heap.size)
  case atStart => exact ⟨0, by omega, World.iter_heap w S 0, al1 _, rfl⟩
  case round =>
    obtain ⟨pos, hp, hit, hb, ha⟩ := hrel
    by_cases hlt : pos < l.length
    · have hps : pos < S.size := by rw [HS.out.2]; exact hlt
      have hnx := fun ty => Lib.run_next_any_at (P := Tryd.prog) wr w.heap.size S pos ty hit hps
      have hdl : Utf8.decode S pos = Lib.decodeL (l.drop pos) := by rw [← Lib.decodeL_drop, HS.out.1]
      rw [hdl] at hnx
      have hne : l.drop pos ≠ [] := by intro h0; have := congrArg List.length h0; simp at this; omega
      have hst := all_step pN (fun c hc => by unfold pN; simp; omega) (l.drop pos) hne
      have hcall : ∀ w : World, Calls Tryd.prog 62 #[.int .i32 (Lib.decodeL (l.drop pos)).1] w fun e w' => e = .returned (.bool (pN (Lib.decodeL (l.drop pos)).1)) ∧ Below w.heap.size w w' := fun w => (isNumeric_any _).mono fun _ _ h => ⟨h.1, h.2 ▸ Below.refl _ _⟩
      obtain ⟨R, hR⟩ : ∃ R, (Lib.decodeL (l.drop pos)).1 = R := ⟨_, rfl⟩
      obtain ⟨K, hK⟩ : ∃ K, (Lib.decodeL (l.drop pos)).2 = K := ⟨_, rfl⟩
      rw [hR] at hnx hst hcall
      rw [hK] at hnx hst
      clear hR hK hdl
      have hit2 := Lib.iterAt_heap wr w.heap.size S pos (pos + K) hit
      have hb2 := Lib.below_iterAt hb (k := w.heap.size) (Nat.le_refl _) S (pos + K)
      have HM : Hid (wr.iterPos w.heap.size = pos) := by show _ = _; unfold World.iterPos; rw [hit]
      obtain ⟨W0, hW0⟩ : ∃ W0, wr.iterAt w.heap.size S (pos + K) = W0 := ⟨_, rfl⟩
      rw [hW0] at hnx hit2 hb2
      clear hW0 hit hb hps
      have HX : Hid (W0.heap[w.heap.size]? = some (.stringIter S (pos + K)) ∧ Below w.heap.size w W0) := ⟨hit2, hb2⟩
      have HC : Hid _ := hcall
      clear hit2 hb2 hcall
      obtain ⟨r, hr⟩ : ∃ r, pN R = r := ⟨_, rfl⟩
      rw [hr] at hst HC
      clear hr
      cases r
      · have HF : Hid (allB pN l = false) := by
          show _ = _
          rw [allB_cut pN l pos, hst.2 rfl, Bool.and_false]
        clear hst ha hne
        go_wp2_with (go_at_call 62; refine (HC.out _).mono ?_; rintro e w1 ⟨rfl, hb1⟩)
        go_ret
        exact ⟨by rw [HF.out]; rfl, below_via HX.out.2 hb1 (Nat.le_refl _)⟩
      · have hs := hst.1 rfl
        obtain ⟨rfl, h1⟩ := hs
        have HF : Hid (allB pN (l.take (pos + 1)) = true) := by
          show _ = _
          rw [List.take_add]
          unfold allB at ha h1 ⊢
          rw [List.all_append, ha, h1]; rfl
        clear hst ha hne h1
        go_wp2_with (go_at_call 62; refine (HC.out _).mono ?_; rintro e w1 ⟨rfl, hb1⟩)
        have hi1 : w1.heap[w.heap.size]? = some (.stringIter S (pos + 1)) := by rw [hb1.block _ (heap_lt HX.out.1)]; exact HX.out.1
        have H1 : Hid (w1.heap[w.heap.size]? = some (.stringIter S (pos + 1)) ∧ Below w.heap.size w w1) := ⟨hi1, below_via HX.out.2 hb1 (Nat.le_refl _)⟩
        clear hi1 hb1 hnx
        go_roundw
        case rel => exact ⟨pos + 1, by omega, H1.out.1, H1.out.2, HF.out⟩
        case measure =>
          have e : w1.iterPos w.heap.size = pos + 1 := by unfold World.iterPos; rw [H1.out.1]
          rw [e, HM.out]; omega
    · have hps : ¬ pos < S.size := by rw [HS.out.2]; exact hlt
      have hnx := fun ty => Lib.run_next_end_at (P := Tryd.prog) wr w.heap.size S pos ty hit hps
      have HX : Hid (Below w.heap.size w wr ∧ allB pN l = true) := ⟨hb, by rw [List.take_of_length_le (by omega)] at ha; exact ha⟩
      clear hit hb hps ha
      go_wp2
      go_ret
      exact ⟨by rw [HX.out.2]; rfl, HX.out.1⟩
set_option maxHeartbeats 2000000 in
set_option maxRecDepth 100000 in
theorem all_isPrintable {w : World} (l : List UInt8) (hl : l.length ≤ 100000) :
    Calls Tryd.prog 61 #[.string (str l), .func (.func 63) #[] #[]] w fun e w' => e = .returned (.bool (allB pP l)) ∧ Below w.heap.size w w' := by
  obtain ⟨S, hS⟩ : ∃ S, str l = S := ⟨_, rfl⟩
  have HS : Hid (S.data.toList = l ∧ S.size = l.length) := ⟨by rw [← hS]; exact str_data l, by rw [← hS]; exact str_size l⟩
  rw [hS]
  clear hS
  go_enter Tryd.func61, Tryd.ntmps61
  go_wp2_with fail
  go_loopw [] (fun wr => ∃ pos : Nat, pos ≤ l.length ∧ wr.heap[w.heap.size]? = some (.stringIter S pos) ∧ Below w.heap.size w wr ∧ allB pP (l.take pos) = true) (fun wr => l.length - wr.iterPos w.heap.size)
  case atStart => exact ⟨0, by omega, World.iter_heap w S 0, al1 _, rfl⟩
  case round =>
    obtain ⟨pos, hp, hit, hb, ha⟩ := hrel
    by_cases hlt : pos < l.length
    · have hps : pos < S.size := by rw [HS.out.2]; exact hlt
      have hnx := fun ty => Lib.run_next_any_at (P := Tryd.prog) wr w.heap.size S pos ty hit hps
      have hdl : Utf8.decode S pos = Lib.decodeL (l.drop pos) := by rw [← Lib.decodeL_drop, HS.out.1]
      rw [hdl] at hnx
      have hne : l.drop pos ≠ [] := by intro h0; have := congrArg List.length h0; simp at this; omega
      have hst := all_step pP (fun c hc => by unfold pP pG pS pN; rw [high_marks hc]; simp; omega) (l.drop pos) hne
      have hcall : ∀ w : World, Calls Tryd.prog 63 #[.int .i32 (Lib.decodeL (l.drop pos)).1] w fun e w' => e = .returned (.bool (pP (Lib.decodeL (l.drop pos)).1)) ∧ Below w.heap.size w w' := fun w => isPrintable_any _ (Lib.decodeL_rune _) (dec_valid _)
      obtain ⟨R, hR⟩ : ∃ R, (Lib.decodeL (l.drop pos)).1 = R := ⟨_, rfl⟩
      obtain ⟨K, hK⟩ : ∃ K, (Lib.decodeL (l.drop pos)).2 = K := ⟨_, rfl⟩
      rw [hR] at hnx hst hcall
      rw [hK] at hnx hst
      clear hR hK hdl
      have hit2 := Lib.iterAt_heap wr w.heap.size S pos (pos + K) hit
      have hb2 := Lib.below_iterAt hb (k := w.heap.size) (Nat.le_refl _) S (pos + K)
      have HM : Hid (wr.iterPos w.heap.size = pos) := by show _ = _; unfold World.iterPos; rw [hit]
      obtain ⟨W0, hW0⟩ : ∃ W0, wr.iterAt w.heap.size S (pos + K) = W0 := ⟨_, rfl⟩
      rw [hW0] at hnx hit2 hb2
      clear hW0 hit hb hps
      have HX : Hid (W0.heap[w.heap.size]? = some (.stringIter S (pos + K)) ∧ Below w.heap.size w W0) := ⟨hit2, hb2⟩
      have HC : Hid _ := hcall
      clear hit2 hb2 hcall
      obtain ⟨r, hr⟩ : ∃ r, pP R = r := ⟨_, rfl⟩
      rw [hr] at hst HC
      clear hr
      cases r
      · have HF : Hid (allB pP l = false) := by
          show _ = _
          rw [allB_cut pP l pos, hst.2 rfl, Bool.and_false]
        clear hst ha hne
        go_wp2_with (go_at_call 63; refine (HC.out _).mono ?_; rintro e w1 ⟨rfl, hb1⟩)
        go_ret
        exact ⟨by rw [HF.out]; rfl, below_via HX.out.2 hb1 (Nat.le_refl _)⟩
      · have hs := hst.1 rfl
        obtain ⟨rfl, h1⟩ := hs
        have HF : Hid (allB pP (l.take (pos + 1)) = true) := by
          show _ = _
          rw [List.take_add]
          unfold allB at ha h1 ⊢
          rw [List.all_append, ha, h1]; rfl
        clear hst ha hne h1
        go_wp2_with (go_at_call 63; refine (HC.out _).mono ?_; rintro e w1 ⟨rfl, hb1⟩)
        have hi1 : w1.heap[w.heap.size]? = some (.stringIter S (pos + 1)) := by rw [hb1.block _ (heap_lt HX.out.1)]; exact HX.out.1
        have H1 : Hid (w1.heap[w.heap.size]? = some (.stringIter S (pos + 1)) ∧ Below w.heap.size w w1) := ⟨hi1, below_via HX.out.2 hb1 (Nat.le_refl _)⟩
        clear hi1 hb1 hnx
        go_roundw
        case rel => exact ⟨pos + 1, by omega, H1.out.1, H1.out.2, HF.out⟩
        case measure =>
          have e : w1.iterPos w.heap.size = pos + 1 := by unfold World.iterPos; rw [H1.out.1]
          rw [e, HM.out]; omega
    · have hps : ¬ pos < S.size := by rw [HS.out.2]; exact hlt
      have hnx := fun ty => Lib.run_next_end_at (P := Tryd.prog) wr w.heap.size S pos ty hit hps
      have HX : Hid (Below w.heap.size w wr ∧ allB pP l = true) := ⟨hb, by rw [List.take_of_length_le (by omega)] at ha; exact ha⟩
      clear hit hb hps ha
      go_wp2
      go_ret
      exact ⟨by rw [HX.out.2]; rfl, HX.out.1⟩
set_option maxHeartbeats 2000000 in
set_option maxRecDepth 100000 in
theorem all_isIa5 {w : World} (l : List UInt8) (hl : l.length ≤ 100000) :
    Calls Tryd.prog 61 #[.string (str l), .func (.func 64) #[] #[]] w fun e w' => e = .returned (.bool (allB pI l)) ∧ Below w.heap.size w w' := by
  obtain ⟨S, hS⟩ : ∃ S, str l = S := ⟨_, rfl⟩
  have HS : Hid (S.data.toList = l ∧ S.size = l.length) := ⟨by rw [← hS]; exact str_data l, by rw [← hS]; exact str_size l⟩
  rw [hS]
  clear hS
  go_enter Tryd.func61, Tryd.ntmps61
  go_wp2_with fail
  go_loopw [] (fun wr => ∃ pos : Nat, pos ≤ l.length ∧ wr.heap[w.heap.size]? = some (.stringIter S pos) ∧ Below w.heap.size w wr ∧ allB pI (l.take pos) = true) (fun wr => l.length - wr.iterPos w.heap.size)
  case atStart => exact ⟨0, by omega, World.iter_heap w S 0, al1 _, rfl⟩
  case round =>
    obtain ⟨pos, hp, hit, hb, ha⟩ := hrel
    by_cases hlt : pos < l.length
    · have hps : pos < S.size := by rw [HS.out.2]; exact hlt
      have hnx := fun ty => Lib.run_next_any_at (P := Tryd.prog) wr w.heap.size S pos ty hit hps
      have hdl : Utf8.decode S pos = Lib.decodeL (l.drop pos) := by rw [← Lib.decodeL_drop, HS.out.1]
      rw [hdl] at hnx
      have hne : l.drop pos ≠ [] := by intro h0; have := congrArg List.length h0; simp at this; omega
      have hst := all_step pI (fun c hc => by unfold pI; simp; omega) (l.drop pos) hne
      have hcall : ∀ w : World, Calls Tryd.prog 64 #[.int .i32 (Lib.decodeL (l.drop pos)).1] w fun e w' => e = .returned (.bool (pI (Lib.decodeL (l.drop pos)).1)) ∧ Below w.heap.size w w' := fun w => isIa5_any _
      obtain ⟨R, hR⟩ : ∃ R, (Lib.decodeL (l.drop pos)).1 = R := ⟨_, rfl⟩
      obtain ⟨K, hK⟩ : ∃ K, (Lib.decodeL (l.drop pos)).2 = K := ⟨_, rfl⟩
      rw [hR] at hnx hst hcall
      rw [hK] at hnx hst
      clear hR hK hdl
      have hit2 := Lib.iterAt_heap wr w.heap.size S pos (pos + K) hit
      have hb2 := Lib.below_iterAt hb (k := w.heap.size) (Nat.le_refl _) S (pos + K)
      have HM : Hid (wr.iterPos w.heap.size = pos) := by show _ = _; unfold World.iterPos; rw [hit]
      obtain ⟨W0, hW0⟩ : ∃ W0, wr.iterAt w.heap.size S (pos + K) = W0 := ⟨_, rfl⟩
      rw [hW0] at hnx hit2 hb2
      clear hW0 hit hb hps
      have HX : Hid (W0.heap[w.heap.size]? = some (.stringIter S (pos + K)) ∧ Below w.heap.size w W0) := ⟨hit2, hb2⟩
      have HC : Hid _ := hcall
      clear hit2 hb2 hcall
      obtain ⟨r, hr⟩ : ∃ r, pI R = r := ⟨_, rfl⟩
      rw [hr] at hst HC
      clear hr
      cases r
      · have HF : Hid (allB pI l = false) := by
          show _ = _
          rw [allB_cut pI l pos, hst.2 rfl, Bool.and_false]
        clear hst ha hne
        go_wp2_with (go_at_call 64; refine (HC.out _).mono ?_; rintro e w1 ⟨rfl, hb1⟩)
        go_ret
        exact ⟨by rw [HF.out]; rfl, below_via HX.out.2 hb1 (Nat.le_refl _)⟩
      · have hs := hst.1 rfl
        obtain ⟨rfl, h1⟩ := hs
        have HF : Hid (allB pI (l.take (pos + 1)) = true) := by
          show _ = _
          rw [List.take_add]
          unfold allB at ha h1 ⊢
          rw [List.all_append, ha, h1]; rfl
        clear hst ha hne h1
        go_wp2_with (go_at_call 64; refine (HC.out _).mono ?_; rintro e w1 ⟨rfl, hb1⟩)
        have hi1 : w1.heap[w.heap.size]? = some (.stringIter S (pos + 1)) := by rw [hb1.block _ (heap_lt HX.out.1)]; exact HX.out.1
        have H1 : Hid (w1.heap[w.heap.size]? = some (.stringIter S (pos + 1)) ∧ Below w.heap.size w w1) := ⟨hi1, below_via HX.out.2 hb1 (Nat.le_refl _)⟩
        clear hi1 hb1 hnx
        go_roundw
        case rel => exact ⟨pos + 1, by omega, H1.out.1, H1.out.2, HF.out⟩
        case measure =>
          have e : w1.iterPos w.heap.size = pos + 1 := by unfold World.iterPos; rw [H1.out.1]
          rw [e, HM.out]; omega
    · have hps : ¬ pos < S.size := by rw [HS.out.2]; exact hlt
      have hnx := fun ty => Lib.run_next_end_at (P := Tryd.prog) wr w.heap.size S pos ty hit hps
      have HX : Hid (Below w.heap.size w wr ∧ allB pI l = true) := ⟨hb, by rw [List.take_of_length_le (by omega)] at ha; exact ha⟩
      clear hit hb hps ha
      go_wp2
      go_ret
      exact ⟨by rw [HX.out.2]; rfl, HX.out.1⟩
set_option maxHeartbeats 2000000 in
set_option maxRecDepth 100000 in
theorem all_isVisible {w : World} (l : List UInt8) (hl : l.length ≤ 100000) :
    Calls Tryd.prog 61 #[.string (str l), .func (.func 65) #[] #[]] w fun e w' => e = .returned (.bool (allB pV l)) ∧ Below w.heap.size w w' := by
  obtain ⟨S, hS⟩ : ∃ S, str l = S := ⟨_, rfl⟩
  have HS : Hid (S.data.toList = l ∧ S.size = l.length) := ⟨by rw [← hS]; exact str_data l, by rw [← hS]; exact str_size l⟩
  rw [hS]
  clear hS
  go_enter Tryd.func61, Tryd.ntmps61
  go_wp2_with fail
  go_loopw [] (fun wr => ∃ pos : Nat, pos ≤ l.length ∧ wr.heap[w.heap.size]? = some (.stringIter S pos) ∧ Below w.heap.size w wr ∧ allB pV (l.take pos) = true) (fun wr => l.length - wr.iterPos w.heap.size)
  case atStart => exact ⟨0, by omega, World.iter_heap w S 0, al1 _, rfl⟩
  case round =>
    obtain ⟨pos, hp, hit, hb, ha⟩ := hrel
    by_cases hlt : pos < l.length
    · have hps : pos < S.size := by rw [HS.out.2]; exact hlt
      have hnx := fun ty => Lib.run_next_any_at (P := Tryd.prog) wr w.heap.size S pos ty hit hps
      have hdl : Utf8.decode S pos = Lib.decodeL (l.drop pos) := by rw [← Lib.decodeL_drop, HS.out.1]
      rw [hdl] at hnx
      have hne : l.drop pos ≠ [] := by intro h0; have := congrArg List.length h0; simp at this; omega
      have hst := all_step pV (fun c hc => by unfold pV; simp; omega) (l.drop pos) hne
      have hcall : ∀ w : World, Calls Tryd.prog 65 #[.int .i32 (Lib.decodeL (l.drop pos)).1] w fun e w' => e = .returned (.bool (pV (Lib.decodeL (l.drop pos)).1)) ∧ Below w.heap.size w w' := fun w => isVisible_any _
      obtain ⟨R, hR⟩ : ∃ R, (Lib.decodeL (l.drop pos)).1 = R := ⟨_, rfl⟩
      obtain ⟨K, hK⟩ : ∃ K, (Lib.decodeL (l.drop pos)).2 = K := ⟨_, rfl⟩
      rw [hR] at hnx hst hcall
      rw [hK] at hnx hst
      clear hR hK hdl
      have hit2 := Lib.iterAt_heap wr w.heap.size S pos (pos + K) hit
      have hb2 := Lib.below_iterAt hb (k := w.heap.size) (Nat.le_refl _) S (pos + K)
      have HM : Hid (wr.iterPos w.heap.size = pos) := by show _ = _; unfold World.iterPos; rw [hit]
      obtain ⟨W0, hW0⟩ : ∃ W0, wr.iterAt w.heap.size S (pos + K) = W0 := ⟨_, rfl⟩
      rw [hW0] at hnx hit2 hb2
      clear hW0 hit hb hps
      have HX : Hid (W0.heap[w.heap.size]? = some (.stringIter S (pos + K)) ∧ Below w.heap.size w W0) := ⟨hit2, hb2⟩
      have HC : Hid _ := hcall
      clear hit2 hb2 hcall
      obtain ⟨r, hr⟩ : ∃ r, pV R = r := ⟨_, rfl⟩
      rw [hr] at hst HC
      clear hr
      cases r
      · have HF : Hid (allB pV l = false) := by
          show _ = _
          rw [allB_cut pV l pos, hst.2 rfl, Bool.and_false]
        clear hst ha hne
        go_wp2_with (go_at_call 65; refine (HC.out _).mono ?_; rintro e w1 ⟨rfl, hb1⟩)
        go_ret
        exact ⟨by rw [HF.out]; rfl, below_via HX.out.2 hb1 (Nat.le_refl _)⟩
      · have hs := hst.1 rfl
        obtain ⟨rfl, h1⟩ := hs
        have HF : Hid (allB pV (l.take (pos + 1)) = true) := by
          show _ = _
          rw [List.take_add]
          unfold allB at ha h1 ⊢
          rw [List.all_append, ha, h1]; rfl
        clear hst ha hne h1
        go_wp2_with (go_at_call 65; refine (HC.out _).mono ?_; rintro e w1 ⟨rfl, hb1⟩)
        have hi1 : w1.heap[w.heap.size]? = some (.stringIter S (pos + 1)) := by rw [hb1.block _ (heap_lt HX.out.1)]; exact HX.out.1
        have H1 : Hid (w1.heap[w.heap.size]? = some (.stringIter S (pos + 1)) ∧ Below w.heap.size w w1) := ⟨hi1, below_via HX.out.2 hb1 (Nat.le_refl _)⟩
        clear hi1 hb1 hnx
        go_roundw
        case rel => exact ⟨pos + 1, by omega, H1.out.1, H1.out.2, HF.out⟩
        case measure =>
          have e : w1.iterPos w.heap.size = pos + 1 := by unfold World.iterPos; rw [H1.out.1]
          rw [e, HM.out]; omega
    · have hps : ¬ pos < S.size := by rw [HS.out.2]; exact hlt
      have hnx := fun ty => Lib.run_next_end_at (P := Tryd.prog) wr w.heap.size S pos ty hit hps
      have HX : Hid (Below w.heap.size w wr ∧ allB pV l = true) := ⟨hb, by rw [List.take_of_length_le (by omega)] at ha; exact ha⟩
      clear hit hb hps ha
      go_wp2
      go_ret
      exact ⟨by rw [HX.out.2]; rfl, HX.out.1⟩
end Go.Proofs.YtkjdihikcgpababDoor
