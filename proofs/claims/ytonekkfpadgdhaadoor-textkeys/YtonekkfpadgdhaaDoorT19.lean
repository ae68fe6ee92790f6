/-
  Text: the reference's Text, one byte a character.
-/
import Derived.Test.YtonekkfpadgdhaaDoorT18
import Derived.Test.YtonekkfpadgdhaaDoorT16
namespace Go.Proofs.YtonekkfpadgdhaaDoor
open Go.RowKit
set_option maxHeartbeats 4000000 in
set_option maxRecDepth 100000 in
theorem RText_18 {w : World} (v : Value) (l : List UInt8) (hX : Sl .u8 w v (nums l)) (hl : l.length ≤ 100000) :
    Calls Tryd.prog 12 #[.int .i64 18, v] w fun e w' => e = TextEnd 18 l ∧ Below w.heap.size w w' := by
  have HX : Hid (Sl .u8 w v (nums l)) := hX
  obtain ⟨a, c, rfl, hc, hr⟩ := hX
  rw [nums_len] at HX hc ⊢
  obtain ⟨n, hn⟩ : ∃ n, l.length = n := ⟨_, rfl⟩
  have HN : Hid (l.length = n) := hn
  have HR : Hid (nums l = [] ∨ ∃ b off, a = some ⟨b, off, none⟩ ∧ b < w.heap.size ∧ Rd .u8 w b off (nums l)) := hr
  rw [hn] at HX hl hc ⊢
  have nz : (n : Int) ≤ 100000 := by omega
  have cz : (n : Int) ≤ (c : Int) := by omega
  have HE : Hid (textS 18 l = okT (allB pN l) l) := by
    show _ = _
    unfold textS
    simp
  have HCV : Hid (∀ W, Below w.heap.size w W → Sem.run Tryd.prog (convert 22 9 (.slice a n c)) W = .ok (.string (str l)) W) := fun W hW => by
    obtain ⟨a', c', e, h⟩ := sl_str (below_sl hW HX.out)
    rw [HN.out] at e h
    cases e
    exact h
  clear hr hn hc
  go_enter Tryd.func12, Tryd.ntmps12
  go_wp2
  go_loopw [9] (fun iv wr => ∃ i : Nat, iv = .int .i64 i ∧ i ≤ n ∧ allB pN (l.take i) = true ∧ Below w.heap.size w wr) (fun iv _ => n - (intOf iv).toNat)
  case atStart => exact ⟨0, rfl, Nat.zero_le _, rfl, Below.refl _ _⟩
  case round =>
    obtain ⟨i, rfl, hi, ha, hb⟩ := hrel
    have HB : Hid (Below w.heap.size w wr) := hb
    clear hb
    by_cases hlt : i < n
    · have z1 : (i : Int) < (n : Int) := by omega
      rcases HR.out with hnil | ⟨b, off, rfl, hbl, hrd⟩
      · have := congrArg List.length hnil
        rw [nums_len, HN.out] at this
        simp at this; omega
      have c1 : wr.cell? ⟨b, off + i, none⟩ = some (.int .u8 (l.getD i 0).toNat) := by
        have := (below_rd HB.out hbl hrd) i (by rw [nums_len, HN.out]; omega)
        rw [nums_get l i (by rw [HN.out]; omega)] at this; exact this
      have has := allB_snoc pN l i (by rw [HN.out]; exact hlt)
      have hcut := allB_cut pN l (i + 1)
      obtain ⟨x, hx⟩ : ∃ x, l.getD i 0 = x := ⟨_, rfl⟩
      rw [hx] at c1 has
      rw [ha, Bool.true_and] at has
      rw [has] at hcut
      have x256 : (x.toNat : Int) < 256 := by have := x.toNat_lt; omega
      have HA : Hid (allB pN (l.take (i + 1)) = pN x.toNat) := has
      have HF : Hid (pN x.toNat = false → allB pN l = false) := fun h => by rw [hcut, h, Bool.false_and]
      clear hx hrd hbl ha has hcut
      have dcs : (x.toNat = 32) ∨ (¬ x.toNat = 32 ∧ x.toNat < 48) ∨ (48 ≤ x.toNat ∧ x.toNat ≤ 57) ∨ (58 ≤ x.toNat) := by omega
      rcases dcs with hd | hd | hd | hd
      · have d1 : ¬ (48 : Int) ≤ (x.toNat : Int) := by omega
        have d3 : ((x.toNat : Int) == 32) = true := by simp; omega
        have HQ : Hid (pN x.toNat = true) := by show _ = _; unfold pN; simp; omega
        clear hd
        go_wp2
        go_roundw
        case rel => exact ⟨i + 1, by go_num, by omega, by rw [HA.out]; exact HQ.out, HB.out⟩
        case measure => simp [intOf]; omega
      · have d1 : ¬ (48 : Int) ≤ (x.toNat : Int) := by omega
        have d3 : ((x.toNat : Int) == 32) = false := by rw [beq_eq_false_iff_ne]; omega
        have HQ : Hid (pN x.toNat = false) := by show _ = _; unfold pN; simp; omega
        clear hd
        go_wp2
        go_ret2
        have hz : textS 18 l = ([], 60) := by rw [HE.out, HF.out HQ.out]; rfl
        refine ⟨?_, HB.out⟩
        unfold TextEnd
        rw [hz]; rfl
      · have d1 : (48 : Int) ≤ (x.toNat : Int) := by omega
        have d2 : (x.toNat : Int) ≤ 57 := by omega
        have HQ : Hid (pN x.toNat = true) := by show _ = _; unfold pN; simp; omega
        clear hd
        go_wp2
        go_roundw
        case rel => exact ⟨i + 1, by go_num, by omega, by rw [HA.out]; exact HQ.out, HB.out⟩
        case measure => simp [intOf]; omega
      · have d1 : (48 : Int) ≤ (x.toNat : Int) := by omega
        have d2 : ¬ (x.toNat : Int) ≤ 57 := by omega
        have d3 : ((x.toNat : Int) == 32) = false := by rw [beq_eq_false_iff_ne]; omega
        have HQ : Hid (pN x.toNat = false) := by show _ = _; unfold pN; simp; omega
        clear hd
        go_wp2
        go_ret2
        have hz : textS 18 l = ([], 60) := by rw [HE.out, HF.out HQ.out]; rfl
        refine ⟨?_, HB.out⟩
        unfold TextEnd
        rw [hz]; rfl
    · have hal : allB pN l = true := by rw [List.take_of_length_le (by rw [HN.out]; omega)] at ha; exact ha
      have HZ : Hid (textS 18 l = (l, 0)) := by show _ = _; rw [HE.out, hal]; rfl
      have hcv := HCV.out _ HB.out
      have z1 : ¬ (i : Int) < (n : Int) := by omega
      clear ha hal
      go_wp2
      go_ret2
      refine ⟨?_, HB.out⟩
      unfold TextEnd
      rw [HZ.out]; rfl
set_option maxHeartbeats 4000000 in
set_option maxRecDepth 100000 in
theorem RText_19 {w : World} (v : Value) (l : List UInt8) (hX : Sl .u8 w v (nums l)) (hl : l.length ≤ 100000) :
    Calls Tryd.prog 12 #[.int .i64 19, v] w fun e w' => e = TextEnd 19 l ∧ Below w.heap.size w w' := by
  have HX : Hid (Sl .u8 w v (nums l)) := hX
  obtain ⟨a, c, rfl, hc, hr⟩ := hX
  rw [nums_len] at HX hc ⊢
  obtain ⟨n, hn⟩ : ∃ n, l.length = n := ⟨_, rfl⟩
  have HN : Hid (l.length = n) := hn
  have HR : Hid (nums l = [] ∨ ∃ b off, a = some ⟨b, off, none⟩ ∧ b < w.heap.size ∧ Rd .u8 w b off (nums l)) := hr
  rw [hn] at HX hl hc ⊢
  have nz : (n : Int) ≤ 100000 := by omega
  have cz : (n : Int) ≤ (c : Int) := by omega
  have HE : Hid (textS 19 l = okT (allB pP l) l) := by
    show _ = _
    unfold textS
    simp
  have HCV : Hid (∀ W, Below w.heap.size w W → Sem.run Tryd.prog (convert 22 9 (.slice a n c)) W = .ok (.string (str l)) W) := fun W hW => by
    obtain ⟨a', c', e, h⟩ := sl_str (below_sl hW HX.out)
    rw [HN.out] at e h
    cases e
    exact h
  clear hr hn hc
  go_enter Tryd.func12, Tryd.ntmps12
  go_wp2
  go_loopw [9] (fun iv wr => ∃ i : Nat, iv = .int .i64 i ∧ i ≤ n ∧ allB pP (l.take i) = true ∧ Below w.heap.size w wr) (fun iv _ => n - (intOf iv).toNat)
  case atStart => exact ⟨0, rfl, Nat.zero_le _, rfl, Below.refl _ _⟩
  case round =>
    obtain ⟨i, rfl, hi, ha, hb⟩ := hrel
    have HB : Hid (Below w.heap.size w wr) := hb
    clear hb
    by_cases hlt : i < n
    · have z1 : (i : Int) < (n : Int) := by omega
      rcases HR.out with hnil | ⟨b, off, rfl, hbl, hrd⟩
      · have := congrArg List.length hnil
        rw [nums_len, HN.out] at this
        simp at this; omega
      have c1 : wr.cell? ⟨b, off + i, none⟩ = some (.int .u8 (l.getD i 0).toNat) := by
        have := (below_rd HB.out hbl hrd) i (by rw [nums_len, HN.out]; omega)
        rw [nums_get l i (by rw [HN.out]; omega)] at this; exact this
      have has := allB_snoc pP l i (by rw [HN.out]; exact hlt)
      have hcut := allB_cut pP l (i + 1)
      obtain ⟨x, hx⟩ : ∃ x, l.getD i 0 = x := ⟨_, rfl⟩
      rw [hx] at c1 has
      rw [ha, Bool.true_and] at has
      rw [has] at hcut
      have x256 : (x.toNat : Int) < 256 := by have := x.toNat_lt; omega
      have HA : Hid (allB pP (l.take (i + 1)) = pP x.toNat) := has
      have HF : Hid (pP x.toNat = false → allB pP l = false) := fun h => by rw [hcut, h, Bool.false_and]
      clear hx hrd hbl ha has hcut
      have dcs : (x.toNat = 32) ∨ (¬ x.toNat = 32 ∧ x.toNat < 48) ∨ (48 ≤ x.toNat ∧ x.toNat ≤ 57) ∨ (58 ≤ x.toNat) := by omega
      have ecs : pP x.toNat = true ∨ pP x.toNat = false := by cases pP x.toNat <;> simp
      rcases ecs with hq | hq
      · rcases dcs with hd | hd | hd | hd
        · have d1 : ¬ (48 : Int) ≤ (x.toNat : Int) := by omega
          have d3 : ((x.toNat : Int) == 32) = true := by simp; omega
          have HP : Hid (∀ W : World, Calls Tryd.prog 29 #[.int .u8 x.toNat] W fun e w' => e = .returned (.bool true) ∧ Below W.heap.size W w') := fun W => by have := Rprintable_any (w := W) x; rw [hq] at this; exact this
          have HQ : Hid (pP x.toNat = true) := hq
          clear hd hq
          go_wp2_with (go_at_call 29; refine (HP.out _).mono ?_; rintro e w1 ⟨rfl, hb1⟩)
          have H1 : Hid (Below w.heap.size w w1) := below_via HB.out hb1 (Nat.le_refl _)
          clear hb1
          go_roundw
          case rel => exact ⟨i + 1, by go_num, by omega, by rw [HA.out]; exact HQ.out, H1.out⟩
          case measure => simp [intOf]; omega
        · have d1 : ¬ (48 : Int) ≤ (x.toNat : Int) := by omega
          have d3 : ((x.toNat : Int) == 32) = false := by rw [beq_eq_false_iff_ne]; omega
          have HP : Hid (∀ W : World, Calls Tryd.prog 29 #[.int .u8 x.toNat] W fun e w' => e = .returned (.bool true) ∧ Below W.heap.size W w') := fun W => by have := Rprintable_any (w := W) x; rw [hq] at this; exact this
          have HQ : Hid (pP x.toNat = true) := hq
          clear hd hq
          go_wp2_with (go_at_call 29; refine (HP.out _).mono ?_; rintro e w1 ⟨rfl, hb1⟩)
          have H1 : Hid (Below w.heap.size w w1) := below_via HB.out hb1 (Nat.le_refl _)
          clear hb1
          go_roundw
          case rel => exact ⟨i + 1, by go_num, by omega, by rw [HA.out]; exact HQ.out, H1.out⟩
          case measure => simp [intOf]; omega
        · have d1 : (48 : Int) ≤ (x.toNat : Int) := by omega
          have d2 : (x.toNat : Int) ≤ 57 := by omega
          have HP : Hid (∀ W : World, Calls Tryd.prog 29 #[.int .u8 x.toNat] W fun e w' => e = .returned (.bool true) ∧ Below W.heap.size W w') := fun W => by have := Rprintable_any (w := W) x; rw [hq] at this; exact this
          have HQ : Hid (pP x.toNat = true) := hq
          clear hd hq
          go_wp2_with (go_at_call 29; refine (HP.out _).mono ?_; rintro e w1 ⟨rfl, hb1⟩)
          have H1 : Hid (Below w.heap.size w w1) := below_via HB.out hb1 (Nat.le_refl _)
          clear hb1
          go_roundw
          case rel => exact ⟨i + 1, by go_num, by omega, by rw [HA.out]; exact HQ.out, H1.out⟩
          case measure => simp [intOf]; omega
        · have d1 : (48 : Int) ≤ (x.toNat : Int) := by omega
          have d2 : ¬ (x.toNat : Int) ≤ 57 := by omega
          have d3 : ((x.toNat : Int) == 32) = false := by rw [beq_eq_false_iff_ne]; omega
          have HP : Hid (∀ W : World, Calls Tryd.prog 29 #[.int .u8 x.toNat] W fun e w' => e = .returned (.bool true) ∧ Below W.heap.size W w') := fun W => by have := Rprintable_any (w := W) x; rw [hq] at this; exact this
          have HQ : Hid (pP x.toNat = true) := hq
          clear hd hq
          go_wp2_with (go_at_call 29; refine (HP.out _).mono ?_; rintro e w1 ⟨rfl, hb1⟩)
          have H1 : Hid (Below w.heap.size w w1) := below_via HB.out hb1 (Nat.le_refl _)
          clear hb1
          go_roundw
          case rel => exact ⟨i + 1, by go_num, by omega, by rw [HA.out]; exact HQ.out, H1.out⟩
          case measure => simp [intOf]; omega
      · rcases dcs with hd | hd | hd | hd
        · have d1 : ¬ (48 : Int) ≤ (x.toNat : Int) := by omega
          have d3 : ((x.toNat : Int) == 32) = true := by simp; omega
          have HP : Hid (∀ W : World, Calls Tryd.prog 29 #[.int .u8 x.toNat] W fun e w' => e = .returned (.bool false) ∧ Below W.heap.size W w') := fun W => by have := Rprintable_any (w := W) x; rw [hq] at this; exact this
          have HQ : Hid (pP x.toNat = false) := hq
          clear hd hq
          go_wp2_with (go_at_call 29; refine (HP.out _).mono ?_; rintro e w1 ⟨rfl, hb1⟩)
          have H1 : Hid (Below w.heap.size w w1) := below_via HB.out hb1 (Nat.le_refl _)
          clear hb1
          go_ret2
          have hz : textS 19 l = ([], 60) := by rw [HE.out, HF.out HQ.out]; rfl
          refine ⟨?_, H1.out⟩
          unfold TextEnd
          rw [hz]; rfl
        · have d1 : ¬ (48 : Int) ≤ (x.toNat : Int) := by omega
          have d3 : ((x.toNat : Int) == 32) = false := by rw [beq_eq_false_iff_ne]; omega
          have HP : Hid (∀ W : World, Calls Tryd.prog 29 #[.int .u8 x.toNat] W fun e w' => e = .returned (.bool false) ∧ Below W.heap.size W w') := fun W => by have := Rprintable_any (w := W) x; rw [hq] at this; exact this
          have HQ : Hid (pP x.toNat = false) := hq
          clear hd hq
          go_wp2_with (go_at_call 29; refine (HP.out _).mono ?_; rintro e w1 ⟨rfl, hb1⟩)
          have H1 : Hid (Below w.heap.size w w1) := below_via HB.out hb1 (Nat.le_refl _)
          clear hb1
          go_ret2
          have hz : textS 19 l = ([], 60) := by rw [HE.out, HF.out HQ.out]; rfl
          refine ⟨?_, H1.out⟩
          unfold TextEnd
          rw [hz]; rfl
        · have d1 : (48 : Int) ≤ (x.toNat : Int) := by omega
          have d2 : (x.toNat : Int) ≤ 57 := by omega
          have HP : Hid (∀ W : World, Calls Tryd.prog 29 #[.int .u8 x.toNat] W fun e w' => e = .returned (.bool false) ∧ Below W.heap.size W w') := fun W => by have := Rprintable_any (w := W) x; rw [hq] at this; exact this
          have HQ : Hid (pP x.toNat = false) := hq
          clear hd hq
          go_wp2_with (go_at_call 29; refine (HP.out _).mono ?_; rintro e w1 ⟨rfl, hb1⟩)
          have H1 : Hid (Below w.heap.size w w1) := below_via HB.out hb1 (Nat.le_refl _)
          clear hb1
          go_ret2
          have hz : textS 19 l = ([], 60) := by rw [HE.out, HF.out HQ.out]; rfl
          refine ⟨?_, H1.out⟩
          unfold TextEnd
          rw [hz]; rfl
        · have d1 : (48 : Int) ≤ (x.toNat : Int) := by omega
          have d2 : ¬ (x.toNat : Int) ≤ 57 := by omega
          have d3 : ((x.toNat : Int) == 32) = false := by rw [beq_eq_false_iff_ne]; omega
          have HP : Hid (∀ W : World, Calls Tryd.prog 29 #[.int .u8 x.toNat] W fun e w' => e = .returned (.bool false) ∧ Below W.heap.size W w') := fun W => by have := Rprintable_any (w := W) x; rw [hq] at this; exact this
          have HQ : Hid (pP x.toNat = false) := hq
          clear hd hq
          go_wp2_with (go_at_call 29; refine (HP.out _).mono ?_; rintro e w1 ⟨rfl, hb1⟩)
          have H1 : Hid (Below w.heap.size w w1) := below_via HB.out hb1 (Nat.le_refl _)
          clear hb1
          go_ret2
          have hz : textS 19 l = ([], 60) := by rw [HE.out, HF.out HQ.out]; rfl
          refine ⟨?_, H1.out⟩
          unfold TextEnd
          rw [hz]; rfl
    · have hal : allB pP l = true := by rw [List.take_of_length_le (by rw [HN.out]; omega)] at ha; exact ha
      have HZ : Hid (textS 19 l = (l, 0)) := by show _ = _; rw [HE.out, hal]; rfl
      have hcv := HCV.out _ HB.out
      have z1 : ¬ (i : Int) < (n : Int) := by omega
      clear ha hal
      go_wp2
      go_ret2
      refine ⟨?_, HB.out⟩
      unfold TextEnd
      rw [HZ.out]; rfl
set_option maxHeartbeats 4000000 in
set_option maxRecDepth 100000 in
theorem RText_22 {w : World} (v : Value) (l : List UInt8) (hX : Sl .u8 w v (nums l)) (hl : l.length ≤ 100000) :
    Calls Tryd.prog 12 #[.int .i64 22, v] w fun e w' => e = TextEnd 22 l ∧ Below w.heap.size w w' := by
  have HX : Hid (Sl .u8 w v (nums l)) := hX
  obtain ⟨a, c, rfl, hc, hr⟩ := hX
  rw [nums_len] at HX hc ⊢
  obtain ⟨n, hn⟩ : ∃ n, l.length = n := ⟨_, rfl⟩
  have HN : Hid (l.length = n) := hn
  have HR : Hid (nums l = [] ∨ ∃ b off, a = some ⟨b, off, none⟩ ∧ b < w.heap.size ∧ Rd .u8 w b off (nums l)) := hr
  rw [hn] at HX hl hc ⊢
  have nz : (n : Int) ≤ 100000 := by omega
  have cz : (n : Int) ≤ (c : Int) := by omega
  have HE : Hid (textS 22 l = okT (allB pI l) l) := by
    show _ = _
    unfold textS
    simp
  have HCV : Hid (∀ W, Below w.heap.size w W → Sem.run Tryd.prog (convert 22 9 (.slice a n c)) W = .ok (.string (str l)) W) := fun W hW => by
    obtain ⟨a', c', e, h⟩ := sl_str (below_sl hW HX.out)
    rw [HN.out] at e h
    cases e
    exact h
  clear hr hn hc
  go_enter Tryd.func12, Tryd.ntmps12
  go_wp2
  go_loopw [9] (fun iv wr => ∃ i : Nat, iv = .int .i64 i ∧ i ≤ n ∧ allB pI (l.take i) = true ∧ Below w.heap.size w wr) (fun iv _ => n - (intOf iv).toNat)
  case atStart => exact ⟨0, rfl, Nat.zero_le _, rfl, Below.refl _ _⟩
  case round =>
    obtain ⟨i, rfl, hi, ha, hb⟩ := hrel
    have HB : Hid (Below w.heap.size w wr) := hb
    clear hb
    by_cases hlt : i < n
    · have z1 : (i : Int) < (n : Int) := by omega
      rcases HR.out with hnil | ⟨b, off, rfl, hbl, hrd⟩
      · have := congrArg List.length hnil
        rw [nums_len, HN.out] at this
        simp at this; omega
      have c1 : wr.cell? ⟨b, off + i, none⟩ = some (.int .u8 (l.getD i 0).toNat) := by
        have := (below_rd HB.out hbl hrd) i (by rw [nums_len, HN.out]; omega)
        rw [nums_get l i (by rw [HN.out]; omega)] at this; exact this
      have has := allB_snoc pI l i (by rw [HN.out]; exact hlt)
      have hcut := allB_cut pI l (i + 1)
      obtain ⟨x, hx⟩ : ∃ x, l.getD i 0 = x := ⟨_, rfl⟩
      rw [hx] at c1 has
      rw [ha, Bool.true_and] at has
      rw [has] at hcut
      have x256 : (x.toNat : Int) < 256 := by have := x.toNat_lt; omega
      have HA : Hid (allB pI (l.take (i + 1)) = pI x.toNat) := has
      have HF : Hid (pI x.toNat = false → allB pI l = false) := fun h => by rw [hcut, h, Bool.false_and]
      clear hx hrd hbl ha has hcut
      have dcs : (x.toNat = 32) ∨ (¬ x.toNat = 32 ∧ x.toNat < 48) ∨ (48 ≤ x.toNat ∧ x.toNat ≤ 57) ∨ (58 ≤ x.toNat) := by omega
      have ecs : (x.toNat < 128) ∨ (128 ≤ x.toNat) := by omega
      rcases ecs with hq | hq
      · rcases dcs with hd | hd | hd | hd
        · have d1 : ¬ (48 : Int) ≤ (x.toNat : Int) := by omega
          have d3 : ((x.toNat : Int) == 32) = true := by simp; omega
          have e1 : (x.toNat : Int) < 128 := by omega
          have HQ : Hid (pI x.toNat = true) := by show _ = _; unfold pI; simp; omega
          clear hd hq
          go_wp2
          go_roundw
          case rel => exact ⟨i + 1, by go_num, by omega, by rw [HA.out]; exact HQ.out, HB.out⟩
          case measure => simp [intOf]; omega
        · have d1 : ¬ (48 : Int) ≤ (x.toNat : Int) := by omega
          have d3 : ((x.toNat : Int) == 32) = false := by rw [beq_eq_false_iff_ne]; omega
          have e1 : (x.toNat : Int) < 128 := by omega
          have HQ : Hid (pI x.toNat = true) := by show _ = _; unfold pI; simp; omega
          clear hd hq
          go_wp2
          go_roundw
          case rel => exact ⟨i + 1, by go_num, by omega, by rw [HA.out]; exact HQ.out, HB.out⟩
          case measure => simp [intOf]; omega
        · have d1 : (48 : Int) ≤ (x.toNat : Int) := by omega
          have d2 : (x.toNat : Int) ≤ 57 := by omega
          have e1 : (x.toNat : Int) < 128 := by omega
          have HQ : Hid (pI x.toNat = true) := by show _ = _; unfold pI; simp; omega
          clear hd hq
          go_wp2
          go_roundw
          case rel => exact ⟨i + 1, by go_num, by omega, by rw [HA.out]; exact HQ.out, HB.out⟩
          case measure => simp [intOf]; omega
        · have d1 : (48 : Int) ≤ (x.toNat : Int) := by omega
          have d2 : ¬ (x.toNat : Int) ≤ 57 := by omega
          have d3 : ((x.toNat : Int) == 32) = false := by rw [beq_eq_false_iff_ne]; omega
          have e1 : (x.toNat : Int) < 128 := by omega
          have HQ : Hid (pI x.toNat = true) := by show _ = _; unfold pI; simp; omega
          clear hd hq
          go_wp2
          go_roundw
          case rel => exact ⟨i + 1, by go_num, by omega, by rw [HA.out]; exact HQ.out, HB.out⟩
          case measure => simp [intOf]; omega
      · rcases dcs with hd | hd | hd | hd
        · omega
        · omega
        · omega
        · have d1 : (48 : Int) ≤ (x.toNat : Int) := by omega
          have d2 : ¬ (x.toNat : Int) ≤ 57 := by omega
          have d3 : ((x.toNat : Int) == 32) = false := by rw [beq_eq_false_iff_ne]; omega
          have e1 : ¬ (x.toNat : Int) < 128 := by omega
          have HQ : Hid (pI x.toNat = false) := by show _ = _; unfold pI; simp; omega
          clear hd hq
          go_wp2
          go_ret2
          have hz : textS 22 l = ([], 60) := by rw [HE.out, HF.out HQ.out]; rfl
          refine ⟨?_, HB.out⟩
          unfold TextEnd
          rw [hz]; rfl
    · have hal : allB pI l = true := by rw [List.take_of_length_le (by rw [HN.out]; omega)] at ha; exact ha
      have HZ : Hid (textS 22 l = (l, 0)) := by show _ = _; rw [HE.out, hal]; rfl
      have hcv := HCV.out _ HB.out
      have z1 : ¬ (i : Int) < (n : Int) := by omega
      clear ha hal
      go_wp2
      go_ret2
      refine ⟨?_, HB.out⟩
      unfold TextEnd
      rw [HZ.out]; rfl
set_option maxHeartbeats 4000000 in
set_option maxRecDepth 100000 in
theorem RText_26 {w : World} (v : Value) (l : List UInt8) (hX : Sl .u8 w v (nums l)) (hl : l.length ≤ 100000) :
    Calls Tryd.prog 12 #[.int .i64 26, v] w fun e w' => e = TextEnd 26 l ∧ Below w.heap.size w w' := by
  have HX : Hid (Sl .u8 w v (nums l)) := hX
  obtain ⟨a, c, rfl, hc, hr⟩ := hX
  rw [nums_len] at HX hc ⊢
  obtain ⟨n, hn⟩ : ∃ n, l.length = n := ⟨_, rfl⟩
  have HN : Hid (l.length = n) := hn
  have HR : Hid (nums l = [] ∨ ∃ b off, a = some ⟨b, off, none⟩ ∧ b < w.heap.size ∧ Rd .u8 w b off (nums l)) := hr
  rw [hn] at HX hl hc ⊢
  have nz : (n : Int) ≤ 100000 := by omega
  have cz : (n : Int) ≤ (c : Int) := by omega
  have HE : Hid (textS 26 l = okT (allB pV l) l) := by
    show _ = _
    unfold textS
    simp
  have HCV : Hid (∀ W, Below w.heap.size w W → Sem.run Tryd.prog (convert 22 9 (.slice a n c)) W = .ok (.string (str l)) W) := fun W hW => by
    obtain ⟨a', c', e, h⟩ := sl_str (below_sl hW HX.out)
    rw [HN.out] at e h
    cases e
    exact h
  clear hr hn hc
  go_enter Tryd.func12, Tryd.ntmps12
  go_wp2
  go_loopw [9] (fun iv wr => ∃ i : Nat, iv = .int .i64 i ∧ i ≤ n ∧ allB pV (l.take i) = true ∧ Below w.heap.size w wr) (fun iv _ => n - (intOf iv).toNat)
  case atStart => exact ⟨0, rfl, Nat.zero_le _, rfl, Below.refl _ _⟩
  case round =>
    obtain ⟨i, rfl, hi, ha, hb⟩ := hrel
    have HB : Hid (Below w.heap.size w wr) := hb
    clear hb
    by_cases hlt : i < n
    · have z1 : (i : Int) < (n : Int) := by omega
      rcases HR.out with hnil | ⟨b, off, rfl, hbl, hrd⟩
      · have := congrArg List.length hnil
        rw [nums_len, HN.out] at this
        simp at this; omega
      have c1 : wr.cell? ⟨b, off + i, none⟩ = some (.int .u8 (l.getD i 0).toNat) := by
        have := (below_rd HB.out hbl hrd) i (by rw [nums_len, HN.out]; omega)
        rw [nums_get l i (by rw [HN.out]; omega)] at this; exact this
      have has := allB_snoc pV l i (by rw [HN.out]; exact hlt)
      have hcut := allB_cut pV l (i + 1)
      obtain ⟨x, hx⟩ : ∃ x, l.getD i 0 = x := ⟨_, rfl⟩
      rw [hx] at c1 has
      rw [ha, Bool.true_and] at has
      rw [has] at hcut
      have x256 : (x.toNat : Int) < 256 := by have := x.toNat_lt; omega
      have HA : Hid (allB pV (l.take (i + 1)) = pV x.toNat) := has
      have HF : Hid (pV x.toNat = false → allB pV l = false) := fun h => by rw [hcut, h, Bool.false_and]
      clear hx hrd hbl ha has hcut
      have dcs : (x.toNat = 32) ∨ (¬ x.toNat = 32 ∧ x.toNat < 48) ∨ (48 ≤ x.toNat ∧ x.toNat ≤ 57) ∨ (58 ≤ x.toNat) := by omega
      have ecs : (x.toNat < 32) ∨ (32 ≤ x.toNat ∧ x.toNat ≤ 126) ∨ (127 ≤ x.toNat) := by omega
      rcases ecs with hq | hq | hq
      · rcases dcs with hd | hd | hd | hd
        · omega
        · have d1 : ¬ (48 : Int) ≤ (x.toNat : Int) := by omega
          have d3 : ((x.toNat : Int) == 32) = false := by rw [beq_eq_false_iff_ne]; omega
          have e1 : ¬ (32 : Int) ≤ (x.toNat : Int) := by omega
          have HQ : Hid (pV x.toNat = false) := by show _ = _; unfold pV; simp; omega
          clear hd hq
          go_wp2
          go_ret2
          have hz : textS 26 l = ([], 60) := by rw [HE.out, HF.out HQ.out]; rfl
          refine ⟨?_, HB.out⟩
          unfold TextEnd
          rw [hz]; rfl
        · omega
        · omega
      · rcases dcs with hd | hd | hd | hd
        · have d1 : ¬ (48 : Int) ≤ (x.toNat : Int) := by omega
          have d3 : ((x.toNat : Int) == 32) = true := by simp; omega
          have e1 : (32 : Int) ≤ (x.toNat : Int) := by omega
          have e2 : (x.toNat : Int) ≤ 126 := by omega
          have HQ : Hid (pV x.toNat = true) := by show _ = _; unfold pV; simp; omega
          clear hd hq
          go_wp2
          go_roundw
          case rel => exact ⟨i + 1, by go_num, by omega, by rw [HA.out]; exact HQ.out, HB.out⟩
          case measure => simp [intOf]; omega
        · have d1 : ¬ (48 : Int) ≤ (x.toNat : Int) := by omega
          have d3 : ((x.toNat : Int) == 32) = false := by rw [beq_eq_false_iff_ne]; omega
          have e1 : (32 : Int) ≤ (x.toNat : Int) := by omega
          have e2 : (x.toNat : Int) ≤ 126 := by omega
          have HQ : Hid (pV x.toNat = true) := by show _ = _; unfold pV; simp; omega
          clear hd hq
          go_wp2
          go_roundw
          case rel => exact ⟨i + 1, by go_num, by omega, by rw [HA.out]; exact HQ.out, HB.out⟩
          case measure => simp [intOf]; omega
        · have d1 : (48 : Int) ≤ (x.toNat : Int) := by omega
          have d2 : (x.toNat : Int) ≤ 57 := by omega
          have e1 : (32 : Int) ≤ (x.toNat : Int) := by omega
          have e2 : (x.toNat : Int) ≤ 126 := by omega
          have HQ : Hid (pV x.toNat = true) := by show _ = _; unfold pV; simp; omega
          clear hd hq
          go_wp2
          go_roundw
          case rel => exact ⟨i + 1, by go_num, by omega, by rw [HA.out]; exact HQ.out, HB.out⟩
          case measure => simp [intOf]; omega
        · have d1 : (48 : Int) ≤ (x.toNat : Int) := by omega
          have d2 : ¬ (x.toNat : Int) ≤ 57 := by omega
          have d3 : ((x.toNat : Int) == 32) = false := by rw [beq_eq_false_iff_ne]; omega
          have e1 : (32 : Int) ≤ (x.toNat : Int) := by omega
          have e2 : (x.toNat : Int) ≤ 126 := by omega
          have HQ : Hid (pV x.toNat = true) := by show _ = _; unfold pV; simp; omega
          clear hd hq
          go_wp2
          go_roundw
          case rel => exact ⟨i + 1, by go_num, by omega, by rw [HA.out]; exact HQ.out, HB.out⟩
          case measure => simp [intOf]; omega
      · rcases dcs with hd | hd | hd | hd
        · omega
        · omega
        · omega
        · have d1 : (48 : Int) ≤ (x.toNat : Int) := by omega
          have d2 : ¬ (x.toNat : Int) ≤ 57 := by omega
          have d3 : ((x.toNat : Int) == 32) = false := by rw [beq_eq_false_iff_ne]; omega
          have e1 : (32 : Int) ≤ (x.toNat : Int) := by omega
          have e2 : ¬ (x.toNat : Int) ≤ 126 := by omega
          have HQ : Hid (pV x.toNat = false) := by show _ = _; unfold pV; simp; omega
          clear hd hq
          go_wp2
          go_ret2
          have hz : textS 26 l = ([], 60) := by rw [HE.out, HF.out HQ.out]; rfl
          refine ⟨?_, HB.out⟩
          unfold TextEnd
          rw [hz]; rfl
    · have hal : allB pV l = true := by rw [List.take_of_length_le (by rw [HN.out]; omega)] at ha; exact ha
      have HZ : Hid (textS 26 l = (l, 0)) := by show _ = _; rw [HE.out, hal]; rfl
      have hcv := HCV.out _ HB.out
      have z1 : ¬ (i : Int) < (n : Int) := by omega
      clear ha hal
      go_wp2
      go_ret2
      refine ⟨?_, HB.out⟩
      unfold TextEnd
      rw [HZ.out]; rfl
theorem RText_12 {w : World} (v : Value) (l : List UInt8) (hX : Sl .u8 w v (nums l)) (hl : l.length ≤ 100000) : Calls Tryd.prog 12 #[.int .i64 12, v] w fun e w' => e = TextEnd 12 l ∧ Below w.heap.size w w' := by
  have HU : Hid (Calls Tryd.prog 28 #[v] w fun e w' => e = .returned (.bool (Lib.validD l)) ∧ Below w.heap.size w w') := RUtf8_any v l hX hl
  have HX : Hid (Sl .u8 w v (nums l)) := hX
  obtain ⟨a, c, rfl, -⟩ := sl_str hX
  have HE : Hid (textS 12 l = okT (Lib.validD l) l) := by
    show _ = _
    unfold textS
    simp
  have HCV : Hid (∀ W, Below w.heap.size w W → Sem.run Tryd.prog (convert 22 9 (.slice a l.length c)) W = .ok (.string (str l)) W) := fun W hW => by
    obtain ⟨a', c', e, h⟩ := sl_str (below_sl hW HX.out)
    cases e
    exact h
  obtain ⟨r, hr⟩ : ∃ r, Lib.validD l = r := ⟨_, rfl⟩
  rw [hr] at HU HE
  clear hr hX
  cases r
  · go_enter Tryd.func12, Tryd.ntmps12
    go_wp2_with fail
    refine HU.out.mono ?_
    rintro e w1 ⟨rfl, hb⟩
    go_wp2
    go_ret2
    refine ⟨?_, hb⟩
    unfold TextEnd
    rw [HE.out]; rfl
  · go_enter Tryd.func12, Tryd.ntmps12
    go_wp2_with fail
    refine HU.out.mono ?_
    rintro e w1 ⟨rfl, hb⟩
    have hcv := HCV.out _ hb
    go_wp2
    go_ret2
    refine ⟨?_, hb⟩
    unfold TextEnd
    rw [HE.out]; rfl
theorem RText_none {w : World} (tag : Int) (v : Value) (l : List UInt8) (hX : Sl .u8 w v (nums l)) (h : ¬ (tag = 12 ∨ tag = 18 ∨ tag = 19 ∨ tag = 22 ∨ tag = 26 ∨ tag = 30)) : Calls Tryd.prog 12 #[.int .i64 tag, v] w fun e w' => e = TextEnd tag l ∧ Below w.heap.size w w' := by
  obtain ⟨a, c, rfl, hcv⟩ := sl_str hX
  have HE : Hid (textS tag l = ([], 61)) := by
    show _ = _
    unfold textS
    simp only [not_or] at h
    simp [h]
  have h1 : (tag == 12) = false := by simp; omega
  have h2 : (tag == 18) = false := by simp; omega
  have h3 : (tag == 19) = false := by simp; omega
  have h4 : (tag == 22) = false := by simp; omega
  have h5 : (tag == 26) = false := by simp; omega
  have h6 : (tag == 30) = false := by simp; omega
  clear h hX hcv
  go_enter Tryd.func12, Tryd.ntmps12
  go_wp2
  go_ret2
  refine ⟨?_, Below.refl _ _⟩
  unfold TextEnd
  rw [HE.out]; rfl
end Go.Proofs.YtonekkfpadgdhaaDoor
