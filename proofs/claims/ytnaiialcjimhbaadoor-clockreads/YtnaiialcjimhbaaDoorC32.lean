/-
  Clock: the reference's Utc.
-/
import Derived.Test.YtnaiialcjimhbaaDoorC31
namespace Go.Proofs.YtnaiialcjimhbaaDoor
open Go.RowKit
theorem cell_lt {w : World} {b i : Nat} {v : Value} (h : w.cell? ⟨b, i, none⟩ = some v) : b < w.heap.size := by
  unfold World.cell? at h
  split at h
  · rename_i hh
    exact (Array.getElem?_eq_some_iff.1 hh).1
  · cases h
theorem list13 {X : List Int} (h : X.length = 13) : ∃ a b c d e f g i j k l m z, X = [a, b, c, d, e, f, g, i, j, k, l, m, z] := by
  match X, h with
  | [a, b, c, d, e, f, g, i, j, k, l, m, z], _ => exact ⟨a, b, c, d, e, f, g, i, j, k, l, m, z, rfl⟩
theorem nval2 (a b : Int) : nval [a, b] = 10 * (a - 48) + (b - 48) := by simp [nval]
theorem dgs2 {a b : Int} : Dgs [a, b] ↔ (48 ≤ a ∧ a ≤ 57) ∧ (48 ≤ b ∧ b ≤ 57) := by
  unfold Dgs Dg; simp
/-- the year that two digits say -/
def yrU (y : Int) : Int := if 50 ≤ y then y + 1900 else if 0 ≤ y then y + 2000 else y
theorem cut6 {p0 p1 p2 p3 p4 p5 n : Int} (h1 : 0 ≤ p1 ∧ p1 ≤ 99) (h2 : 0 ≤ p2 ∧ p2 ≤ 99) (h3 : 0 ≤ p3 ∧ p3 ≤ 99) (h4 : 0 ≤ p4 ∧ p4 ≤ 99) (h5 : 0 ≤ p5 ∧ p5 ≤ 99)
    (hn : n = ((p0 * 100 + p1) * 100 + p2) * 1000000 + ((p3 * 100 + p4) * 100 + p5)) : cutMo n = ⟨p0, p1, p2, p3, p4, p5⟩ := by
  have e1 : n / 1000000 = (p0 * 100 + p1) * 100 + p2 := by omega
  have e2 : n % 1000000 = (p3 * 100 + p4) * 100 + p5 := by omega
  unfold cutMo
  rw [e1, e2, Mo.mk.injEq]
  refine ⟨by omega, by omega, by omega, by omega, by omega, by omega⟩
theorem utc_yes {X : List Int} (hl : X.length = 13) (hz : X.getD 12 0 = 90) (hO : RestOk (restMo X 2 (yrU (numR X 0 2)))) :
    ∃ Y, X = Y ++ [90] ∧ Y.length = 12 ∧ Dgs Y ∧ utcMo (nval Y) = restMo X 2 (yrU (numR X 0 2)) := by
  obtain ⟨o0, o1, o2, o3, o4, o5⟩ := hO
  simp only [restMo] at o0 o1 o2 o3 o4 o5
  have y0 : 0 ≤ numR X 0 2 := by unfold yrU at o0; split at o0 <;> (try split at o0) <;> omega
  have d0 := (numR_ge.2 y0).2
  have d1 := (numR_ge.2 o1).2
  have d2 := (numR_ge.2 o2).2
  have d3 := (numR_ge.2 o3).2
  have d4 := (numR_ge.2 o4).2
  have d5 := (numR_ge.2 o5).2
  have e0 := numR_yes (X := X) (i := 0) (n := 2) (by omega) d0
  have e1 := numR_yes (X := X) (i := 2) (n := 2) (by omega) d1
  have e2 := numR_yes (X := X) (i := 2 + 2) (n := 2) (by omega) d2
  have e3 := numR_yes (X := X) (i := 2 + 4) (n := 2) (by omega) d3
  have e4 := numR_yes (X := X) (i := 2 + 6) (n := 2) (by omega) d4
  have e5 := numR_yes (X := X) (i := 2 + 8) (n := 2) (by omega) d5
  unfold restMo
  rw [e0, e1, e2, e3, e4, e5]
  clear o0 o1 o2 o3 o4 o5 y0 e0 e1 e2 e3 e4 e5
  obtain ⟨a, b, c, d, e, f, g, i, j, k, l, m, z, rfl⟩ := list13 hl
  obtain rfl : z = 90 := hz
  have s0 : sub [a, b, c, d, e, f, g, i, j, k, l, m, 90] 0 2 = [a, b] := rfl
  have s1 : sub [a, b, c, d, e, f, g, i, j, k, l, m, 90] 2 2 = [c, d] := rfl
  have s2 : sub [a, b, c, d, e, f, g, i, j, k, l, m, 90] (2 + 2) 2 = [e, f] := rfl
  have s3 : sub [a, b, c, d, e, f, g, i, j, k, l, m, 90] (2 + 4) 2 = [g, i] := rfl
  have s4 : sub [a, b, c, d, e, f, g, i, j, k, l, m, 90] (2 + 6) 2 = [j, k] := rfl
  have s5 : sub [a, b, c, d, e, f, g, i, j, k, l, m, 90] (2 + 8) 2 = [l, m] := rfl
  rw [s0] at d0 ⊢; rw [s1] at d1 ⊢; rw [s2] at d2 ⊢; rw [s3] at d3 ⊢; rw [s4] at d4 ⊢; rw [s5] at d5 ⊢
  have q0 := dgs2.1 d0; have q1 := dgs2.1 d1; have q2 := dgs2.1 d2; have q3 := dgs2.1 d3; have q4 := dgs2.1 d4; have q5 := dgs2.1 d5
  refine ⟨[a, b, c, d, e, f, g, i, j, k, l, m], rfl, rfl, ?_, ?_⟩
  · have : ([a, b, c, d, e, f, g, i, j, k, l, m] : List Int) = [a, b] ++ ([c, d] ++ ([e, f] ++ ([g, i] ++ ([j, k] ++ [l, m])))) := rfl
    rw [this]
    exact dgs_app.2 ⟨d0, dgs_app.2 ⟨d1, dgs_app.2 ⟨d2, dgs_app.2 ⟨d3, dgs_app.2 ⟨d4, d5⟩⟩⟩⟩⟩
  · simp only [nval2]
    have hc : cutMo (nval [a, b, c, d, e, f, g, i, j, k, l, m]) = ⟨10 * (a - 48) + (b - 48), 10 * (c - 48) + (d - 48), 10 * (e - 48) + (f - 48), 10 * (g - 48) + (i - 48), 10 * (j - 48) + (k - 48), 10 * (l - 48) + (m - 48)⟩ := by
      refine cut6 ?_ ?_ ?_ ?_ ?_ ?_
      · omega
      · omega
      · omega
      · omega
      · omega
      · simp [nval]; omega
    unfold utcMo yrU
    rw [hc]
    simp only
    by_cases hy : 50 ≤ 10 * (a - 48) + (b - 48)
    · rw [if_neg (by omega), if_pos hy]
    · rw [if_pos (by omega), if_neg hy, if_pos (by omega), Mo.mk.injEq]
      refine ⟨by omega, rfl, rfl, rfl, rfl, rfl⟩
theorem sub_dgs {A : List Int} (B : List Int) (h : Dgs A) (i n : Nat) (hi : i + n ≤ A.length) : i + n ≤ (A ++ B).length ∧ Dgs (sub (A ++ B) i n) := by
  refine ⟨by rw [List.length_append]; omega, ?_⟩
  unfold sub
  rw [List.drop_append_of_le_length (by omega), List.take_append_of_le_length (by rw [List.length_drop]; omega)]
  exact (h.drop i).take n
theorem numR_nn {A : List Int} (B : List Int) (h : Dgs A) (i n : Nat) (hi : i + n ≤ A.length) : 0 ≤ numR (A ++ B) i n := by
  have k := sub_dgs B h i n hi
  rw [numR_yes k.1 k.2]; exact (nval_bound _ k.2).1
theorem utc_no {X Y : List Int} (h : X = Y ++ [90]) (hl : Y.length = 12) (hD : Dgs Y) : X.length = 13 ∧ X.getD 12 0 = 90 ∧ RestOk (restMo X 2 (yrU (numR X 0 2))) := by
  subst h
  have k0 := numR_nn [90] hD 0 2 (by omega)
  refine ⟨by simp [hl], ?_, ?_, numR_nn _ hD _ _ (by omega), numR_nn _ hD _ _ (by omega), numR_nn _ hD _ _ (by omega), numR_nn _ hD _ _ (by omega), numR_nn _ hD _ _ (by omega)⟩
  · rw [List.getD_eq_getElem?_getD, List.getElem?_append_right (by omega), hl]; rfl
  · show 0 ≤ yrU _
    unfold yrU; split <;> (try split) <;> omega
set_option maxRecDepth 100000 in
set_option maxHeartbeats 4000000 in
theorem RUtc_any {w : World} (hRC : RestC) (a : Option Addr) (L c : Nat) (X : List Int) (hX : Sl .u8 w (.slice a L c) X) (hL : X.length = L) (hU : U8s X) (hl : L ≤ 1000000) :
    Calls Tryd.prog 17 #[.slice a L c] w fun e w' => UtcIs X e ∧ Below w.heap.size w w' := by
  have HX : Hid (Sl .u8 w (.slice a L c) X ∧ X.length = L ∧ U8s X) := ⟨hX, hL, hU⟩
  obtain ⟨y, hy⟩ : ∃ y, numR X 0 2 = y := ⟨_, rfl⟩
  have hyr : -1 ≤ y ∧ y ≤ 1000 := by
    rw [← hy]
    refine ⟨numR_ge.1, ?_⟩
    by_cases h : 0 + 2 ≤ X.length ∧ Dgs (sub X 0 2)
    · rw [numR_yes h.1 h.2]
      have := (nval_bound _ h.2).2
      rw [sub_len h.1] at this
      have : (10 : Int) ^ 2 = 100 := by decide
      omega
    · rw [numR_no h]; omega
  obtain ⟨y0, y1⟩ := hyr
  have HN : Hid (∀ w : World, Sl .u8 w (.slice a L c) X → Calls Tryd.prog 35 #[.slice a L c, .int .i64 0, .int .i64 2] w fun e w' => e = .returned (.int .i64 y) ∧ w' = w) := fun w h => Rnumber_at a L c X h hL hU hl 0 0 2 y 2 rfl rfl (by omega) (by omega) (by omega) hy
  have HR : Hid (∀ (w : World) (q : Int), q = yrU y → Sl .u8 w (.slice a L c) X → Calls Tryd.prog 36 #[.slice a L c, .int .i64 2, .int .i64 q] w fun e w' => RestIs (restMo X 2 (yrU y)) e ∧ Below w.heap.size w w') := fun w q hq h => by
    subst hq; exact hRC w a L c X h hL hU hl 2 (by omega) (yrU y)
  have HE : Hid (numR X 0 2 = y) := hy
  clear hX hU hy
  have HW : Hid (∀ (e : Ending), RestIs (restMo X 2 (yrU y)) e → ∃ b : Bool, e = .returned (.tuple #[.agg (restMo X 2 (yrU y)).cells.toArray, .bool b]) ∧ (b = true ↔ RestOk (restMo X 2 (yrU y)))) := fun e h => by
    rcases h with ⟨k, h⟩ | ⟨k, h⟩
    · exact ⟨true, h, by simp [k]⟩
    · exact ⟨false, h, by simp [k]⟩
  have HSec : Hid (∀ w : World, Calls Tryd.prog 10 #[.agg (restMo X 2 (yrU y)).cells.toArray] w fun e w' => SecondsIs (restMo X 2 (yrU y)) e ∧ Below w.heap.size w w') := fun w => RSeconds_any _
  have HYes : Hid (X.length = 13 → X.getD 12 0 = 90 → RestOk (restMo X 2 (yrU y)) → ∃ Y, X = Y ++ [90] ∧ Y.length = 12 ∧ Dgs Y ∧ utcMo (nval Y) = restMo X 2 (yrU y)) := fun h1 h2 h3 => by
    have := utc_yes h1 h2 (by rw [HE.out]; exact h3)
    rw [HE.out] at this; exact this
  have HNo : Hid (∀ Y, X = Y ++ [90] ∧ Y.length = 12 ∧ Dgs Y → X.length = 13 ∧ X.getD 12 0 = 90 ∧ RestOk (restMo X 2 (yrU y))) := fun Y h => by
    have := utc_no h.1 h.2.1 h.2.2
    rw [HE.out] at this; exact this
  generalize ht : restMo X 2 (yrU y) = t at HR HW HSec HYes HNo
  clear ht
  obtain ⟨Y', M, D, h, m, s⟩ := t
  unfold Mo.cells at HW HSec
  by_cases c50 : 50 ≤ y
  · go_enter Tryd.func17, Tryd.ntmps17
    go_wp2_with fail
    refine (HN.out _ HX.out.1).mono ?_
    rintro e w' ⟨rfl, rfl⟩
    go_wp2_with fail
    refine (HR.out _ _ (by unfold yrU; rw [if_pos c50]) HX.out.1).mono ?_
    rintro e w1 ⟨hR, hb⟩
    obtain ⟨b, rfl, hbk⟩ := HW.out e hR
    have H1 : Hid (Below w'.heap.size w' w1 ∧ Sl .u8 w1 (.slice a L c) X ∧ (b = true ↔ RestOk ⟨Y', M, D, h, m, s⟩)) := ⟨hb, below_sl hb HX.out.1, hbk⟩
    clear hb hR hbk
    have H2 : Hid (∀ o, Below w'.heap.size w' (w1.alloc o)) := fun o => al2' H1.out.1
    cases b with
    | false =>
      go_wp2
      go_ret2
      refine ⟨Or.inr ⟨fun Z hZ => ?_, rfl⟩, H2.out _⟩
      have k := (HNo.out Z hZ).2.2
      have := H1.out.2.2.2 k
      cases this
    | true =>
      by_cases h13 : L = 13
      · subst h13
        obtain ⟨p, off, rfl, hc⟩ := sl_at H1.out.2.1 12 (by omega)
        obtain ⟨x, hx⟩ : ∃ x, X.getD 12 0 = x := ⟨_, rfl⟩
        rw [hx] at hc
        have hpl : p < w1.heap.size := (cell_lt hc)
        have hc' : ∀ o, (w1.alloc o).cell? ⟨p, off + 12, none⟩ = some (.int .u8 x) := fun o => by rw [(al1 o).cell (p := ⟨p, off + 12, none⟩) hpl]; exact hc
        by_cases h90 : x = 90
        · subst h90
          have HK : Hid (X.getD 12 0 = 90) := hx
          clear hx hc hpl
          go_wp2_with fail
          refine (HSec.out _).mono ?_
          rintro e w2 ⟨hs, hb⟩
          have H3 : Hid (Below w'.heap.size w' w2 ∧ SecondsIs ⟨Y', M, D, h, m, s⟩ e) := ⟨below_via (H2.out _) hb (Nat.le_refl _), hs⟩
          obtain ⟨v1, v2, rfl⟩ : ∃ v1 v2, e = .returned (.tuple #[.int .i64 v1, .int .i64 v2]) := by
            rcases hs with ⟨_, h⟩ | ⟨_, h⟩ <;> exact ⟨_, _, h⟩
          clear hb hs
          go_wp2
          go_ret2
          obtain ⟨Z, z1, z2, z3, z4⟩ := HYes.out HX.out.2.1 HK.out (H1.out.2.2.1 (by first | rfl | trivial))
          refine ⟨Or.inl ⟨Z, z1, z2, z3, ?_⟩, H3.out.1⟩
          rw [z4]; exact H3.out.2
        · have HK : Hid (X.getD 12 0 = x) := hx
          clear hx hc hpl
          go_wp2
          go_ret2
          refine ⟨Or.inr ⟨fun Z hZ => ?_, rfl⟩, H2.out _⟩
          have k := (HNo.out Z hZ).2.1
          rw [HK.out] at k
          exact h90 k
      · have h13I : ¬ (L : Int) = 13 := by omega
        go_wp2
        go_ret2
        refine ⟨Or.inr ⟨fun Z hZ => ?_, rfl⟩, H2.out _⟩
        have k := (HNo.out Z hZ).1
        exact h13 (by rw [← HX.out.2.1]; exact k)
    
  by_cases c0 : 0 ≤ y
  · go_enter Tryd.func17, Tryd.ntmps17
    go_wp2_with fail
    refine (HN.out _ HX.out.1).mono ?_
    rintro e w' ⟨rfl, rfl⟩
    go_wp2_with fail
    refine (HR.out _ _ (by unfold yrU; rw [if_neg (show ¬ 50 ≤ y by omega), if_pos (show 0 ≤ y by omega)]) HX.out.1).mono ?_
    rintro e w1 ⟨hR, hb⟩
    obtain ⟨b, rfl, hbk⟩ := HW.out e hR
    have H1 : Hid (Below w'.heap.size w' w1 ∧ Sl .u8 w1 (.slice a L c) X ∧ (b = true ↔ RestOk ⟨Y', M, D, h, m, s⟩)) := ⟨hb, below_sl hb HX.out.1, hbk⟩
    clear hb hR hbk
    have H2 : Hid (∀ o, Below w'.heap.size w' (w1.alloc o)) := fun o => al2' H1.out.1
    cases b with
    | false =>
      go_wp2
      go_ret2
      refine ⟨Or.inr ⟨fun Z hZ => ?_, rfl⟩, H2.out _⟩
      have k := (HNo.out Z hZ).2.2
      have := H1.out.2.2.2 k
      cases this
    | true =>
      by_cases h13 : L = 13
      · subst h13
        obtain ⟨p, off, rfl, hc⟩ := sl_at H1.out.2.1 12 (by omega)
        obtain ⟨x, hx⟩ : ∃ x, X.getD 12 0 = x := ⟨_, rfl⟩
        rw [hx] at hc
        have hpl : p < w1.heap.size := (cell_lt hc)
        have hc' : ∀ o, (w1.alloc o).cell? ⟨p, off + 12, none⟩ = some (.int .u8 x) := fun o => by rw [(al1 o).cell (p := ⟨p, off + 12, none⟩) hpl]; exact hc
        by_cases h90 : x = 90
        · subst h90
          have HK : Hid (X.getD 12 0 = 90) := hx
          clear hx hc hpl
          go_wp2_with fail
          refine (HSec.out _).mono ?_
          rintro e w2 ⟨hs, hb⟩
          have H3 : Hid (Below w'.heap.size w' w2 ∧ SecondsIs ⟨Y', M, D, h, m, s⟩ e) := ⟨below_via (H2.out _) hb (Nat.le_refl _), hs⟩
          obtain ⟨v1, v2, rfl⟩ : ∃ v1 v2, e = .returned (.tuple #[.int .i64 v1, .int .i64 v2]) := by
            rcases hs with ⟨_, h⟩ | ⟨_, h⟩ <;> exact ⟨_, _, h⟩
          clear hb hs
          go_wp2
          go_ret2
          obtain ⟨Z, z1, z2, z3, z4⟩ := HYes.out HX.out.2.1 HK.out (H1.out.2.2.1 (by first | rfl | trivial))
          refine ⟨Or.inl ⟨Z, z1, z2, z3, ?_⟩, H3.out.1⟩
          rw [z4]; exact H3.out.2
        · have HK : Hid (X.getD 12 0 = x) := hx
          clear hx hc hpl
          go_wp2
          go_ret2
          refine ⟨Or.inr ⟨fun Z hZ => ?_, rfl⟩, H2.out _⟩
          have k := (HNo.out Z hZ).2.1
          rw [HK.out] at k
          exact h90 k
      · have h13I : ¬ (L : Int) = 13 := by omega
        go_wp2
        go_ret2
        refine ⟨Or.inr ⟨fun Z hZ => ?_, rfl⟩, H2.out _⟩
        have k := (HNo.out Z hZ).1
        exact h13 (by rw [← HX.out.2.1]; exact k)
    
  go_enter Tryd.func17, Tryd.ntmps17
  go_wp2_with fail
  refine (HN.out _ HX.out.1).mono ?_
  rintro e w' ⟨rfl, rfl⟩
  go_wp2_with fail
  refine (HR.out _ _ (by unfold yrU; rw [if_neg (show ¬ 50 ≤ y by omega), if_neg (show ¬ 0 ≤ y by omega)]) HX.out.1).mono ?_
  rintro e w1 ⟨hR, hb⟩
  obtain ⟨b, rfl, hbk⟩ := HW.out e hR
  have H1 : Hid (Below w'.heap.size w' w1 ∧ Sl .u8 w1 (.slice a L c) X ∧ (b = true ↔ RestOk ⟨Y', M, D, h, m, s⟩)) := ⟨hb, below_sl hb HX.out.1, hbk⟩
  clear hb hR hbk
  have H2 : Hid (∀ o, Below w'.heap.size w' (w1.alloc o)) := fun o => al2' H1.out.1
  cases b with
  | false =>
    go_wp2
    go_ret2
    refine ⟨Or.inr ⟨fun Z hZ => ?_, rfl⟩, H2.out _⟩
    have k := (HNo.out Z hZ).2.2
    have := H1.out.2.2.2 k
    cases this
  | true =>
    by_cases h13 : L = 13
    · subst h13
      obtain ⟨p, off, rfl, hc⟩ := sl_at H1.out.2.1 12 (by omega)
      obtain ⟨x, hx⟩ : ∃ x, X.getD 12 0 = x := ⟨_, rfl⟩
      rw [hx] at hc
      have hpl : p < w1.heap.size := (cell_lt hc)
      have hc' : ∀ o, (w1.alloc o).cell? ⟨p, off + 12, none⟩ = some (.int .u8 x) := fun o => by rw [(al1 o).cell (p := ⟨p, off + 12, none⟩) hpl]; exact hc
      by_cases h90 : x = 90
      · subst h90
        have HK : Hid (X.getD 12 0 = 90) := hx
        clear hx hc hpl
        go_wp2_with fail
        refine (HSec.out _).mono ?_
        rintro e w2 ⟨hs, hb⟩
        have H3 : Hid (Below w'.heap.size w' w2 ∧ SecondsIs ⟨Y', M, D, h, m, s⟩ e) := ⟨below_via (H2.out _) hb (Nat.le_refl _), hs⟩
        obtain ⟨v1, v2, rfl⟩ : ∃ v1 v2, e = .returned (.tuple #[.int .i64 v1, .int .i64 v2]) := by
          rcases hs with ⟨_, h⟩ | ⟨_, h⟩ <;> exact ⟨_, _, h⟩
        clear hb hs
        go_wp2
        go_ret2
        obtain ⟨Z, z1, z2, z3, z4⟩ := HYes.out HX.out.2.1 HK.out (H1.out.2.2.1 (by first | rfl | trivial))
        refine ⟨Or.inl ⟨Z, z1, z2, z3, ?_⟩, H3.out.1⟩
        rw [z4]; exact H3.out.2
      · have HK : Hid (X.getD 12 0 = x) := hx
        clear hx hc hpl
        go_wp2
        go_ret2
        refine ⟨Or.inr ⟨fun Z hZ => ?_, rfl⟩, H2.out _⟩
        have k := (HNo.out Z hZ).2.1
        rw [HK.out] at k
        exact h90 k
    · have h13I : ¬ (L : Int) = 13 := by omega
      go_wp2
      go_ret2
      refine ⟨Or.inr ⟨fun Z hZ => ?_, rfl⟩, H2.out _⟩
      have k := (HNo.out Z hZ).1
      exact h13 (by rw [← HX.out.2.1]; exact k)
end Go.Proofs.YtnaiialcjimhbaaDoor
