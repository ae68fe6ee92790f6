/-
  Clock: moments that are written with years of four digits.
-/
import Derived.Test.YtonfllajceppgaaDoorC11
namespace Go.Proofs.YtonfllajceppgaaDoor
open Go.RowKit
theorem results_blk3 {P : Program} {fn : Func} {T : TypeId} {t u x : Tmp} (h : fn.results = #[.cell t T, .tmp u, .tmp x]) {a : Array Value} {w : World} {b : Nat} {cs : List Value} {d : TypeDesc} {v v' : Value} (ha : a.getD t undef = .pointer (some ⟨b, 0, none⟩))
    (hb : Blk T w b cs) (hu : P.underlying T = some d) (hd : d.isRow = true) (hi : (P.info? T).map (·.size) = some cs.length) (hv : a.getD u undef = v) (hx : a.getD x undef = v') : (results fn a).run P w = .ok (.tuple #[.agg cs.toArray, v, v']) w := by
  have := run_loadVar_mid (P := P) w b 0 T cs d hb.whole hu hd hi
  have ha' : a[t]?.getD undef = .pointer (some ⟨b, 0, none⟩) := by simpa using ha
  have hv' : a[u]?.getD undef = v := by simpa using hv
  have hx' : a[x]?.getD undef = v' := by simpa using hx
  simp [results, h, ha', asAddr, this, hv', hx']
def milN (pt : Bool) (B : List Int) : Int := if pt = true then nval (B ++ zeros (6 - B.length)) else 0
def GenW (z pt : Bool) (A B : List Int) (e : Ending) : Prop :=
  ((z = true ∧ A.length = 14 ∧ Dgs A ∧ (pt = true → MilOk B)) ∧ e = .returned (.tuple #[.agg (cutMo (nval A)).cells.toArray, .int .i64 (milN pt B), .bool true])) ∨
  (¬ (z = true ∧ A.length = 14 ∧ Dgs A ∧ (pt = true → MilOk B)) ∧ e = .returned (.tuple #[.agg (Mo.cells ⟨0, 0, 0, 0, 0, 0⟩).toArray, .int .i64 0, .bool false]))
set_option maxRecDepth 100000 in
set_option maxHeartbeats 4000000 in
theorem gen_walk {w : World} (X Y A B : List Int) (z pt : Bool) (uA : U8s A) (uB : U8s B) (lB : B.length ≤ 1000000000000)
    (h1 : ∀ w : World, Calls Tryd.prog 31 #[.string (strOfNums X), .string (strOfNums [90])] w fun e w' => e = .returned (.tuple #[.string (strOfNums Y), .bool z]) ∧ w = w')
    (h2 : ∀ w : World, Calls Tryd.prog 32 #[.string (strOfNums Y), .string (strOfNums [46])] w fun e w' => e = .returned (.tuple #[.string (strOfNums A), .string (strOfNums B), .bool pt]) ∧ Below w.heap.size w w') :
    Calls Tryd.prog 22 #[.string (strOfNums X)] w fun e w' => GenW z pt A B e ∧ Below w.heap.size w w' := by
  have HC : Hid _ := h1
  have HD : Hid _ := h2
  have HN : Hid (∀ w : World, Calls Tryd.prog 33 #[.string (strOfNums A), .int .i64 14] w fun e w' => NumIs A 14 e ∧ Below w.heap.size w w') := fun w => number_any A 14 uA (by omega)
  have HM : Hid (∀ w : World, Calls Tryd.prog 34 #[.string (strOfNums B)] w fun e w' => MilIs B e ∧ Below w.heap.size w w') := fun w => millionthsOf_any B uB lB
  clear h1 h2 uA uB lB
  go_enter Tryd.func22, Tryd.ntmps22
  go_wp2_with fail
  refine (HC.out _).mono ?_
  rintro e w' ⟨rfl, rfl⟩
  go_wp2_with fail
  refine (HD.out _).mono ?_
  rintro e w1 ⟨rfl, hb1⟩
  have hB1 : Blk 40 w1 w.heap.size (Mo.cells ⟨0, 0, 0, 0, 0, 0⟩) := below_blk hb1 (by simp) (Blk.new _ w _)
  have hbb1 : Below w.heap.size w w1 := (al1 _).trans (hb1.mono (by simp))
  have H1 : Hid (Below w.heap.size w w1 ∧ Blk 40 w1 w.heap.size (Mo.cells ⟨0, 0, 0, 0, 0, 0⟩)) := ⟨hbb1, hB1⟩
  clear hb1 hbb1 hB1
  go_wp2_with fail
  refine (HN.out _).mono ?_
  rintro e w2 ⟨hN, hb⟩
  have hB2 : Blk 40 w2 w.heap.size (Mo.cells ⟨0, 0, 0, 0, 0, 0⟩) := below_blk hb H1.out.2.lt H1.out.2
  have hb2 : Below w.heap.size w w2 := below_via H1.out.1 hb (Nat.le_refl _)
  have H2 : Hid (Below w.heap.size w w2 ∧ Blk 40 w2 w.heap.size (Mo.cells ⟨0, 0, 0, 0, 0, 0⟩)) := ⟨hb2, hB2⟩
  clear hb hb2 hB2
  rcases hN with ⟨h14, hDg, rfl⟩ | ⟨hF, rfl⟩
  · have hv := nval_bound A hDg
    rw [h14] at hv
    obtain ⟨n, hn⟩ : ∃ n, nval A = n := ⟨_, rfl⟩
    rw [hn] at hv
    have n0 : 0 ≤ n := hv.1
    have n1 : n ≤ 100000000000000 := by have := hv.2; have := pow_le14 (show 14 ≤ 14 by omega); omega
    have H3 : Hid (A.length = 14 ∧ Dgs A ∧ nval A = n) := ⟨h14, hDg, hn⟩
    rw [hn]
    clear hv h14 hDg hn
    cases pt with
    | true =>
      go_wp2_with fail
      refine (HM.out _).mono ?_
      rintro e w3 ⟨hM, hb⟩
      have hB3 : Blk 40 w3 w.heap.size (Mo.cells ⟨0, 0, 0, 0, 0, 0⟩) := below_blk hb H2.out.2.lt H2.out.2
      have hb3 : Below w.heap.size w w3 := below_via H2.out.1 hb (Nat.le_refl _)
      have H4 : Hid (Below w.heap.size w w3 ∧ Blk 40 w3 w.heap.size (Mo.cells ⟨0, 0, 0, 0, 0, 0⟩)) := ⟨hb3, hB3⟩
      obtain ⟨d0, d1, d2, d3, d4, d5, f0, f1, f2, f3, f4, f5⟩ := Mo.facts hB3
      clear hb hb3 hB3
      rcases hM with ⟨hO, rfl⟩ | ⟨hO, rfl⟩
      · have H5 : Hid (MilOk B) := hO
        clear hO
        cases z with
        | true =>
          clear d0 d1 d2 d3 d4 d5 f0 f1 f2 f3 f4 f5
          go_wp2_with fail
          refine (cutN_any n n0 n1).mono ?_
          rintro e w4 ⟨rfl, hb⟩
          have hB4 : Blk 40 w4 w.heap.size (Mo.cells ⟨0, 0, 0, 0, 0, 0⟩) := below_blk hb H4.out.2.lt H4.out.2
          have hb4 : Below w.heap.size w w4 := below_via H4.out.1 hb (Nat.le_refl _)
          have H6 : Hid (Below w.heap.size w w4 ∧ Blk 40 w4 w.heap.size (Mo.cells ⟨0, 0, 0, 0, 0, 0⟩)) := ⟨hb4, hB4⟩
          obtain ⟨d0, d1, d2, d3, d4, d5, f0, f1, f2, f3, f4, f5⟩ := Mo.facts hB4
          clear hb hb4 hB4
          obtain ⟨t, ht⟩ : ∃ t, cutMo n = t := ⟨_, rfl⟩
          have HT : Hid (cutMo n = t) := ht
          rw [ht]
          clear ht
          obtain ⟨Y', M, D, h, m, s⟩ := t
          unfold Mo.cells
          go_wp2
          obtain ⟨hF, hV⟩ := Mo.put H6.out.2 Y' M D h m s
          refine bodyPost_ret (results_blk3 rfl rfl hF Tryd.underlying40 rfl Tryd.sizeMo rfl rfl) rfl ⟨Or.inl ⟨⟨rfl, H3.out.1, H3.out.2.1, fun _ => H5.out⟩, ?_⟩, hV.below H6.out.1 H6.out.1.size (Nat.le_refl _)⟩
          rw [H3.out.2.2, HT.out]; rfl
        | false =>
          go_wp2
          obtain ⟨hF, hV⟩ := Mo.put H4.out.2 0 0 0 0 0 0
          exact bodyPost_ret (results_blk3 rfl rfl hF Tryd.underlying40 rfl Tryd.sizeMo rfl rfl) rfl ⟨Or.inr ⟨fun h => (by cases h.1), rfl⟩, hV.below H4.out.1 H4.out.1.size (Nat.le_refl _)⟩
      · have H5 : Hid (¬ MilOk B) := hO
        clear hO
        cases z with
        | true =>
          go_wp2
          obtain ⟨hF, hV⟩ := Mo.put H4.out.2 0 0 0 0 0 0
          exact bodyPost_ret (results_blk3 rfl rfl hF Tryd.underlying40 rfl Tryd.sizeMo rfl rfl) rfl ⟨Or.inr ⟨fun h => H5.out (h.2.2.2 rfl), rfl⟩, hV.below H4.out.1 H4.out.1.size (Nat.le_refl _)⟩
        | false =>
          go_wp2
          obtain ⟨hF, hV⟩ := Mo.put H4.out.2 0 0 0 0 0 0
          exact bodyPost_ret (results_blk3 rfl rfl hF Tryd.underlying40 rfl Tryd.sizeMo rfl rfl) rfl ⟨Or.inr ⟨fun h => (by cases h.1), rfl⟩, hV.below H4.out.1 H4.out.1.size (Nat.le_refl _)⟩
    | false =>
      cases z with
      | true =>
        go_wp2_with fail
        refine (cutN_any n n0 n1).mono ?_
        rintro e w4 ⟨rfl, hb⟩
        have hB4 : Blk 40 w4 w.heap.size (Mo.cells ⟨0, 0, 0, 0, 0, 0⟩) := below_blk hb H2.out.2.lt H2.out.2
        have hb4 : Below w.heap.size w w4 := below_via H2.out.1 hb (Nat.le_refl _)
        have H6 : Hid (Below w.heap.size w w4 ∧ Blk 40 w4 w.heap.size (Mo.cells ⟨0, 0, 0, 0, 0, 0⟩)) := ⟨hb4, hB4⟩
        obtain ⟨d0, d1, d2, d3, d4, d5, f0, f1, f2, f3, f4, f5⟩ := Mo.facts hB4
        clear hb hb4 hB4
        obtain ⟨t, ht⟩ : ∃ t, cutMo n = t := ⟨_, rfl⟩
        have HT : Hid (cutMo n = t) := ht
        rw [ht]
        clear ht
        obtain ⟨Y', M, D, h, m, s⟩ := t
        unfold Mo.cells
        go_wp2
        obtain ⟨hF, hV⟩ := Mo.put H6.out.2 Y' M D h m s
        refine bodyPost_ret (results_blk3 rfl rfl hF Tryd.underlying40 rfl Tryd.sizeMo rfl rfl) rfl ⟨Or.inl ⟨⟨rfl, H3.out.1, H3.out.2.1, fun h => by cases h⟩, ?_⟩, hV.below H6.out.1 H6.out.1.size (Nat.le_refl _)⟩
        rw [H3.out.2.2, HT.out]; rfl
      | false =>
        obtain ⟨d0, d1, d2, d3, d4, d5, f0, f1, f2, f3, f4, f5⟩ := Mo.facts H2.out.2
        go_wp2
        obtain ⟨hF, hV⟩ := Mo.put H2.out.2 0 0 0 0 0 0
        exact bodyPost_ret (results_blk3 rfl rfl hF Tryd.underlying40 rfl Tryd.sizeMo rfl rfl) rfl ⟨Or.inr ⟨fun h => (by cases h.1), rfl⟩, hV.below H2.out.1 H2.out.1.size (Nat.le_refl _)⟩
  · have H3 : Hid (¬ (A.length = 14 ∧ Dgs A)) := hF
    clear hF
    obtain ⟨d0, d1, d2, d3, d4, d5, f0, f1, f2, f3, f4, f5⟩ := Mo.facts H2.out.2
    cases z with
    | true =>
      go_wp2
      obtain ⟨hF, hV⟩ := Mo.put H2.out.2 0 0 0 0 0 0
      exact bodyPost_ret (results_blk3 rfl rfl hF Tryd.underlying40 rfl Tryd.sizeMo rfl rfl) rfl ⟨Or.inr ⟨fun h => H3.out ⟨h.2.1, h.2.2.1⟩, rfl⟩, hV.below H2.out.1 H2.out.1.size (Nat.le_refl _)⟩
    | false =>
      go_wp2
      obtain ⟨hF, hV⟩ := Mo.put H2.out.2 0 0 0 0 0 0
      exact bodyPost_ret (results_blk3 rfl rfl hF Tryd.underlying40 rfl Tryd.sizeMo rfl rfl) rfl ⟨Or.inr ⟨fun h => (by cases h.1), rfl⟩, hV.below H2.out.1 H2.out.1.size (Nat.le_refl _)⟩
/-- bytes that say a moment with a year of four digits, and its millionths -/
def GenSays (X : List Int) (t : Mo) (mi : Int) : Prop :=
  (∃ A, X = A ++ [90] ∧ A.length = 14 ∧ Dgs A ∧ t = cutMo (nval A) ∧ mi = 0) ∨
  (∃ A B, X = (A ++ 46 :: B) ++ [90] ∧ A.length = 14 ∧ Dgs A ∧ MilOk B ∧ t = cutMo (nval A) ∧ mi = nval (B ++ zeros (6 - B.length)))
def GenMIs (X : List Int) (e : Ending) : Prop :=
  (∃ t mi, GenSays X t mi ∧ e = .returned (.tuple #[.agg t.cells.toArray, .int .i64 mi, .bool true])) ∨
  ((∀ t mi, ¬ GenSays X t mi) ∧ e = .returned (.tuple #[.agg (Mo.cells ⟨0, 0, 0, 0, 0, 0⟩).toArray, .int .i64 0, .bool false]))
theorem not46 {A : List Int} (h : Dgs A) : (46 : Int) ∉ A := fun k => by have := h _ k; unfold Dg at this; omega
theorem app46 {A B A' B' : List Int} (h : A ++ 46 :: B = A' ++ 46 :: B') (hA : (46 : Int) ∉ A) (hA' : (46 : Int) ∉ A') : A = A' ∧ B = B' := by
  induction A generalizing A' with
  | nil =>
    cases A' with
    | nil => simpa using h
    | cons a l => simp at h; exact absurd (by rw [h.1]; simp) hA'
  | cons a l ih =>
    cases A' with
    | nil => simp at h; exact absurd (by rw [← h.1]; simp) hA
    | cons a' l' =>
      simp at h
      obtain ⟨e, f⟩ := ih (A' := l') h.2 (fun k => hA (List.mem_cons_of_mem _ k)) (fun k => hA' (List.mem_cons_of_mem _ k))
      exact ⟨by rw [h.1, e], f⟩
theorem generalMoment_any {w : World} (X : List Int) (hU : U8s X) (hl : X.length ≤ 1000000000000) : Calls Tryd.prog 22 #[.string (strOfNums X)] w fun e w' => GenMIs X e ∧ Below w.heap.size w w' := by
  obtain ⟨Y, z, h1, uY, lY, hz, hz'⟩ : ∃ (Y : List Int) (z : Bool), (∀ w : World, Calls Tryd.prog 31 #[.string (strOfNums X), .string (strOfNums [90])] w fun e w' => e = .returned (.tuple #[.string (strOfNums Y), .bool z]) ∧ w = w') ∧ U8s Y ∧ Y.length ≤ 1000000000000 ∧ (z = true → X = Y ++ [90]) ∧ (z = false → ∀ Y, X ≠ Y ++ [90]) := by
    by_cases hX : ∃ Y, X = Y ++ [90]
    · obtain ⟨Y, rfl⟩ := hX
      have lY : Y.length ≤ 1000000000000 := by simp at hl; omega
      exact ⟨Y, true, fun w => cutSuffix_yes Y 90 u90 lY, fun x hx => hU x (List.mem_append_left _ hx), lY, fun _ => rfl, fun h => by cases h⟩
    · exact ⟨X, false, fun w => cutSuffix_no X 90 hU u90 hl (fun Y h => hX ⟨Y, h⟩), hU, hl, fun h => (by cases h), fun _ Y h => hX ⟨Y, h⟩⟩
  by_cases h46 : (46 : Int) ∈ Y
  · obtain ⟨A, B, hY, hA⟩ := List.eq_append_cons_of_mem h46
    have uA : U8s A := fun x hx => uY x (by rw [hY]; exact List.mem_append_left _ hx)
    have uB : U8s B := fun x hx => uY x (by rw [hY]; exact List.mem_append_right _ (List.mem_cons_of_mem _ hx))
    have lB : B.length ≤ 1000000000000 := by rw [hY] at lY; simp at lY; omega
    refine (gen_walk X Y A B z true uA uB lB h1 (fun w => by rw [hY]; exact cut_yes A B 46 (hY ▸ uY) u46 hA (hY ▸ lY))).mono ?_
    rintro e w' ⟨hW, hb⟩
    refine ⟨?_, hb⟩
    rcases hW with ⟨⟨k1, k2, k3, k4⟩, he⟩ | ⟨hn, he⟩
    · exact Or.inl ⟨_, _, Or.inr ⟨A, B, by rw [hz k1, hY], k2, k3, k4 rfl, rfl, rfl⟩, he⟩
    · refine Or.inr ⟨fun t mi hG => hn ?_, he⟩
      have zt : z = true := by
        cases z with
        | true => rfl
        | false => rcases hG with ⟨A', h, _⟩ | ⟨A', B', h, _⟩ <;> exact absurd h (hz' rfl _)
      have hX := hz zt
      rcases hG with ⟨A', h, _, hD, _⟩ | ⟨A', B', h, hl', hD, hM, _⟩
      · rw [hX, List.append_cancel_right_eq, hY] at h
        exact absurd (by rw [← h]; simp) (not46 hD)
      · rw [hX, List.append_cancel_right_eq, hY] at h
        obtain ⟨e1, e2⟩ := app46 h hA (not46 hD)
        subst e1; subst e2
        exact ⟨zt, hl', hD, fun _ => hM⟩
  · refine (gen_walk X Y Y [] z false uY (fun x hx => by simp at hx) (by simp) h1 (fun w => cut_no Y 46 uY u46 h46)).mono ?_
    rintro e w' ⟨hW, hb⟩
    refine ⟨?_, hb⟩
    rcases hW with ⟨⟨k1, k2, k3, k4⟩, he⟩ | ⟨hn, he⟩
    · exact Or.inl ⟨_, _, Or.inl ⟨Y, hz k1, k2, k3, rfl, rfl⟩, he⟩
    · refine Or.inr ⟨fun t mi hG => hn ?_, he⟩
      have zt : z = true := by
        cases z with
        | true => rfl
        | false => rcases hG with ⟨A', h, _⟩ | ⟨A', B', h, _⟩ <;> exact absurd h (hz' rfl _)
      have hX := hz zt
      rcases hG with ⟨A', h, hl', hD, _⟩ | ⟨A', B', h, _⟩
      · rw [hX, List.append_cancel_right_eq] at h
        subst h
        exact ⟨zt, hl', hD, fun h => by cases h⟩
      · rw [hX, List.append_cancel_right_eq] at h
        exact absurd (by rw [h]; simp) h46
end Go.Proofs.YtonfllajceppgaaDoor
