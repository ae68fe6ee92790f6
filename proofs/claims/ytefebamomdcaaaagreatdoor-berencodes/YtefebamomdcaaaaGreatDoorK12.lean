/-
  Ber: the tree with whole strings is a tree; how long its data are: over lists; no Go text in sight.
-/
import Derived.Test.YtefebamomdcaaaaGreatDoorK11
namespace Go.Proofs.YtefebamomdcaaaaGreatDoor
open Go.RowKit
theorem setD_nil {x : Te} (h : x.d = []) : setD x = [] := by
  unfold setD
  rw [h]
  split
  · rfl
  · split <;> rfl
theorem setD_len (x : Te) : (setD x).length = x.d.length := by
  unfold setD
  split
  · split <;> simp
  · split
    · split <;> simp
    · rfl
theorem rowB_same {a a' : Te} (R : List Te) (h1 : a'.dp = a.dp) (h2 : a'.co = a.co) : rowB a' R = rowB a R := by
  cases R with
  | nil => rfl
  | cons y r => simp only [rowB, folB, h1, h2]
theorem rowB_drop {x' : Te} {d : Int} (hd : x'.dp = d) : ∀ {r : List Te} {a : Te}, rowB a r = true → rowB x' (r.dropWhile fun y => decide (d < y.dp)) = true
  | [], _, _ => rfl
  | y :: r, a, h => by
    simp only [rowB, Bool.and_eq_true] at h
    rw [List.dropWhile_cons]
    split
    · exact rowB_drop hd h.2
    · rename_i h1
      have h2 := h.1.2
      simp only [folB, decide_eq_true_eq] at h2
      simp only [decide_eq_true_eq] at h1
      simp only [rowB, Bool.and_eq_true, folB, decide_eq_true_eq]
      exact ⟨⟨h.1.1, h2.1, h2.2.1, .inl (by omega)⟩, h.2⟩
theorem setF_len : ∀ (f : Nat) (R : List Te), (setF f R).length ≤ R.length
  | 0, _ => by simp [setF]
  | _ + 1, [] => by simp [setF]
  | f + 1, x :: r => by
    rw [setF]
    split
    · have := setF_len f (r.dropWhile fun y => decide (x.dp < y.dp))
      have := (List.dropWhile_sublist (l := r) fun y => decide (x.dp < y.dp)).length_le
      simp only [List.length_cons]; omega
    · have := setF_len f r
      simp only [List.length_cons]; omega
theorem set_row : ∀ (f : Nat) (R : List Te) (a : Te), R.length ≤ f → rowB a R = true → rowB a (setF f R) = true
  | 0, R, _, _, _ => by simp [setF, rowB]
  | _ + 1, [], _, _, _ => by simp [setF, rowB]
  | f + 1, x :: r, a, hf, h => by
    simp only [rowB, Bool.and_eq_true] at h
    simp only [List.length_cons] at hf
    have hst := h.1.1
    have hfo := h.1.2
    rw [setF]
    split
    · have hl := (List.dropWhile_sublist (l := r) fun y => decide (x.dp < y.dp)).length_le
      simp only [rowB, Bool.and_eq_true]
      refine ⟨⟨?_, ?_⟩, set_row f _ _ (by omega) (rowB_drop rfl h.2)⟩
      · unfold standB at hst ⊢
        simp only [decide_eq_true_eq] at hst ⊢
        exact ⟨hst.1, hst.2.1, hst.2.2.1, hst.2.2.2.1, hst.2.2.2.2.1, fun h => by cases h⟩
      · unfold folB at hfo ⊢; exact hfo
    · simp only [rowB, Bool.and_eq_true]
      refine ⟨⟨?_, ?_⟩, set_row f _ _ (by omega) ((rowB_same (a := x) (a' := ⟨x.dp, x.cl, x.tg, x.co, setD x⟩) r rfl rfl).trans h.2)⟩
      · unfold standB at hst ⊢
        simp only [decide_eq_true_eq] at hst ⊢
        exact ⟨hst.1, hst.2.1, hst.2.2.1, hst.2.2.2.1, hst.2.2.2.2.1, fun h => setD_nil (hst.2.2.2.2.2 h)⟩
      · unfold folB at hfo ⊢; exact hfo
theorem set_tree {L : List Te} (h : treeB L = true) : treeB (setL L) = true := by
  cases L with
  | nil => cases h
  | cons x r =>
    simp only [treeB, Bool.and_eq_true, decide_eq_true_eq] at h
    obtain ⟨⟨⟨h1, h2⟩, hst⟩, h4⟩ := h
    have hlen := setF_len (x :: r).length (x :: r)
    unfold setL
    simp only [List.length_cons] at hlen h1 ⊢
    rw [setF] at hlen ⊢
    split
    · rename_i hc
      rw [if_pos hc] at hlen
      have hl := (List.dropWhile_sublist (l := r) fun y => decide (x.dp < y.dp)).length_le
      simp only [treeB, Bool.and_eq_true, decide_eq_true_eq]
      refine ⟨⟨⟨by omega, h2⟩, ?_⟩, set_row _ _ _ (by omega) (rowB_drop rfl h4)⟩
      unfold standB at hst ⊢
      simp only [decide_eq_true_eq] at hst ⊢
      exact ⟨hst.1, hst.2.1, hst.2.2.1, hst.2.2.2.1, hst.2.2.2.2.1, fun h => by cases h⟩
    · rename_i hc
      rw [if_neg hc] at hlen
      simp only [treeB, Bool.and_eq_true, decide_eq_true_eq]
      refine ⟨⟨⟨by omega, h2⟩, ?_⟩, set_row _ _ _ (by omega) ((rowB_same (a := x) (a' := ⟨x.dp, x.cl, x.tg, x.co, setD x⟩) r rfl rfl).trans h4)⟩
      unfold standB at hst ⊢
      simp only [decide_eq_true_eq] at hst ⊢
      exact ⟨hst.1, hst.2.1, hst.2.2.1, hst.2.2.2.1, hst.2.2.2.2.1, fun h => setD_nil (hst.2.2.2.2.2 h)⟩
theorem datL_app (A B : List Te) : datL (A ++ B) = datL A + datL B := by
  induction A with
  | nil => simp [datL]
  | cons x A ih => simp only [List.cons_append, datL, ih]; omega
theorem datL_flat (S : List Te) : (S.flatMap (·.d)).length = datL S := by
  induction S with
  | nil => rfl
  | cons x S ih => simp only [List.flatMap_cons, List.length_append, datL, ih]
theorem jbits_len : ∀ (S : List Te) (A : List Int), A.length ≤ (jbits A S).length ∧ (jbits A S).length ≤ A.length + datL S
  | [], A => by simp [jbits, datL]
  | x :: S, A => by
    rw [jbits]
    split
    · have := jbits_len S A; simp only [datL]; omega
    · have := jbits_len S (A.set 0 (x.d.getD 0 0) ++ x.d.drop 1)
      simp only [List.length_append, List.length_set, List.length_drop] at this
      simp only [datL]; omega
theorem joinB_len (t : Int) (S : List Te) : (joinB t S).length ≤ datL S + 1 := by
  unfold joinB
  split
  · have := (jbits_len S [0]).2; simp only [List.length_cons, List.length_nil] at this; omega
  · rw [datL_flat]; omega
theorem set_dat : ∀ (f : Nat) (R : List Te), datL (setF f R) ≤ datL R + R.length
  | 0, _ => by simp [setF, datL]
  | _ + 1, [] => by simp [setF, datL]
  | f + 1, x :: r => by
    rw [setF]
    split
    · have h1 := set_dat f (r.dropWhile fun y => decide (x.dp < y.dp))
      have h2 := (List.dropWhile_sublist (l := r) fun y => decide (x.dp < y.dp)).length_le
      have h3 := joinB_len x.tg (r.takeWhile fun y => decide (x.dp < y.dp))
      have h4 := datL_app (r.takeWhile fun y => decide (x.dp < y.dp)) (r.dropWhile fun y => decide (x.dp < y.dp))
      rw [List.takeWhile_append_dropWhile] at h4
      simp only [datL, setD_len, List.length_cons]
      omega
    · have h1 := set_dat f r
      simp only [datL, setD_len, List.length_cons]
      omega
/-- Segments that can be joined; an element that can be settled. -/
def segOk (t : Int) (S : List Te) : Prop := t = 3 → ∀ x ∈ S, x.co = false → 0 < x.d.length ∧ x.d.getD 0 0 ≤ 7
def setOk (x : Te) : Prop := (isB x 1 = true → 0 < x.d.length) ∧ (isB x 3 = true → 0 < x.d.length ∧ x.d.getD 0 0 ≤ 7)
/-- What stands right behind a place and is deeper. -/
def dpr (d : Int) (r : List Te) : List Te := r.takeWhile fun y => decide (d < y.dp)
def SetP (L : List Te) : Prop := ∀ i x, L[i]? = some x → (cstr x = true → segOk x.tg (dpr x.dp (L.drop (i + 1)))) ∧ (cstr x = false → setOk x)
theorem jbits_ok : ∀ {S : List Te} {A : List Int}, (∀ x ∈ S, x.co = false → 0 < x.d.length ∧ x.d.getD 0 0 ≤ 7) → 0 < A.length → A.getD 0 0 ≤ 7 → (jbits A S).getD 0 0 ≤ 7
  | [], A, _, _, h => h
  | x :: S, A, h, h0, h7 => by
    rw [jbits]
    split
    · exact jbits_ok (fun y hy => h y (List.mem_cons_of_mem _ hy)) h0 h7
    · rename_i hc
      refine jbits_ok (fun y hy => h y (List.mem_cons_of_mem _ hy)) (by simp; omega) ?_
      have := (h x (List.mem_cons_self ..) (by simpa using hc)).2
      cases A with
      | nil => simp at h0
      | cons a A => simpa using this
/-- A string that was joined can be settled. -/
theorem join_ok {x : Te} {S : List Te} (hc : cstr x = true) (h : segOk x.tg S) : setOk ⟨x.dp, x.cl, x.tg, false, joinB x.tg S⟩ := by
  unfold cstr at hc
  simp only [decide_eq_true_eq] at hc
  constructor
  · intro h1
    unfold isB at h1
    simp only [decide_eq_true_eq] at h1
    rw [h1.2] at hc
    have := hc.2.1
    exact absurd this (by decide)
  · intro h3
    unfold isB at h3
    simp only [decide_eq_true_eq] at h3
    simp only []
    unfold joinB
    rw [if_pos h3.2]
    have h4 := (jbits_len S [0]).1
    simp only [List.length_cons, List.length_nil] at h4
    exact ⟨by omega, jbits_ok (h h3.2) (by simp) (by simp)⟩
theorem jbits_u8 : ∀ {S : List Te} {A : List Int}, (∀ x ∈ S, U8s x.d) → U8s A → U8s (jbits A S)
  | [], _, _, h => h
  | x :: S, A, h, hA => by
    have hx := h x (List.mem_cons_self ..)
    rw [jbits]
    split
    · exact jbits_u8 (fun y hy => h y (List.mem_cons_of_mem _ hy)) hA
    · refine jbits_u8 (fun y hy => h y (List.mem_cons_of_mem _ hy)) fun z hz => ?_
      rcases List.mem_append.1 hz with h1 | h1
      · rcases List.mem_or_eq_of_mem_set h1 with h2 | h2
        · exact hA z h2
        · subst h2; exact hx.at 0
      · exact hx z (List.mem_of_mem_drop h1)
theorem joinB_u8 {t : Int} {S : List Te} (h : ∀ x ∈ S, U8s x.d) : U8s (joinB t S) := by
  unfold joinB
  split
  · exact jbits_u8 h (fun z hz => by simp only [List.mem_singleton] at hz; subst hz; unfold U8; omega)
  · intro z hz
    obtain ⟨x, hx, hz⟩ := List.mem_flatMap.1 hz
    exact h x hx z hz
end Go.Proofs.YtefebamomdcaaaaGreatDoor
/-
  Ber: the reference's reading: no, tag, length.
-/
namespace Go.Proofs.YtefebamomdcaaaaGreatDoor
open Go.RowKit
/-- A reading lies at block g: what it reads, the elements so far, the first fault and its place. -/
def Rdg (w : World) (g b off n c : Nat) (ov : Value) (e a : Int) : Prop := Blk 68 w g [.slice (some ⟨b, off, none⟩) n c, ov, .int .i64 e, .int .i64 a]
set_option maxHeartbeats 1000000 in
theorem no_any {w : World} (g b off n c : Nat) (ov : Value) (e0 a0 e a : Int) (hR : Rdg w g b off n c ov e0 a0) :
    Calls Tryz.prog 35 #[.pointer (some ⟨g, 0, none⟩), .int .i64 e, .int .i64 a] w fun r w' => r = .returned (.int .i64 0) ∧ Upd w w' g ∧ Rdg w' g b off n c ov e a := by
  have f2 := hR.frozen 2
  have f3 := hR.frozen 3
  have c2 : w.cell? ⟨g, 2, none⟩ = some (.int .i64 e0) := hR.cell 2
  have c3 : w.cell? ⟨g, 3, none⟩ = some (.int .i64 a0) := hR.cell 3
  have HR : Hid (Rdg w g b off n c ov e0 a0) := hR
  clear hR
  go_enter Tryz.func35, Tryz.ntmps35
  go_wp2
  go_ret
  exact ⟨rfl, (Upd.set _ _ _ _).trans (Upd.set _ _ _ _), (Blk.set HR.out 2 (.int .i64 e)).set 3 (.int .i64 a)⟩
def Rs.nx : Rs → Nat
  | .inl _ => 0
  | .inr (_, i) => i
def Rs.fa : Rs → Nat
  | .inl (_, a) => a
  | .inr _ => 0
/-- A tag as the reference reads it: what is none by its class is told later. -/
def rtS (M : List Int) (p : Nat) : Rs := if M.getD p 0 % 32 = 31 then lng M (p + 1) 0 else .inr (M.getD p 0 % 32, p + 1)
set_option maxRecDepth 20000 in
set_option maxHeartbeats 4000000 in
theorem rtag_any {w : World} (g b off n c p q : Nat) (ov : Value) (M : List Int) (hR : Rdg w g b off n c ov 0 0) (hM : Rd .u8 w b off M) (uM : U8s M) (hMl : M.length = q) (hq : q ≤ n) (hn : n ≤ 16777216) (hp : p < q) :
    Calls Tryz.prog 63 #[.pointer (some ⟨g, 0, none⟩), .int .i64 (p : Int), .int .i64 (q : Int)] w fun e w' => e = .returned (.tuple #[.int .i64 (rtS M p).v, .int .i64 ((rtS M p).nx : Int)]) ∧ Upd w w' g ∧ Rdg w' g b off n c ov (rtS M p).e ((rtS M p).fa : Int) := by
  obtain ⟨x, hx⟩ : ∃ x, M.getD p 0 = x := ⟨_, rfl⟩
  have hu8 := uM.at p
  rw [hx] at hu8
  obtain ⟨O, hO⟩ : ∃ O, rtS M p = O := ⟨_, rfl⟩
  have c0 : w.cell? ⟨g, 0, none⟩ = some (.slice (some ⟨b, off, none⟩) n c) := hR.cell 0
  have HX : Hid (Rdg w g b off n c ov 0 0 ∧ Rd .u8 w b off M ∧ U8s M ∧ M.length = q ∧ M.getD p 0 = x ∧ U8 x ∧ rtS M p = O) := ⟨hR, hM, uM, hMl, hx, hu8, hO⟩
  have cx : w.cell? ⟨b, off + p, none⟩ = some (.int .u8 x) := by rw [hM p (by omega), hx]
  have x0 := hu8.1
  have x1 := hu8.2
  have e31 := and_31u x hu8
  rw [hO]
  clear hR hM uM hMl hx hu8 hO
  have hpI : (p : Int) < (n : Int) := by omega
  have hpN : p < n := by omega
  have hnI : (n : Int) ≤ 16777216 := by omega
  obtain ⟨r, hr⟩ : ∃ r, x % 32 = r := ⟨_, rfl⟩
  rw [hr] at e31
  have HR : Hid (x % 32 = r) := hr
  have r0 : 0 ≤ r := by omega
  have r1 : r ≤ 31 := by omega
  by_cases q1 : r = 31
  · subst q1
    have HO : Hid (lng M (p + 1) 0 = O) := by show _ = _; rw [← HX.out.2.2.2.2.2.2]; unfold rtS; rw [HX.out.2.2.2.2.1, if_pos hr]
    clear hr
    go_enter Tryz.func63, Tryz.ntmps63
    go_wp2_with fail
    go_loopw [8, 9, 10] (fun nv iv xv wr => ∃ (i : Nat) (t : Int), nv = .int .i64 t ∧ iv = .int .i64 i ∧ p + 1 ≤ i ∧ i ≤ q ∧ 0 ≤ t ∧ t ≤ 268435455 ∧ (i = p + 1 → t = 0) ∧ (p + 1 < i → 1 ≤ t) ∧ lng M i t = O ∧ w = wr) (fun _ iv _ _ => q - (intOf iv).toNat)
    case atStart => exact ⟨p + 1, 0, rfl, by go_num, by omega, by omega, by decide, by decide, fun _ => rfl, by omega, HO.out, rfl⟩
    case round =>
      obtain ⟨i, t, rfl, rfl, hi1, hi, t0, t1, ht0, ht1, hl, rfl⟩ := hrel
      have H1 : Hid ((i = p + 1 → t = 0) ∧ (p + 1 < i → 1 ≤ t) ∧ lng M i t = O) := ⟨ht0, ht1, hl⟩
      clear ht0 ht1 hl cx e31
      by_cases hlt : i < q
      · have l1 : ¬ (q : Int) ≤ (i : Int) := by omega
        obtain ⟨y, hy⟩ : ∃ y, M.getD i 0 = y := ⟨_, rfl⟩
        have hyu := HX.out.2.2.1.at i
        rw [hy] at hyu
        have y0 := hyu.1
        have y1 := hyu.2
        have cy : w.cell? ⟨b, off + i, none⟩ = some (.int .u8 y) := by rw [HX.out.2.1 i (by have := HX.out.2.2.2.1; omega), hy]
        have hiI : (i : Int) < (n : Int) := by omega
        have hiN : i < n := by omega
        obtain ⟨z, hz⟩ : ∃ z, y % 128 = z := ⟨_, rfl⟩
        obtain ⟨t', ht'⟩ : ∃ t', t * 128 + z = t' := ⟨_, rfl⟩
        have HS : Hid (O = if t' = 0 ∨ 268435455 < t' ∨ (y < 128 ∧ t' < 31) then .inl (30, i) else if y < 128 then .inr (t', (i + 1)) else lng M (i + 1) t') := by
          show _ = _
          rw [← H1.out.2.2]
          exact lng_step (by have := HX.out.2.2.2.1; omega) hy (by omega)
        have HZ : Hid (y % 128 = z ∧ t * 128 + z = t') := ⟨hz, ht'⟩
        have z0 : 0 ≤ z := by omega
        have z1 : z ≤ 127 := by omega
        have t20 : 0 ≤ t' := by omega
        have t21 : t' ≤ 34359738367 := by omega
        have HT : Hid (i ≠ p + 1 ∨ y ≠ 128 → y ≥ 128 → 1 ≤ t') := by
          intro h1 h2
          by_cases h3 : i = p + 1
          · have := H1.out.1 h3; omega
          · have := H1.out.2.1 (by omega); omega
        have HZ0 : Hid (t' = 0 → i = p + 1 ∧ (y = 128 ∨ y < 128)) := by
          intro h0
          by_cases h3 : i = p + 1
          · have := H1.out.1 h3; exact ⟨h3, by omega⟩
          · have := H1.out.2.1 (by omega); omega
        clear hy hyu
        have HNO : Hid (O = .inl (30, i) → ∀ W : World, W = w → Calls Tryz.prog 35 #[.pointer (some ⟨g, 0, none⟩), .int .i64 30, .int .i64 (i : Int)] W fun r w' => r = .returned (.int .i64 0) ∧ Upd w w' g ∧ Rdg w' g b off n c ov O.e (O.fa : Int)) := by
          rintro h W rfl; rw [h]; exact no_any g b off n c ov 0 0 30 i HX.out.1
        by_cases q3 : i = p + 1 ∧ y = 128
        · obtain ⟨q3, q3y⟩ := q3
          have q3yb : (y == 128) = true := by simpa using q3y
          have HY : Hid (y = 128) := q3y
          clear q3y
          have q3I : ((i : Int) == (p : Int) + 1) = true := by simp; omega
          have ht0 : t' = 0 := by have := H1.out.1 q3; have := HZ.out; have := HY.out; omega
          have HE : Hid (O = .inl (30, i)) := by show _ = _; rw [HS.out, if_pos (.inl ht0)]
          clear ht0 q3
          go_wp2_with (go_at_call 35; refine (HNO.out HE.out _ rfl).mono ?_; rintro e w1 ⟨rfl, hu, hr1⟩)
          go_ret2
          refine ⟨?_, hu, hr1⟩
          rw [HE.out]; rfl
        have q3b : ((i : Int) == (p : Int) + 1) = false ∨ (((i : Int) == (p : Int) + 1) = true ∧ (y == 128) = false) := by
          by_cases h3 : i = p + 1
          · right; refine ⟨by simp; omega, ?_⟩; simp; omega
          · left; simp; omega
        by_cases q2 : 268435455 < t'
        · have HE : Hid (O = .inl (30, i)) := by show _ = _; rw [HS.out, if_pos (by omega)]
          rcases q3b with q3b | ⟨q3I, q3b⟩
          all_goals
            go_wp2_with (go_at_call 35; refine (HNO.out HE.out _ rfl).mono ?_; rintro e w1 ⟨rfl, hu, hr1⟩)
            go_ret2
            refine ⟨?_, hu, hr1⟩
            rw [HE.out]; rfl
        rcases q3b with q3b | ⟨q3I, q3b⟩
        all_goals
          by_cases q4 : y < 128
          · by_cases q5 : t' < 31
            · have HE : Hid (O = .inl (30, i)) := by show _ = _; rw [HS.out, if_pos (by omega)]
              go_wp2_with (go_at_call 35; refine (HNO.out HE.out _ rfl).mono ?_; rintro e w1 ⟨rfl, hu, hr1⟩)
              go_ret2
              refine ⟨?_, hu, hr1⟩
              rw [HE.out]; rfl
            · have HE : Hid (O = .inr (t', i + 1)) := by show _ = _; rw [HS.out, if_neg (by have := HZ0.out; omega), if_pos q4]
              go_wp2
              go_ret2
              rw [HE.out]
              exact ⟨rfl, Upd.refl _ _, HX.out.1⟩
          · go_wp2
            go_roundw
            case rel =>
              have h1 : 1 ≤ t' := HT.out (by omega) (by omega)
              refine ⟨i + 1, t', rfl, by go_num, by omega, by omega, t20, by omega, by omega, fun _ => h1, ?_, trivial⟩
              have h2 := HS.out
              rw [if_neg (by omega), if_neg (by omega)] at h2
              exact h2.symm
            case measure => simp [intOf]; omega
      · obtain rfl : i = q := by omega
        have l1 : (i : Int) ≤ (i : Int) := Int.le_refl _
        have HE : Hid (O = .inl (2, i)) := by
          show _ = _
          rw [← H1.out.2.2, lng_end (by have := HX.out.2.2.2.1; omega), HX.out.2.2.2.1]
        go_wp2_with (go_at_call 35; refine (no_any g b off n c ov 0 0 2 i HX.out.1).mono ?_; rintro e w1 ⟨rfl, hu, hr1⟩)
        go_ret2
        rw [HE.out]
        exact ⟨rfl, hu, hr1⟩
  have q1b : (r != 31) = true := by simpa using q1
  have HO : Hid (O = .inr (r, (p + 1))) := by show _ = _; rw [← HX.out.2.2.2.2.2.2]; unfold rtS; rw [HX.out.2.2.2.2.1, hr, if_neg q1]
  clear hr q1
  go_enter Tryz.func63, Tryz.ntmps63
  go_wp2
  go_ret2
  rw [HO.out]
  exact ⟨rfl, Upd.refl _ _, HX.out.1⟩
end Go.Proofs.YtefebamomdcaaaaGreatDoor
/-
  Ber: the reference's length.
-/
namespace Go.Proofs.YtefebamomdcaaaaGreatDoor
open Go.RowKit
set_option maxRecDepth 20000 in
set_option maxHeartbeats 4000000 in
theorem rlength_any {w : World} (g b off n c p q : Nat) (ov : Value) (co : Bool) (M : List Int) (hR : Rdg w g b off n c ov 0 0) (hM : Rd .u8 w b off M) (uM : U8s M) (hMl : M.length = q) (hq : q ≤ n) (hn : n ≤ 16777216) (hp : p ≤ q) :
    Calls Tryz.prog 64 #[.pointer (some ⟨g, 0, none⟩), .int .i64 (p : Int), .int .i64 (q : Int), .bool co] w fun e w' => e = .returned (.tuple #[.int .i64 (blen M p co).v, .int .i64 ((blen M p co).nx : Int)]) ∧ Upd w w' g ∧ Rdg w' g b off n c ov (blen M p co).e ((blen M p co).fa : Int) := by
  obtain ⟨O, hO⟩ : ∃ O, blen M p co = O := ⟨_, rfl⟩
  have c0 : w.cell? ⟨g, 0, none⟩ = some (.slice (some ⟨b, off, none⟩) n c) := hR.cell 0
  have HX : Hid (Rdg w g b off n c ov 0 0 ∧ Rd .u8 w b off M ∧ U8s M ∧ M.length = q ∧ blen M p co = O) := ⟨hR, hM, uM, hMl, hO⟩
  rw [hO]
  have HNO : Hid (∀ (er : Int) (at_ : Nat), O = .inl (er, at_) → ∀ W : World, W = w → Calls Tryz.prog 35 #[.pointer (some ⟨g, 0, none⟩), .int .i64 er, .int .i64 (at_ : Int)] W fun r w' => r = .returned (.int .i64 0) ∧ Upd w w' g ∧ Rdg w' g b off n c ov O.e (O.fa : Int)) := by
    rintro er at_ h W rfl; rw [h]; exact no_any g b off n c ov 0 0 er at_ HX.out.1
  clear hR hM uM hMl hO
  have hnI : (n : Int) ≤ 16777216 := by omega
  by_cases hlt : p < q
  case neg =>
    obtain rfl : p = q := by omega
    have HE : Hid (O = .inl (2, p)) := by show _ = _; rw [← HX.out.2.2.2.2, blen_end (by have := HX.out.2.2.2.1; omega), HX.out.2.2.2.1]
    have l1 : (p : Int) ≤ (p : Int) := Int.le_refl _
    go_enter Tryz.func64, Tryz.ntmps64
    go_wp2_with (go_at_call 35; refine (HNO.out 2 p HE.out _ rfl).mono ?_; rintro e w1 ⟨rfl, hu, hr1⟩)
    go_ret2
    refine ⟨?_, hu, hr1⟩
    rw [HE.out]; rfl
  have l0 : ¬ (q : Int) ≤ (p : Int) := by omega
  obtain ⟨x, hx⟩ : ∃ x, M.getD p 0 = x := ⟨_, rfl⟩
  have hu8 := HX.out.2.2.1.at p
  rw [hx] at hu8
  have x0 := hu8.1
  have x1 := hu8.2
  have cx : w.cell? ⟨b, off + p, none⟩ = some (.int .u8 x) := by rw [HX.out.2.1 p (by have := HX.out.2.2.2.1; omega), hx]
  have HU : Hid (U8 x ∧ M.getD p 0 = x ∧ p < M.length) := ⟨hu8, hx, by have := HX.out.2.2.2.1; omega⟩
  clear hx hu8
  have hpI : (p : Int) < (n : Int) := by omega
  have hpN : p < n := by omega
  have hqI : (p : Int) < (q : Int) := by omega
  by_cases qa : x = 255
  · have HE : Hid (O = .inl (31, p)) := by show _ = _; rw [← HX.out.2.2.2.2, blen_ff HU.out.2.2 HU.out.2.1 (.inl qa)]
    have qb : (x == 255) = true := by simpa using qa
    clear qa
    go_enter Tryz.func64, Tryz.ntmps64
    go_wp2_with (go_at_call 35; refine (HNO.out 31 p HE.out _ rfl).mono ?_; rintro e w1 ⟨rfl, hu, hr1⟩)
    go_ret2
    refine ⟨?_, hu, hr1⟩
    rw [HE.out]; rfl
  have qb : (x == 255) = false := by simpa using qa
  by_cases qc : x = 128
  · have HXC : Hid (x = 128) := qc
    have qd : (x == 128) = true := by simpa using qc
    clear qc
    cases co with
    | false =>
      have HE : Hid (O = .inl (31, p)) := by show _ = _; rw [← HX.out.2.2.2.2, blen_ff HU.out.2.2 HU.out.2.1 (.inr ⟨HXC.out, rfl⟩)]
      go_enter Tryz.func64, Tryz.ntmps64
      go_wp2_with (go_at_call 35; refine (HNO.out 31 p HE.out _ rfl).mono ?_; rintro e w1 ⟨rfl, hu, hr1⟩)
      go_ret2
      refine ⟨?_, hu, hr1⟩
      rw [HE.out]; rfl
    | true =>
      have HE : Hid (O = .inr (-1, p + 1)) := by show _ = _; rw [← HX.out.2.2.2.2, blen_open HU.out.2.2 HU.out.2.1 HXC.out]
      go_enter Tryz.func64, Tryz.ntmps64
      go_wp2
      go_ret2
      rw [HE.out]
      exact ⟨rfl, Upd.refl _ _, HX.out.1⟩
  have qd : (x == 128) = false := by simpa using qc
  by_cases qe : x < 128
  · have HB : Hid (O = if (q : Int) < p + 1 + x then .inl (31, p) else .inr (x, p + 1)) := by
      show _ = _
      rw [← HX.out.2.2.2.2, blen_lo HU.out.2.2 HU.out.2.1 qe, HX.out.2.2.2.1]
    by_cases qf : (q : Int) - (p : Int) - 1 < x
    · have HE : Hid (O = .inl (31, p)) := by show _ = _; rw [HB.out, if_pos (by omega)]
      go_enter Tryz.func64, Tryz.ntmps64
      go_wp2_with (go_at_call 35; refine (HNO.out 31 p HE.out _ rfl).mono ?_; rintro e w1 ⟨rfl, hu, hr1⟩)
      go_ret2
      refine ⟨?_, hu, hr1⟩
      rw [HE.out]; rfl
    · have HE : Hid (O = .inr (x, p + 1)) := by show _ = _; rw [HB.out, if_neg (by omega)]
      go_enter Tryz.func64, Tryz.ntmps64
      go_wp2
      go_ret2
      rw [HE.out]
      exact ⟨rfl, Upd.refl _ _, HX.out.1⟩
  · obtain ⟨k, hk⟩ : ∃ k : Nat, x - 128 = k := ⟨(x - 128).toNat, by omega⟩
    have k1 : k ≤ 127 := by omega
    obtain ⟨F, hF⟩ : ∃ F, fold8 M (p + 1) k = F := ⟨_, rfl⟩
    have HE : Hid (O = if q < p + 1 + k then .inl (2, q) else if (q : Int) - (p + 1 + k : Nat) < F then .inl (31, p) else .inr (F, p + 1 + k)) := by
      show _ = _
      rw [← HX.out.2.2.2.2, blen_hi HU.out.2.2 HU.out.2.1 (by omega) (by omega) hk, ← hF]
      unfold numS
      rw [HX.out.2.2.2.1]
      by_cases h : q < p + 1 + k
      · rw [if_pos h, if_pos h]; rfl
      · rw [if_neg h, if_neg h]; rfl
    have hFb := fold8_bd HX.out.2.2.1 (p + 1) k
    rw [hF] at hFb
    obtain ⟨F0, F1⟩ := hFb
    have HFD : Hid (fold8 M (p + 1) k = F) := hF
    clear hF
    have HK : Hid (x - 128 = (k : Int)) := hk
    obtain ⟨p1, hp1⟩ : ∃ p1, p + 1 = p1 := ⟨_, rfl⟩
    have p1I : (p : Int) + 1 = (p1 : Int) := by omega
    have pkI : (p : Int) + (k : Int) = (p1 : Int) + (k : Int) - 1 := by omega
    have HP1 : Hid (p + 1 = p1) := hp1
    by_cases q3 : q < p1 + k
    · have HE2 : Hid (O = .inl (2, q)) := by show _ = _; rw [HE.out, if_pos (by omega)]
      have q3I : (q : Int) < (p1 : Int) + (k : Int) := by omega
      clear hp1
      go_enter Tryz.func64, Tryz.ntmps64
      go_wp2_with (go_at_call 35; refine (HNO.out 2 q HE2.out _ rfl).mono ?_; rintro e w1 ⟨rfl, hu, hr1⟩)
      go_ret2
      refine ⟨?_, hu, hr1⟩
      rw [HE2.out]; rfl
    have q3I : ¬ (q : Int) < (p1 : Int) + (k : Int) := by omega
    clear hp1
    go_enter Tryz.func64, Tryz.ntmps64
    go_wp2_with fail
    go_loopw [12, 13] (fun nv iv wr => ∃ (m i : Nat) (t : Int), nv = .int .i64 t ∧ iv = .int .i64 i ∧ m ≤ k ∧ i = p1 + m ∧ 0 ≤ t ∧ t ≤ 16777217 ∧ fold8 M p1 m = t ∧ w = wr) (fun _ iv _ => p1 + k - (intOf iv).toNat)
    case atStart => exact ⟨0, p1, 0, rfl, by go_num, by omega, rfl, by decide, by decide, rfl, rfl⟩
    case round =>
      obtain ⟨m, i, t, rfl, rfl, hm, him, t0, t1, hl, rfl⟩ := hrel
      have H1 : Hid (fold8 M p1 m = t ∧ i = p1 + m) := ⟨hl, him⟩
      clear hl
      by_cases hlt2 : m < k
      · have l1 : (i : Int) ≤ (p1 : Int) + (k : Int) - 1 := by omega
        have l2 : (i : Int) < (n : Int) := by omega
        have l2N : i < n := by omega
        obtain ⟨y, hy⟩ : ∃ y, M.getD i 0 = y := ⟨_, rfl⟩
        have hyu := HX.out.2.2.1.at i
        rw [hy] at hyu
        have y0 := hyu.1
        have y1 := hyu.2
        have cy : w.cell? ⟨b, off + i, none⟩ = some (.int .u8 y) := by rw [HX.out.2.1 i (by have := HX.out.2.2.2.1; omega), hy]
        have HF : Hid (fold8 M p1 (m + 1) = min (t * 256 + y) 16777217) := by
          show _ = _
          rw [fold8_at (M := M) (x := y) p1 m (by rw [← H1.out.2]; exact hy), H1.out.1]
        clear hy hyu
        obtain ⟨t2, ht2⟩ : ∃ t2, t * 256 + y = t2 := ⟨_, rfl⟩
        have HT2 : Hid (t * 256 + y = t2) := ht2
        have t20 : 0 ≤ t2 := by omega
        have t21 : t2 ≤ 4294968000 := by omega
        clear him
        by_cases q4 : 16777216 < t2
        · go_wp2
          go_roundw
          case rel => exact ⟨m + 1, i + 1, 16777217, rfl, by go_num, by omega, by have := H1.out.2; omega, by decide, by decide, by rw [HF.out, HT2.out]; omega, trivial⟩
          case measure => simp [intOf]; omega
        · go_wp2
          go_roundw
          case rel => exact ⟨m + 1, i + 1, t2, rfl, by go_num, by omega, by have := H1.out.2; omega, t20, by omega, by rw [HF.out, HT2.out]; omega, trivial⟩
          case measure => simp [intOf]; omega
      · obtain rfl : m = k := by omega
        have l1 : ¬ (i : Int) ≤ (p1 : Int) + (m : Int) - 1 := by omega
        obtain rfl : F = t := by rw [← HFD.out, HP1.out, H1.out.1]
        have nl : Hid (¬ q < p + 1 + m) := by have := HP1.out; exact (by omega : ¬ q < p + 1 + m)
        clear him
        by_cases q6 : (q : Int) - (p : Int) - 1 - (m : Int) < F
        · have HE2 : Hid (O = .inl (31, p)) := by show _ = _; rw [HE.out, if_neg nl.out, if_pos (by omega)]
          go_wp2_with (go_at_call 35; refine (HNO.out 31 p HE2.out _ rfl).mono ?_; rintro e w1 ⟨rfl, hu, hr1⟩)
          go_ret2
          refine ⟨?_, hu, hr1⟩
          rw [HE2.out]; rfl
        · have HE2 : Hid (O = .inr (F, p + 1 + m)) := by show _ = _; rw [HE.out, if_neg nl.out, if_neg (by omega)]
          go_wp2
          go_ret2
          rw [HE2.out]
          refine ⟨?_, Upd.refl _ _, HX.out.1⟩
          simp [Rs.v, Rs.nx]; omega
end Go.Proofs.YtefebamomdcaaaaGreatDoor
