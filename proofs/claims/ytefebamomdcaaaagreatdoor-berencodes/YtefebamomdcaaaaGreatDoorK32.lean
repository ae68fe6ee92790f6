/-
  Ber: nodes of which each is told what it is made of, sorted set by set: over lists; no Go text in sight.
-/
import Derived.Test.YtefebamomdcaaaaGreatDoorK31
namespace Go.Proofs.YtefebamomdcaaaaGreatDoor
open Go.RowKit
/-- A row of nodes with right fronts and counts. -/
def Good : List Nv → Prop
  | [] => True
  | z :: r => Good r ∧ z.ct = 1 + (inn z.nd.1.dp (ndsOf r)).length ∧ z.nd.2 = frontB z.nd.1 (z.nd.1.d.length + byt (inn z.nd.1.dp (ndsOf r))) ∧ standB z.nd.1 = true ∧ (z.nd.1.co = false → inn z.nd.1.dp (ndsOf r) = []) ∧ z.nd.1.d.length + byt (inn z.nd.1.dp (ndsOf r)) < 281474976710656 ∧ hdOk z.nd.1.dp (ndsOf r)
/-- It begins no deeper than d. -/
def hdLe (d : Int) : List Nv → Prop
  | [] => True
  | y :: _ => y.nd.1.dp ≤ d
theorem inn_shut {d : Int} {B : List Nv} (hB : hdLe d B) : ∀ A : List Nv, inn d (ndsOf (A ++ B)) = inn d (ndsOf A)
  | [] => by
    cases B with
    | nil => rfl
    | cons y B => exact inn_cons_far (y := y.nd) (N := ndsOf B) (by have : y.nd.1.dp ≤ d := hB; omega)
  | x :: A => by
    show inn d (x.nd :: ndsOf (A ++ B)) = inn d (x.nd :: ndsOf A)
    by_cases h : d < x.nd.1.dp
    · rw [inn_cons_near h, inn_cons_near h, inn_shut hB A]
    · rw [inn_cons_far h, inn_cons_far h]
theorem hdOk_app {d : Int} {A B : List Nv} (hA : hdOk d (ndsOf A)) (hB : hdLe d B) : hdOk d (ndsOf (A ++ B)) := by
  cases A with
  | nil =>
    cases B with
    | nil => trivial
    | cons y B => have : y.nd.1.dp ≤ d := hB; show y.nd.1.dp ≤ d + 1; omega
  | cons x A => exact hA
theorem good_app : ∀ {A B : List Nv}, Good A → Good B → (∀ u ∈ A, hdLe u.nd.1.dp B) → Good (A ++ B)
  | [], _, _, hB, _ => hB
  | z :: r, B, hA, hB, hu => by
    obtain ⟨h1, h2, h3, h4, h5, h6, h7⟩ := hA
    have hz := hu z (List.mem_cons_self ..)
    have e := inn_shut hz r
    refine ⟨good_app h1 hB fun u h => hu u (List.mem_cons_of_mem _ h), ?_, ?_, h4, ?_, ?_, hdOk_app h7 hz⟩
    · show z.ct = 1 + (inn z.nd.1.dp (ndsOf (r ++ B))).length; rw [e]; exact h2
    · show z.nd.2 = frontB z.nd.1 (z.nd.1.d.length + byt (inn z.nd.1.dp (ndsOf (r ++ B)))); rw [e]; exact h3
    · show z.nd.1.co = false → inn z.nd.1.dp (ndsOf (r ++ B)) = []; rw [e]; exact h5
    · show z.nd.1.d.length + byt (inn z.nd.1.dp (ndsOf (r ++ B))) < _; rw [e]; exact h6
theorem good_left : ∀ {A B : List Nv}, Good (A ++ B) → (∀ u ∈ A, hdLe u.nd.1.dp B) → Good A
  | [], _, _, _ => trivial
  | z :: r, B, h, hu => by
    obtain ⟨h1, h2, h3, h4, h5, h6, h7⟩ := h
    have hz := hu z (List.mem_cons_self ..)
    have e := inn_shut hz r
    change z.ct = 1 + (inn z.nd.1.dp (ndsOf (r ++ B))).length at h2
    change z.nd.2 = frontB z.nd.1 (z.nd.1.d.length + byt (inn z.nd.1.dp (ndsOf (r ++ B)))) at h3
    change z.nd.1.co = false → inn z.nd.1.dp (ndsOf (r ++ B)) = [] at h5
    change z.nd.1.d.length + byt (inn z.nd.1.dp (ndsOf (r ++ B))) < _ at h6
    rw [e] at h2 h3 h5 h6
    refine ⟨good_left h1 fun u h => hu u (List.mem_cons_of_mem _ h), h2, h3, h4, h5, h6, ?_⟩
    cases r with
    | nil => trivial
    | cons y r => exact h7
theorem good_right : ∀ {A B : List Nv}, Good (A ++ B) → Good B
  | [], _, h => h
  | _ :: r, _, h => good_right (A := r) h.1
/-- What is deeper, cut off. -/
theorem inn_cut (d : Int) (r : List Nv) : ∃ A B, r = A ++ B ∧ inn d (ndsOf r) = ndsOf A ∧ (∀ u ∈ A, d < u.nd.1.dp) ∧ hdLe d B := by
  induction r with
  | nil => exact ⟨[], [], rfl, rfl, by simp, trivial⟩
  | cons y r ih =>
    by_cases h : d < y.nd.1.dp
    · obtain ⟨A, B, h1, h2, h3, h4⟩ := ih
      refine ⟨y :: A, B, by rw [h1]; rfl, ?_, fun u hu => ?_, h4⟩
      · show inn d (y.nd :: ndsOf r) = y.nd :: ndsOf A
        rw [inn_cons_near h, h2]
      · rcases List.mem_cons.1 hu with rfl | hu
        · exact h
        · exact h3 u hu
    · exact ⟨[], y :: r, rfl, inn_cons_far (y := y.nd) (N := ndsOf r) h, by simp, (by show y.nd.1.dp ≤ d; omega)⟩
/-- A part: its first node, and what that is made of. -/
def Prtn (e : Int) (x : List Nv) : Prop := Good x ∧ ∃ y s, x = y :: s ∧ y.nd.1.dp = e ∧ y.ct = x.length ∧ ∀ u ∈ s, e < u.nd.1.dp
theorem parts_of : ∀ (n : Nat) (r : List Nv) (e : Int), r.length ≤ n → Good r → (∀ u ∈ r, e ≤ u.nd.1.dp) → hdLe e r → ∃ G : List (List Nv), G.flatten = r ∧ (∀ x ∈ G, Prtn e x) ∧ G.length ≤ r.length
  | _, [], _, _, _, _, _ => ⟨[], rfl, by simp, by simp⟩
  | 0, _ :: _, _, h, _, _, _ => by simp at h
  | n + 1, y :: r, e, hn, hg, hd, hh => by
    have hy : y.nd.1.dp = e := by
      have h1 := hd y (List.mem_cons_self ..)
      have h2 : y.nd.1.dp ≤ e := hh
      omega
    obtain ⟨A, B, h1, h2, h3, h4⟩ := inn_cut e r
    subst h1
    simp only [List.length_cons, List.length_append] at hn
    have hct := hg.2.1
    rw [hy, h2] at hct
    have hgA : Good (y :: A) := by
      refine good_left (A := y :: A) (B := B) hg fun u hu => ?_
      have : e ≤ u.nd.1.dp := by
        rcases List.mem_cons.1 hu with rfl | hu
        · omega
        · have := h3 u hu; omega
      cases B with
      | nil => trivial
      | cons b B => have h5 : b.nd.1.dp ≤ e := h4; show b.nd.1.dp ≤ u.nd.1.dp; omega
    obtain ⟨G, k1, k2, k3⟩ := parts_of n B e (by omega) (good_right (A := y :: A) hg) (fun u hu => hd u (by simp [hu])) h4
    refine ⟨(y :: A) :: G, by rw [List.flatten_cons, k1]; rfl, fun x hx => ?_, by simp; omega⟩
    rcases List.mem_cons.1 hx with rfl | hx
    · exact ⟨hgA, y, A, rfl, hy, by rw [hct]; unfold ndsOf; rw [List.length_map, List.length_cons]; omega, h3⟩
    · exact k2 x hx
theorem inn_deep {d : Int} {A : List Nv} (h : ∀ u ∈ A, d < u.nd.1.dp) : inn d (ndsOf A) = ndsOf A := by
  induction A with
  | nil => rfl
  | cons y A ih =>
    show inn d (y.nd :: ndsOf A) = y.nd :: ndsOf A
    rw [inn_cons_near (h y (List.mem_cons_self ..)), ih fun u hu => h u (List.mem_cons_of_mem _ hu)]
theorem good_vN : ∀ {A : List Nv}, Good A → ∀ y ∈ ndsOf A, vN y
  | [], _, y, hy => by simp [ndsOf] at hy
  | z :: r, h, y, hy => by
    obtain ⟨h1, h2, h3, h4, h5, h6, h7⟩ := h
    rcases List.mem_cons.1 hy with rfl | hy
    · exact ⟨h4, _, h6, h3, fun hc => by rw [h5 hc]; simp [byt]⟩
    · exact good_vN h1 y hy
theorem part_wN {e : Int} {x : List Nv} (h : Prtn e x) : wN (ndsOf x) := by
  obtain ⟨hg, y, s, rfl, hy, hct, hs⟩ := h
  obtain ⟨h1, h2, h3, h4, h5, h6, h7⟩ := hg
  have e1 : inn y.nd.1.dp (ndsOf s) = ndsOf s := by rw [hy]; exact inn_deep hs
  rw [e1] at h3 h5 h6
  exact ⟨h4, h6, h3, h5, good_vN h1⟩
theorem byt_perm {A B : List Nv} (h : A.Perm B) : byt (ndsOf A) = byt (ndsOf B) := by
  induction h with
  | nil => rfl
  | cons x _ ih => simp only [ndsOf, List.map_cons, byt] at ih ⊢; omega
  | swap x y l => simp only [ndsOf, List.map_cons, byt]; omega
  | trans _ _ h1 h2 => omega
theorem parts_good {e : Int} : ∀ {G : List (List Nv)} {B : List Nv}, (∀ x ∈ G, Prtn e x) → Good B → hdLe e B → Good (G.flatten ++ B) ∧ hdLe e (G.flatten ++ B)
  | [], _, _, hB, hh => ⟨hB, hh⟩
  | x :: G, B, hG, hB, hh => by
    have ih := parts_good (G := G) (B := B) (fun y hy => hG y (List.mem_cons_of_mem _ hy)) hB hh
    obtain ⟨hg, y, s, rfl, hy, hct, hs⟩ := hG x (List.mem_cons_self ..)
    rw [List.flatten_cons, List.append_assoc]
    refine ⟨good_app hg ih.1 fun u hu => ?_, (by show y.nd.1.dp ≤ e; omega)⟩
    have : e ≤ u.nd.1.dp := by
      rcases List.mem_cons.1 hu with rfl | hu
      · omega
      · have := hs u hu; omega
    have h2 := ih.2
    cases hc : G.flatten ++ B with
    | nil => trivial
    | cons b C => rw [hc] at h2; have h5 : b.nd.1.dp ≤ e := h2; show b.nd.1.dp ≤ u.nd.1.dp; omega
/-- The suffix of a row, sorted set by set. -/
def SufR : List Nv → List Nv → Prop
  | [], R => R = []
  | z :: r, R => ∃ r', SufR r r' ∧ ((isB z.nd.1 17 = false ∧ R = z :: r') ∨ (isB z.nd.1 17 = true ∧ ∃ G G' : List (List Nv), G.flatten = r'.take (z.ct - 1) ∧ (∀ x ∈ G, ∃ y s, x = y :: s ∧ y.ct = x.length) ∧ G'.Perm G ∧ Srt G' ∧ R = z :: (G'.flatten ++ r'.drop (z.ct - 1))))
/-- What a set is made of, and what stands behind it. -/
theorem set_parts {z : Nv} {r : List Nv} (h : Good (z :: r)) : ∃ G : List (List Nv), ∃ B, r = G.flatten ++ B ∧ G.flatten = r.take (z.ct - 1) ∧ B = r.drop (z.ct - 1) ∧ (∀ x ∈ G, Prtn (z.nd.1.dp + 1) x) ∧ hdLe z.nd.1.dp B ∧ G.flatten.length = z.ct - 1 ∧ G.length ≤ r.length := by
  obtain ⟨A, B, h1, h2, h3, h4⟩ := inn_cut z.nd.1.dp r
  subst h1
  have hg := h.1
  have hct := h.2.1
  rw [h2] at hct
  unfold ndsOf at hct
  rw [List.length_map] at hct
  have h7 := h.2.2.2.2.2.2
  have hgA : Good A := good_left hg fun u hu => by
    have h8 := h3 u hu
    cases B with
    | nil => trivial
    | cons b B => have h5 : b.nd.1.dp ≤ z.nd.1.dp := h4; show b.nd.1.dp ≤ u.nd.1.dp; omega
  obtain ⟨G, k1, k2, k3⟩ := parts_of A.length A (z.nd.1.dp + 1) (Nat.le_refl _) hgA (fun u hu => by have := h3 u hu; omega) (by
    cases A with
    | nil => trivial
    | cons y A => exact h7)
  refine ⟨G, B, by rw [k1], ?_, ?_, k2, h4, by rw [k1]; omega, by rw [List.length_append]; omega⟩
  · rw [k1, show z.ct - 1 = A.length by omega, List.take_left]
  · rw [show z.ct - 1 = A.length by omega, List.drop_left]
/-- A set whose parts are turned about. -/
theorem set_good {z : Nv} {G G' : List (List Nv)} {B : List Nv} (h : Good (z :: (G.flatten ++ B))) (hG : ∀ x ∈ G, Prtn (z.nd.1.dp + 1) x) (hB : hdLe z.nd.1.dp B) (hp : G'.Perm G) : Good (z :: (G'.flatten ++ B)) := by
  obtain ⟨h1, h2, h3, h4, h5, h6, h7⟩ := h
  have hG' : ∀ x ∈ G', Prtn (z.nd.1.dp + 1) x := fun x hx => hG x (hp.mem_iff.1 hx)
  have hB' : hdLe (z.nd.1.dp + 1) B := by
    cases B with
    | nil => trivial
    | cons b B => have h5 : b.nd.1.dp ≤ z.nd.1.dp := hB; show b.nd.1.dp ≤ _; omega
  have deep : ∀ {H : List (List Nv)}, (∀ x ∈ H, Prtn (z.nd.1.dp + 1) x) → ∀ u ∈ H.flatten, z.nd.1.dp < u.nd.1.dp := fun hH u hu => by
    obtain ⟨x, hx, hu⟩ := List.mem_flatten.1 hu
    obtain ⟨_, y, s, rfl, hy, _, hs⟩ := hH x hx
    rcases List.mem_cons.1 hu with rfl | hu
    · omega
    · have := hs u hu; omega
  have e1 : inn z.nd.1.dp (ndsOf (G.flatten ++ B)) = ndsOf G.flatten := by rw [inn_shut hB, inn_deep (deep hG)]
  have e2 : inn z.nd.1.dp (ndsOf (G'.flatten ++ B)) = ndsOf G'.flatten := by rw [inn_shut hB, inn_deep (deep hG')]
  have hpf : G'.flatten.Perm G.flatten := hp.flatten
  have e3 := byt_perm hpf
  have e4 : (ndsOf G'.flatten).length = (ndsOf G.flatten).length := by unfold ndsOf; rw [List.length_map, List.length_map, hpf.length_eq]
  have pg := parts_good hG' (good_right (A := G.flatten) h1) hB'
  refine ⟨pg.1, ?_, ?_, h4, ?_, ?_, ?_⟩
  · rw [e2, e4, ← e1]; exact h2
  · rw [e2, e3, ← e1]; exact h3
  · intro hc
    rw [e2]
    have := h5 hc
    rw [e1] at this
    exact List.eq_nil_of_length_eq_zero (by rw [e4, this]; rfl)
  · rw [e2, e3, ← e1]; exact h6
  · have h8 := pg.2
    cases hc : G'.flatten ++ B with
    | nil => trivial
    | cons b C => rw [hc] at h8; exact h8
theorem MeasZ.good : ∀ {Y : List Tv} {Z : List Nv}, MeasZ Y Z → (∀ i (h : i < (Y.map fun y : Tv => y.1).length), standB (Y.map fun y : Tv => y.1)[i] = true ∧ hdOk (Y.map fun y : Tv => y.1)[i].dp (nds ((Y.map fun y : Tv => y.1).drop (i + 1)))) → (∀ i (h : i < (Y.map fun y : Tv => y.1).length), (Y.map fun y : Tv => y.1)[i].co = false → byt (inn (Y.map fun y : Tv => y.1)[i].dp (nds ((Y.map fun y : Tv => y.1).drop (i + 1)))) = 0) → byt (nds (Y.map fun y : Tv => y.1)) < 281474976710656 → Good Z
  | [], [], _, _, _, _ => trivial
  | [], _ :: _, h, _, _, _ => h.elim
  | _ :: _, [], h, _, _, _ => h.elim
  | y :: r, z :: Z, h, hs, hc, hb => by
    obtain ⟨h1, h2, h3, h4, h5⟩ := h
    have hr : ndsOf Z = nds (r.map fun y : Tv => y.1) := MeasZ.row h1
    have s0 := hs 0 (by simp)
    have c0 := hc 0 (by simp)
    simp only [List.map_cons, List.getElem_cons_zero, Nat.zero_add, List.drop_succ_cons, List.drop_zero] at s0 c0
    have hz1 : z.nd.1 = y.1 := by rw [h3]
    have hi := inn_le y.1.dp (nds (r.map fun y : Tv => y.1))
    simp only [List.map_cons, nds, byt, ndL] at hb
    refine ⟨MeasZ.good h1 (fun i hi => by have := hs (i + 1) (by simpa using hi); simpa using this) (fun i hi => by have := hc (i + 1) (by simpa using hi); simpa using this) (by omega), ?_, ?_, ?_, ?_, ?_, ?_⟩
    · rw [hz1, hr]; exact h5
    · rw [hz1, hr, h3]
    · rw [hz1]; exact s0.1
    · rw [hz1, hr]
      intro hco
      have h0 := c0 hco
      cases hin : inn y.1.dp (nds (r.map fun y : Tv => y.1)) with
      | nil => rfl
      | cons u U =>
        exfalso
        rw [hin] at h0
        have hu : u ∈ nds (r.map fun y : Tv => y.1) := by
          have : u ∈ inn y.1.dp (nds (r.map fun y : Tv => y.1)) := by rw [hin]; exact List.mem_cons_self ..
          unfold inn at this
          exact (List.takeWhile_sublist _).subset this
        have hfp : ∀ (L : List Te), ∀ u ∈ nds L, 0 < ndL u := by
          intro L
          induction L with
          | nil => intro u hu; simp [nds] at hu
          | cons x L ih =>
            intro u hu
            rcases List.mem_cons.1 hu with rfl | hu
            · unfold ndL; have := front_pos x (x.d.length + byt (inn x.dp (nds L))); simp only []; omega
            · exact ih u hu
        have := hfp _ u hu
        simp only [byt] at h0
        omega
    · rw [hz1, hr]; omega
    · rw [hz1, hr]; exact s0.2
end Go.Proofs.YtefebamomdcaaaaGreatDoor
/-
  Ber: sortSets walked.
-/
namespace Go.Proofs.YtefebamomdcaaaaGreatDoor
open Go.RowKit
theorem ndCells_take (Z : List Nv) (k : Nat) : (ndCells Z).take (k * 8) = ndCells (Z.take k) := by
  have e : ndCells Z = ndCells (Z.take k) ++ ndCells (Z.drop k) := by rw [← ndCells_app, List.take_append_drop]
  by_cases h : k ≤ Z.length
  · rw [e, List.take_append_of_le_length (by rw [ndCells_len, List.length_take]; omega), List.take_of_length_le (by rw [ndCells_len, List.length_take]; omega)]
  · rw [List.take_of_length_le (by rw [ndCells_len]; omega), List.take_of_length_le (by omega)]
theorem ndCells_drop (Z : List Nv) (k : Nat) : (ndCells Z).drop (k * 8) = ndCells (Z.drop k) := by
  have e : ndCells Z = ndCells (Z.take k) ++ ndCells (Z.drop k) := by rw [← ndCells_app, List.take_append_drop]
  by_cases h : k ≤ Z.length
  · conv => lhs; rw [e]
    rw [List.drop_append_of_le_length (by rw [ndCells_len, List.length_take]; omega), List.drop_of_length_le (by rw [ndCells_len, List.length_take]; omega), List.nil_append]
  · rw [List.drop_of_length_le (by rw [ndCells_len]; omega), List.drop_of_length_le (by omega)]
    rfl
/-- Two rows between which nothing ahead of them can tell. -/
def Eqv (X X' : List Nv) : Prop := ∀ d, (inn d (ndsOf X)).length = (inn d (ndsOf X')).length ∧ byt (inn d (ndsOf X)) = byt (inn d (ndsOf X'))
theorem Eqv.cons {X X' : List Nv} (h : Eqv X X') (u : Nv) : Eqv (u :: X) (u :: X') := fun d => by
  show (inn d (u.nd :: ndsOf X)).length = (inn d (u.nd :: ndsOf X')).length ∧ byt (inn d (u.nd :: ndsOf X)) = byt (inn d (u.nd :: ndsOf X'))
  by_cases hd : d < u.nd.1.dp
  · rw [inn_cons_near hd, inn_cons_near hd]
    simp only [List.length_cons, byt]
    have := h d
    omega
  · rw [inn_cons_far hd, inn_cons_far hd]; exact ⟨rfl, rfl⟩
theorem Eqv.app {X X' : List Nv} (h : Eqv X X') : ∀ A : List Nv, Eqv (A ++ X) (A ++ X')
  | [] => h
  | u :: A => (Eqv.app h A).cons u
theorem inn_deep_app {d : Int} {A : List Nv} (h : ∀ u ∈ A, d < u.nd.1.dp) (B : List Nv) : inn d (ndsOf (A ++ B)) = ndsOf A ++ inn d (ndsOf B) := by
  induction A with
  | nil => rfl
  | cons y A ih =>
    show inn d (y.nd :: ndsOf (A ++ B)) = y.nd :: (ndsOf A ++ inn d (ndsOf B))
    rw [inn_cons_near (h y (List.mem_cons_self ..)), ih fun u hu => h u (List.mem_cons_of_mem _ hu)]
theorem parts_deep {e : Int} {H : List (List Nv)} (hH : ∀ x ∈ H, Prtn e x) : ∀ u ∈ H.flatten, e ≤ u.nd.1.dp := fun u hu => by
  obtain ⟨x, hx, hu⟩ := List.mem_flatten.1 hu
  obtain ⟨_, y, s, rfl, hy, _, hs⟩ := hH x hx
  rcases List.mem_cons.1 hu with rfl | hu
  · omega
  · have := hs u hu; omega
theorem eqv_set {z : Nv} {G G' : List (List Nv)} {B : List Nv} (hG : ∀ x ∈ G, Prtn (z.nd.1.dp + 1) x) (hp : G'.Perm G) : Eqv (z :: (G.flatten ++ B)) (z :: (G'.flatten ++ B)) := fun d => by
  have hG' : ∀ x ∈ G', Prtn (z.nd.1.dp + 1) x := fun x hx => hG x (hp.mem_iff.1 hx)
  have d1 := parts_deep hG
  have d2 := parts_deep hG'
  show (inn d (z.nd :: ndsOf (G.flatten ++ B))).length = (inn d (z.nd :: ndsOf (G'.flatten ++ B))).length ∧ byt (inn d (z.nd :: ndsOf (G.flatten ++ B))) = byt (inn d (z.nd :: ndsOf (G'.flatten ++ B)))
  by_cases hd : d < z.nd.1.dp
  · rw [inn_cons_near hd, inn_cons_near hd, inn_deep_app (fun u hu => by have := d1 u hu; omega), inn_deep_app (fun u hu => by have := d2 u hu; omega)]
    have h1 := byt_perm hp.flatten
    have h2 := hp.flatten.length_eq
    simp only [List.length_cons, List.length_append, byt, byt_app, ndsOf, List.length_map] at h1 ⊢
    omega
  · rw [inn_cons_far hd, inn_cons_far hd]; exact ⟨rfl, rfl⟩
theorem good_swap {z : Nv} {X X' : List Nv} (he : Eqv (z :: X) (z :: X')) (hg : Good (z :: X')) : ∀ A : List Nv, Good (A ++ z :: X) → Good (A ++ z :: X')
  | [], _ => hg
  | u :: A, h => by
    obtain ⟨h1, h2, h3, h4, h5, h6, h7⟩ := h
    have e := he.app A u.nd.1.dp
    refine ⟨good_swap he hg A h1, ?_, ?_, h4, ?_, ?_, ?_⟩
    · show u.ct = 1 + (inn u.nd.1.dp (ndsOf (A ++ z :: X'))).length; rw [← e.1]; exact h2
    · show u.nd.2 = frontB u.nd.1 (u.nd.1.d.length + byt (inn u.nd.1.dp (ndsOf (A ++ z :: X')))); rw [← e.2]; exact h3
    · intro hc
      have h8 : inn u.nd.1.dp (ndsOf (A ++ z :: X)) = [] := h5 hc
      refine List.eq_nil_of_length_eq_zero ?_
      show (inn u.nd.1.dp (ndsOf (A ++ z :: X'))).length = 0
      rw [← e.1, h8]; rfl
    · show u.nd.1.d.length + byt (inn u.nd.1.dp (ndsOf (A ++ z :: X'))) < _; rw [← e.2]; exact h6
    · cases A with
      | nil => exact h7
      | cons a A => exact h7
set_option maxRecDepth 20000 in
set_option maxHeartbeats 8000000 in
theorem sortSets_any {w : World} {g n : Nat} (Z : List Nv) (hA : Blk 122 w g (ndCells Z)) (hn : Z.length = n) (hg : Good Z) (hsl : ∀ W, Upd w W g → ∀ z ∈ Z, Sl .u8 W z.s z.nd.1.d ∧ Sl .u8 W z.f z.nd.2) (hu : ∀ z ∈ Z, U8s z.nd.1.d ∧ U8s z.nd.2) (hn6 : n ≤ 65536) :
    Calls Tryz.prog 70 #[.slice (some ⟨g, 0, none⟩) n n] w fun e w' => e = .returned (.tuple #[]) ∧ ∃ R, SufR Z R ∧ Good R ∧ R.Perm Z ∧ Blk 122 w' g (ndCells R) ∧ Upd w w' g := by
  have HX : Hid (Z.length = n ∧ Good Z ∧ (∀ W, Upd w W g → ∀ z ∈ Z, Sl .u8 W z.s z.nd.1.d ∧ Sl .u8 W z.f z.nd.2) ∧ (∀ z ∈ Z, U8s z.nd.1.d ∧ U8s z.nd.2)) := ⟨hn, hg, hsl, hu⟩
  have HA : Hid (Blk 122 w g (ndCells Z)) := hA
  have hgw : g < w.heap.size := hA.lt
  clear hA hn hg hsl hu
  go_enter Tryz.func70, Tryz.ntmps70
  go_wp2_with fail
  go_loopw [2] (fun iv wr => ∃ (y : Int) (q : Nat) (R : List Nv), iv = .int .i64 y ∧ y = (q : Int) - 1 ∧ q ≤ n ∧ SufR (Z.drop q) R ∧ Good (Z.take q ++ R) ∧ R.Perm (Z.drop q) ∧ Blk 122 wr g (ndCells (Z.take q ++ R)) ∧ Upd w wr g) (fun iv _ => (intOf iv + 1).toNat)
  case atStart => exact ⟨_, n, [], rfl, rfl, Nat.le_refl _, by rw [List.drop_of_length_le (by rw [HX.out.1]; exact Nat.le_refl _)]; rfl, by rw [List.take_of_length_le (by rw [HX.out.1]; exact Nat.le_refl _), List.append_nil]; exact HX.out.2.1, by rw [List.drop_of_length_le (by rw [HX.out.1]; exact Nat.le_refl _)], by rw [List.take_of_length_le (by rw [HX.out.1]; exact Nat.le_refl _), List.append_nil]; exact HA.out, Upd.refl _ _⟩
  case round =>
    obtain ⟨y, q, R, rfl, hy, hq, hS, hgR, hpR, hB, hU⟩ := hrel
    cases q with
    | zero =>
      have hy0 : ¬ (0 : Int) ≤ y := by omega
      rw [List.drop_zero] at hS hpR
      rw [List.take_zero, List.nil_append] at hgR hB
      have HF : Hid (SufR Z R ∧ Good R ∧ R.Perm Z ∧ Blk 122 wr g (ndCells R) ∧ Upd w wr g) := ⟨hS, hgR, hpR, hB, hU⟩
      clear hS hgR hpR hB hU
      go_wp2
      exact bodyPost_end (v := .tuple #[]) (results_none rfl _ _ _) rfl ⟨rfl, R, HF.out⟩
    | succ i =>
      obtain rfl : y = (i : Int) := by omega
      clear hy
      have hy0 : (0 : Int) ≤ (i : Int) := by omega
      have hiZ : i < Z.length := by rw [HX.out.1]; omega
      have hin : i < n := hq
      have hinI : (i : Int) < (n : Int) := by omega
      obtain ⟨z, hz⟩ : ∃ z, Z[i] = z := ⟨_, rfl⟩
      have htk : Z.take (i + 1) = Z.take i ++ [z] := by rw [List.take_succ_eq_append_getElem hiZ, hz]
      have hdr : Z.drop i = z :: Z.drop (i + 1) := by rw [List.drop_eq_getElem_cons hiZ, hz]
      have hzm : z ∈ Z := by rw [← hz]; exact List.getElem_mem _
      rw [htk, List.append_assoc] at hgR hB
      have hlR : R.length = n - (i + 1) := by rw [hpR.length_eq, List.length_drop, HX.out.1]
      have hcs : ∀ k, k < 8 → wr.cell? ⟨g, i * 8 + k, none⟩ = (cellN z)[k]? := fun k hk => by
        have hl : i < (Z.take i ++ ([z] ++ R)).length := by rw [List.length_append, List.length_take]; simp; omega
        rw [hB.cell, ndCells_at hl k hk]
        congr 2
        rw [List.getElem_append_right (by rw [List.length_take]; omega)]
        simp [List.length_take, show min i Z.length = i by omega]
      have hgz : Good (z :: R) := good_right (A := Z.take i) hgR
      obtain ⟨sa, sk, hsv, -⟩ := (HX.out.2.2.1 wr hU z hzm).1
      obtain ⟨fa, fk, hfv, -⟩ := (HX.out.2.2.1 wr hU z hzm).2
      obtain ⟨sl, hsl⟩ : ∃ sl, z.nd.1.d.length = sl := ⟨_, rfl⟩
      obtain ⟨fl, hfl⟩ : ∃ fl, z.nd.2.length = fl := ⟨_, rfl⟩
      rw [hsl] at hsv
      rw [hfl] at hfv
      have c0 := hcs 0 (by omega)
      have c1 := hcs 1 (by omega)
      have c2 := hcs 2 (by omega)
      have c3 := hcs 3 (by omega)
      have c4 := hcs 4 (by omega)
      have c7 := hcs 7 (by omega)
      simp only [cellN, hfv, hsv, Nat.add_zero, List.getElem?_cons_zero, List.getElem?_cons_succ] at c0 c1 c2 c3 c4 c7
      obtain ⟨v0, hv0⟩ : ∃ v0, z.nd.1.dp = v0 := ⟨_, rfl⟩
      obtain ⟨v1, hv1⟩ : ∃ v1, z.nd.1.cl = v1 := ⟨_, rfl⟩
      obtain ⟨v2, hv2⟩ : ∃ v2, z.nd.1.tg = v2 := ⟨_, rfl⟩
      obtain ⟨v3, hv3⟩ : ∃ v3, z.nd.1.co = v3 := ⟨_, rfl⟩
      obtain ⟨ct, hct⟩ : ∃ ct, z.ct = ct := ⟨_, rfl⟩
      rw [hv0] at c0
      rw [hv1] at c1
      rw [hv2] at c2
      rw [hv3] at c3
      rw [hct] at c7
      have HIS0 := is_any (w := wr) z.nd.1 (.slice sa sl sk) 17
      have hel : elV z.nd.1 (.slice sa sl sk) = .agg #[.int .i64 v0, .int .i64 v1, .int .i64 v2, .bool v3, .slice sa sl sk] := by unfold elV; rw [hv0, hv1, hv2, hv3]
      rw [hel] at HIS0
      have HR : Hid (SufR (Z.drop (i + 1)) R ∧ Good (Z.take i ++ ([z] ++ R)) ∧ R.Perm (Z.drop (i + 1)) ∧ Blk 122 wr g (ndCells (Z.take i ++ ([z] ++ R))) ∧ Upd w wr g ∧ Z.drop i = z :: Z.drop (i + 1) ∧ Good (z :: R) ∧ R.length = n - (i + 1) ∧ z.ct = ct) := ⟨hS, hgR, hpR, hB, hU, hdr, hgz, hlR, hct⟩
      clear hS hgR hpR hB hU hz htk hdr hzm hlR hcs hgz hsv hfv hsl hfl hv0 hv1 hv2 hv3 hct hel
      cases hb : isB z.nd.1 17 with
      | false =>
        rw [hb] at HIS0
        have HIS : Hid (Calls Tryz.prog 100 #[.agg #[.int .i64 v0, .int .i64 v1, .int .i64 v2, .bool v3, .slice sa sl sk], .int .i64 17] wr fun e w' => e = .returned (.bool false) ∧ Below wr.heap.size wr w') := HIS0
        have HBF : Hid (isB z.nd.1 17 = false) := hb
        clear HIS0 hb
        go_wp2_with fail
        refine HIS.out.mono ?_
        rintro ev w5 ⟨rfl, hb5⟩
        have H5 : Hid (Below wr.heap.size wr w5) := hb5
        clear hb5 c0 c1 c2 c3 c4 c7
        go_wp2
        go_roundw
        case rel => exact ⟨_, i, z :: R, rfl, rfl, by omega, by rw [HR.out.2.2.2.2.2.1]; exact ⟨R, HR.out.1, .inl ⟨HBF.out, rfl⟩⟩, HR.out.2.1, by rw [HR.out.2.2.2.2.2.1]; exact HR.out.2.2.1.cons _, below_blk H5.out HR.out.2.2.2.1.lt HR.out.2.2.2.1, HR.out.2.2.2.2.1.trans (Below.upd H5.out)⟩
        case measure => simp [intOf]
      | true =>
        rw [hb] at HIS0
        have HIS : Hid (Calls Tryz.prog 100 #[.agg #[.int .i64 v0, .int .i64 v1, .int .i64 v2, .bool v3, .slice sa sl sk], .int .i64 17] wr fun e w' => e = .returned (.bool true) ∧ Below wr.heap.size wr w') := HIS0
        have HBT : Hid (isB z.nd.1 17 = true) := hb
        obtain ⟨G, B, hG1, hG2, hG3, hG4, hG5, hG6, hG7⟩ := set_parts HR.out.2.2.2.2.2.2.1
        rw [HR.out.2.2.2.2.2.2.2.2] at hG2 hG3 hG6
        have hct1 : 1 ≤ ct := by have := HR.out.2.2.2.2.2.2.1.2.1; rw [HR.out.2.2.2.2.2.2.2.2] at this; omega
        have hRl : R.length = G.flatten.length + B.length := by rw [hG1, List.length_append]
        have hctn : i + ct ≤ n := by have := HR.out.2.2.2.2.2.2.2.1; omega
        have hctI : (i : Int) + (ct : Int) ≤ (n : Int) := by omega
        have hi1I : (i : Int) + 1 ≤ (i : Int) + (ct : Int) := by omega
        have hi1 : i + 1 ≤ i + ct := by omega
        obtain ⟨e, he⟩ : ∃ e, i + 1 = e := ⟨_, rfl⟩
        obtain ⟨u, hu⟩ : ∃ u, i + ct = u := ⟨_, rfl⟩
        have heI : (i : Int) + 1 = (e : Int) := by omega
        have huI : (i : Int) + (ct : Int) = (u : Int) := by omega
        obtain ⟨a', ha'⟩ : ∃ a' : Option Addr, (if n = e then some ⟨g, 0, none⟩ else some ⟨g, e * 8, none⟩) = a' := ⟨_, rfl⟩
        have HU : Hid (i + 1 = e ∧ i + ct = u) := ⟨he, hu⟩
        have heu : e ≤ u := by omega
        have hun : u ≤ n := by omega
        have heuI : (e : Int) ≤ (u : Int) := by omega
        have hunI : (u : Int) ≤ (n : Int) := by omega
        have HSO : Hid (∀ W, Upd w W g → Blk 122 W g (ndCells (Z.take i ++ ([z] ++ R))) → Calls Tryz.prog 101 #[.slice a' (u - e) (n - e)] W fun ev w' => ev = .returned (.tuple #[]) ∧ ∃ G' : List (List Nv), G'.Perm G ∧ Srt G' ∧ Blk 122 w' g ((ndCells (Z.take i ++ ([z] ++ R))).take (e * 8) ++ (ndCells G'.flatten ++ (ndCells (Z.take i ++ ([z] ++ R))).drop (e * 8 + (u - e) * 8))) ∧ Upd W w' g) := fun W hUW hBW => by
          have hmem : ∀ x ∈ G.flatten, x ∈ Z := fun x hx => by
            have : x ∈ R := by rw [hG1]; exact List.mem_append_left _ hx
            exact List.mem_of_mem_drop (HR.out.2.2.1.mem_iff.1 this)
          have htl : (Z.take i).length = i := by rw [List.length_take]; omega
          refine sortSet_any a' (ndCells (Z.take i ++ ([z] ++ R))) G hBW ?_ (by rw [hG6]; omega) (by omega) ?_ ?_ (fun x hx => by obtain ⟨_, y, s, h1, _, h2, _⟩ := hG4 x hx; exact ⟨y, s, h1, h2⟩) (fun x hx => HX.out.2.2.1 W hUW x (hmem x hx)) (fun x hx => HX.out.2.2.2 x (hmem x hx)) (fun x hx => part_wN (hG4 x hx)) (by omega) (by have := HR.out.2.2.2.2.2.2.2.1; omega)
          · by_cases h : u - e = 0
            · exact .inl h
            · right; rw [← ha', if_neg (by omega)]
          · rw [ndCells_drop, ndCells_take, hG2, List.drop_append, List.drop_of_length_le (by omega), htl, show e - i = 1 by omega, show u - e = ct - 1 by omega]
            simp
          · rw [ndCells_len, List.length_append, List.length_append, htl, List.length_singleton, HR.out.2.2.2.2.2.2.2.1]; omega
        have HG : Hid (R = G.flatten ++ B ∧ G.flatten = R.take (ct - 1) ∧ B = R.drop (ct - 1) ∧ (∀ x ∈ G, Prtn (z.nd.1.dp + 1) x) ∧ hdLe z.nd.1.dp B ∧ G.flatten.length = ct - 1) := ⟨hG1, hG2, hG3, hG4, hG5, hG6⟩
        clear HIS0 hb hG1 hG2 hG3 hG4 hG5 hG6 hG7 hct1 hRl hctn hi1 he hu hctI hi1I
        go_wp2_with fail
        refine HIS.out.mono ?_
        rintro ev w5 ⟨rfl, hb5⟩
        have hgr : g < wr.heap.size := HR.out.2.2.2.1.lt
        have q7 : w5.cell? ⟨g, i * 8 + 7, none⟩ = some (.int .i64 (ct : Int)) := (hb5.cell (p := ⟨g, i * 8 + 7, none⟩) hgr).trans c7
        have H5 : Hid (Below wr.heap.size wr w5) := hb5
        clear hb5 c0 c1 c2 c3 c4 c7
        go_wp2_with fail
        refine (HSO.out w5 (HR.out.2.2.2.2.1.trans (Below.upd H5.out)) (below_blk H5.out HR.out.2.2.2.1.lt HR.out.2.2.2.1)).mono ?_
        rintro ev w6 ⟨rfl, G', p1, p2, p3, p4⟩
        have HN : Hid (SufR (Z.drop i) (z :: (G'.flatten ++ B)) ∧ Good (Z.take i ++ (z :: (G'.flatten ++ B))) ∧ (z :: (G'.flatten ++ B)).Perm (Z.drop i) ∧ Blk 122 w6 g (ndCells (Z.take i ++ (z :: (G'.flatten ++ B)))) ∧ Upd w w6 g) := by
          have htl : (Z.take i).length = i := by rw [List.length_take]; omega
          have hgz := HR.out.2.2.2.2.2.2.1
          rw [HG.out.1] at hgz
          refine ⟨?_, ?_, ?_, ?_, (HR.out.2.2.2.2.1.trans (Below.upd H5.out)).trans p4⟩
          · rw [HR.out.2.2.2.2.2.1]
            refine ⟨R, HR.out.1, .inr ⟨HBT.out, G, G', ?_, fun x hx => by obtain ⟨_, y, s, h1, _, h2, _⟩ := HG.out.2.2.2.1 x hx; exact ⟨y, s, h1, h2⟩, p1, p2, ?_⟩⟩
            · rw [HR.out.2.2.2.2.2.2.2.2]; exact HG.out.2.1
            · rw [HR.out.2.2.2.2.2.2.2.2, ← HG.out.2.2.1]
          · refine good_swap (eqv_set HG.out.2.2.2.1 p1) (set_good hgz HG.out.2.2.2.1 HG.out.2.2.2.2.1 p1) (Z.take i) ?_
            rw [← HG.out.1]; exact HR.out.2.1
          · rw [HR.out.2.2.2.2.2.1]
            refine List.Perm.cons _ (List.Perm.trans ?_ HR.out.2.2.1)
            rw [HG.out.1]
            exact p1.flatten.append_right _
          · have e1 : (ndCells (Z.take i ++ ([z] ++ R))).take (e * 8) = ndCells (Z.take i ++ [z]) := by
              rw [ndCells_take, List.take_append, List.take_of_length_le (by omega), htl, show e - i = 1 by have := HU.out.1; omega]
              rfl
            have e2 : (ndCells (Z.take i ++ ([z] ++ R))).drop (e * 8 + (u - e) * 8) = ndCells B := by
              rw [← Nat.add_mul, ndCells_drop, List.drop_append, List.drop_of_length_le (by have := HU.out; omega), htl, show e + (u - e) - i = (ct - 1) + 1 by have := HU.out; have := HG.out.2.2.2.2.2; have := HR.out.2.2.2.2.2.2.1.2.1; rw [HR.out.2.2.2.2.2.2.2.2] at this; omega, HG.out.2.2.1]
              rfl
            rw [e1, e2] at p3
            rw [ndCells_app, ndCells_cons, ndCells_app]
            rw [ndCells_app] at p3
            simpa [ndCells] using p3
        clear p1 p2 p3 p4 q7
        go_wp2
        go_roundw
        case rel => exact ⟨_, i, _, rfl, rfl, by omega, HN.out.1, HN.out.2.1, HN.out.2.2.1, HN.out.2.2.2.1, HN.out.2.2.2.2⟩
        case measure => simp [intOf]
end Go.Proofs.YtefebamomdcaaaaGreatDoor
/-
  Ber: normal walked.
-/
namespace Go.Proofs.YtefebamomdcaaaaGreatDoor
open Go.RowKit
/-- The tree in the one way, out of the tree with whole strings: set by set in order. -/
def NrmR (S L' : List Te) : Prop := ∃ (Y : List Tv) (Z R : List Nv), Y.map (fun y : Tv => y.1) = S ∧ MeasZ Y Z ∧ SufR Z R ∧ Good R ∧ R.Perm Z ∧ R.map (fun z : Nv => z.nd.1) = L'
/-- What normal answers. -/
def NmOut (B : Nat) (w : World) (e : Ending) (L : List Te) : Prop :=
  (treeB L = false ∧ e = .returned (.tuple #[.slice none 0 0, flV 35])) ∨
  (treeB L = true ∧ ∃ er i, chkB L = some (er, i) ∧ e = .returned (.tuple #[.slice none 0 0, erV er i])) ∨
  (treeB L = true ∧ chkB L = none ∧ ∃ v L', e = .returned (.tuple #[v, .nilIface]) ∧ NrmR (setL L) L' ∧ Elems B w v L')
theorem Row.updT {k : IntKind} {e T : TypeId} {B : Nat} {w w' : World} {v : Value} {xs : List Int} {g : Nat} {D : List Value} (h : Row k e B w v xs) (hu : Upd w w' g) (hD : Blk T w g D) (hne : e ≠ T) : Row k e B w' v xs := by
  rcases h with h | ⟨b, S, rfl, h1, hA, h2⟩
  · exact .inl h
  · refine .inr ⟨b, S, rfl, h1, hu.arr hA (fun e0 => hne ?_), h2⟩
    subst e0
    have hA' : Blk e w b _ := hA
    unfold Blk at hA' hD
    rw [hA'] at hD
    simp only [Option.some.injEq, Obj.cells.injEq] at hD
    exact hD.2.1
theorem apart_perm {A B : List Value} (h : A.Perm B) (hA : Apart A) : Apart B := by
  unfold Apart at *
  exact (h.pairwise_iff (fun {x y} hxy b h1 h2 => hxy b h2 h1)).1 hA
theorem MeasZ.s : ∀ {Y : List Tv} {Z : List Nv}, MeasZ Y Z → Z.map (fun z : Nv => z.s) = Y.map (fun y : Tv => y.2)
  | [], [], _ => rfl
  | y :: r, z :: Z, h => by simp [h.2.1, MeasZ.s (Y := r) (Z := Z) h.1]
  | [], _ :: _, h => h.elim
  | _ :: _, [], h => h.elim
theorem MeasZ.mem : ∀ {Y : List Tv} {Z : List Nv}, MeasZ Y Z → ∀ z ∈ Z, ∃ y ∈ Y, z.s = y.2 ∧ z.nd.1 = y.1 := fun {Y Z} h z hz => by
  obtain ⟨i, hi, he⟩ := List.getElem_of_mem hz
  obtain ⟨y, h1, h2, h3⟩ := MeasZ.at h (i := i) (z := z) (by rw [List.getElem?_eq_getElem hi, he])
  exact ⟨y, h1, h2, h3⟩
theorem set_u8 : ∀ (f : Nat) (R : List Te), (∀ x ∈ R, U8s x.d) → ∀ x ∈ setF f R, U8s x.d := by
  have hD : ∀ x : Te, U8s x.d → U8s (setD x) := fun x hx => by
    unfold setD
    split
    · split
      · intro z hz
        rcases List.mem_or_eq_of_mem_set hz with h | h
        · exact hx z h
        · subst h; unfold U8; omega
      · exact hx
    · split
      · split
        · intro z hz
          rcases List.mem_or_eq_of_mem_set hz with h | h
          · exact hx z h
          · subst h
            have h1 := hx.at (x.d.length - 1)
            have h2 := hx.at 0
            unfold U8 at h1 ⊢
            unfold clr
            have h3 : (0 : Int) < 2 ^ (x.d.getD 0 0).toNat := Int.pow_pos (by decide)
            have h4 := Int.ediv_mul_le (x.d.getD (x.d.length - 1) 0) (show (2 : Int) ^ (x.d.getD 0 0).toNat ≠ 0 by omega)
            have h5 : 0 ≤ x.d.getD (x.d.length - 1) 0 / 2 ^ (x.d.getD 0 0).toNat := Int.ediv_nonneg h1.1 (by omega)
            have h6 := Int.mul_nonneg h5 (show (0 : Int) ≤ 2 ^ (x.d.getD 0 0).toNat by omega)
            exact ⟨h6, by omega⟩
        · exact hx
      · exact hx
  intro f
  induction f with
  | zero => intro R _ x hx; simp [setF] at hx
  | succ f ih =>
    intro R hR x hx
    cases R with
    | nil => simp [setF] at hx
    | cons y r =>
      rw [setF] at hx
      have hr : ∀ z ∈ r, U8s z.d := fun z hz => hR z (List.mem_cons_of_mem _ hz)
      split at hx
      · rcases List.mem_cons.1 hx with rfl | hx
        · exact hD _ (joinB_u8 fun z hz => hr z ((List.takeWhile_sublist _).subset hz))
        · exact ih _ (fun z hz => hr z ((List.dropWhile_sublist _).subset hz)) x hx
      · rcases List.mem_cons.1 hx with rfl | hx
        · exact hD _ (hR y (List.mem_cons_self ..))
        · exact ih _ hr x hx
theorem tree_shut {S : List Te} (hT : treeB S = true) (i : Nat) (hi : i < S.length) (hc : S[i].co = false) : byt (inn S[i].dp (nds (S.drop (i + 1)))) = 0 := by
  cases S with
  | nil => simp at hi
  | cons x r =>
    simp only [treeB, Bool.and_eq_true, decide_eq_true_eq] at hT
    cases i with
    | zero => exact rowB_shut hT.2 hc
    | succ i =>
      have key : ∀ (r : List Te) (a : Te) (i : Nat) (h : i < r.length), rowB a r = true → r[i].co = false → byt (inn r[i].dp (nds (r.drop (i + 1)))) = 0 := by
        intro r
        induction r with
        | nil => intro a i h; simp at h
        | cons y r ih =>
          intro a i h hr hc
          simp only [rowB, Bool.and_eq_true] at hr
          cases i with
          | zero => exact rowB_shut hr.2 hc
          | succ i => exact ih y i (by simpa using h) hr.2 hc
      exact key r x i (by simpa using hi) hT.2 hc
theorem tree_good {Y : List Tv} {Z : List Nv} {S : List Te} (hY : Y.map (fun y : Tv => y.1) = S) (hM : MeasZ Y Z) (hT : treeB S = true) (hb : byt (nds S) < 281474976710656) : Good Z := by
  subst hY
  exact MeasZ.good hM (fun i hi => by have := tree_at hT i hi; exact ⟨this.1, this.2.2⟩) (fun i hi hc => tree_shut hT i hi hc) hb
end Go.Proofs.YtefebamomdcaaaaGreatDoor
