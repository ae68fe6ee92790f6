/-
  Ber: Normal, ToDer, IsDer walked.
-/
import Derived.Laws.BytesArg
import Derived.Lib.Strings
import Derived.Deep.RegionHeld3
import Derived.Test.YtefebamomdcaaaaGreatDoorK33
namespace Go.Proofs.YtefebamomdcaaaaGreatDoor
open Go.RowKit
/-- What Normal answers. -/
def NrOut (B : Nat) (w : World) (e : Ending) (L : List Te) : Prop :=
  (treeB L = false ∧ e = .returned (.tuple #[.slice none 0 0, .int .i64 35, .int .i64 0])) ∨
  (treeB L = true ∧ ∃ er i, chkB L = some (er, i) ∧ e = .returned (.tuple #[.slice none 0 0, .int .i64 er, .int .i64 (i : Int)])) ∨
  (treeB L = true ∧ chkB L = none ∧ ∃ v L', e = .returned (.tuple #[v, .int .i64 0, .int .i64 0]) ∧ NrmR (setL L) L' ∧ Elems B w v L')
/-- What is asked of a row that is normalised. -/
structure NrI (L : List Te) : Prop where
  n : L.length ≤ 1152921504606846976
  u : ∀ x ∈ L, U8s x.d
  d : datL L ≤ 549755813888
  p : treeB L = true → chkB L = none → SetP L
set_option maxHeartbeats 2000000 in
theorem Normal_any {w : World} (hG : GlbE w) (v : Value) (L : List Te) (hv : ElS w v L) (hL : NrI L) :
    Calls Tryz.prog 21 #[v] w fun e w' => NrOut w.heap.size w' e L ∧ Below w.heap.size w w' := by
  obtain ⟨a, n, c, rfl⟩ : ∃ a n c, v = .slice a n c := by obtain ⟨a, c, Y, h, _⟩ := hv; exact ⟨a, _, c, h⟩
  have HX : Hid (GlbE w ∧ Calls Tryz.prog 39 #[.slice a n c] w fun e w' => NmOut w.heap.size w' e L ∧ Below w.heap.size w w') := ⟨hG, normal_any _ L hv hL.n hL.u hL.d hL.p⟩
  clear hG hv hL
  go_enter Tryz.func21, Tryz.ntmps21
  go_wp2_with fail
  refine HX.out.2.mono ?_
  rintro ev w1 ⟨h1, hb⟩
  have HB : Hid (Below w.heap.size w w1) := hb
  clear hb
  rcases h1 with ⟨hT, rfl⟩ | ⟨hT, er, i, hC, rfl⟩ | ⟨hT, hC, r, L', rfl, hN, hE⟩
  · have HT : Hid (treeB L = false) := hT
    clear hT
    go_wp2_with fail
    refine (told_flaw (HX.out.1.below HB.out) 35).mono ?_
    rintro ev w2 ⟨rfl, hb⟩
    have H2 : Hid (Below w.heap.size w w2) := below_via HB.out hb (Nat.le_refl _)
    clear hb
    go_wp2
    go_ret3
    exact ⟨.inl ⟨HT.out, rfl⟩, H2.out⟩
  · have HT : Hid (treeB L = true ∧ chkB L = some (er, i)) := ⟨hT, hC⟩
    clear hT hC
    go_wp2_with fail
    refine (told_spot (HX.out.1.below HB.out) er i).mono ?_
    rintro ev w2 ⟨rfl, hb⟩
    have H2 : Hid (Below w.heap.size w w2) := below_via HB.out hb (Nat.le_refl _)
    clear hb
    go_wp2
    go_ret3
    exact ⟨.inr (.inl ⟨HT.out.1, er, i, HT.out.2, rfl⟩), H2.out⟩
  · have HT : Hid (treeB L = true ∧ chkB L = none ∧ NrmR (setL L) L' ∧ Elems w.heap.size w1 r L') := ⟨hT, hC, hN, hE⟩
    clear hT hC hN hE
    go_wp2_with fail
    refine told_nil.mono ?_
    rintro ev w2 ⟨rfl, hb⟩
    have H2 : Hid (Below w.heap.size w w2 ∧ Elems w.heap.size w2 r L') := ⟨below_via HB.out hb (Nat.le_refl _), HT.out.2.2.2.below hb⟩
    clear hb
    go_wp2
    go_ret3
    exact ⟨.inr (.inr ⟨HT.out.1, HT.out.2.1, r, L', rfl, HT.out.2.2.1, H2.out.2⟩), H2.out.1⟩
theorem datL_perm {A B : List Te} (h : A.Perm B) : datL A = datL B := by
  induction h with
  | nil => rfl
  | cons x _ ih => simp only [datL, ih]
  | swap x y l => simp only [datL]; omega
  | trans _ _ h1 h2 => omega
theorem nrm_dat {S L' : List Te} (h : NrmR S L') : datL L' = datL S ∧ L'.length = S.length := by
  obtain ⟨Y, Z, R, hY, hM, _, _, hp, hL⟩ := h
  have h1 : Z.map (fun z : Nv => z.nd.1) = S := by
    have := MeasZ.row hM
    have h2 := congrArg (List.map (·.1)) this
    rw [nds_fst] at h2
    rw [← hY, ← h2, List.map_map]
    rfl
  have h3 : L'.Perm S := by rw [← hL, ← h1]; exact hp.map _
  exact ⟨datL_perm h3, h3.length_eq⟩
/-- What ToDer answers. -/
def TdOut (B : Nat) (w : World) (e : Ending) (M : List Int) : Prop :=
  match parseS M with
  | .inl (er, _) => e = .returned (.tuple #[.slice none 0 0, .int .i64 er])
  | .inr L => (treeB L = false ∧ e = .returned (.tuple #[.slice none 0 0, .int .i64 35])) ∨ (treeB L = true ∧ ∃ er i, chkB L = some (er, i) ∧ e = .returned (.tuple #[.slice none 0 0, .int .i64 er])) ∨ (treeB L = true ∧ chkB L = none ∧ ∃ L', NrmR (setL L) L' ∧ EnOut B w e (encS L'))
theorem chkF_ne : ∀ (f i : Nat) {L : List Te} {Q : List Sea} {er : Int} {k : Nat}, chkF L Q f i = some (er, k) → er ≠ 0
  | 0, _, _, _, _, _, h => by cases h
  | f + 1, i, L, Q, er, k, h => by
    rw [chkF] at h
    split at h
    · rename_i h1
      simp only [Option.some.injEq, Prod.mk.injEq] at h
      rw [← h.1]; exact h1
    · exact chkF_ne f (i + 1) h
set_option maxHeartbeats 4000000 in
theorem ToDer_any {w : World} (hG : GlbE w) (v : Value) (M : List Int) (hv : Sl .u8 w v M) (uM : U8s M) (hl : M.length ≤ 1152921504606846976) (hL : ∀ L, parseS M = .inr L → NrI L) :
    Calls Tryz.prog 23 #[v] w fun e w' => TdOut w.heap.size w' e M ∧ Below w.heap.size w w' := by
  obtain ⟨a, n, c, rfl⟩ : ∃ a n c, v = .slice a n c := by obtain ⟨a, c, h, _⟩ := hv; exact ⟨a, _, c, h⟩
  have HX : Hid (GlbE w ∧ U8s M ∧ (∀ L, parseS M = .inr L → NrI L) ∧ Calls Tryz.prog 11 #[.slice a n c] w fun e w' => PsOut w.heap.size w' e M.length (parseS M) ∧ Below w.heap.size w w') := ⟨hG, uM, hL, Parse_any hG _ M hv uM (by omega)⟩
  obtain ⟨O, hO⟩ : ∃ O, parseS M = O := ⟨_, rfl⟩
  have HO : Hid (parseS M = O) := hO
  unfold TdOut
  rw [hO]
  clear hG hv uM hL hO hl
  go_enter Tryz.func23, Tryz.ntmps23
  go_wp2_with fail
  refine HX.out.2.2.2.mono ?_
  rintro ev w1 ⟨h1, hb⟩
  rw [HO.out] at h1
  have HB : Hid (Below w.heap.size w w1) := hb
  clear hb
  cases O with
  | inl ea =>
    obtain ⟨er, at_⟩ := ea
    unfold PsOut at h1
    subst h1
    have her := (parse_in HX.out.2.1 HO.out).2
    have h2 : (er != 0) = true := by simp; omega
    clear her
    go_wp2
    go_ret2
    exact ⟨rfl, HB.out⟩
  | inr L =>
    unfold PsOut at h1
    obtain ⟨r, rfl, hE⟩ := h1
    have hNI := HX.out.2.2.1 L HO.out
    have hNC := Normal_any (w := w1) (HX.out.1.below HB.out) r L hE.s hNI
    have HNC : Hid (Calls Tryz.prog 21 #[r] w1 fun e w' => NrOut w1.heap.size w' e L ∧ Below w1.heap.size w1 w') := hNC
    have HD : Hid (datL L ≤ 549755813888 ∧ NrI L) := ⟨hNI.d, hNI⟩
    clear hNC hNI hE
    go_wp2_with fail
    refine HNC.out.mono ?_
    rintro ev w2 ⟨h2, hb⟩
    have H2 : Hid (Below w.heap.size w w2) := below_via HB.out hb (Nat.le_refl _)
    clear hb
    rcases h2 with ⟨hT, rfl⟩ | ⟨hT, er, i, hC, rfl⟩ | ⟨hT, hC, r', L', rfl, hN, hE⟩
    · have HT : Hid (treeB L = false) := hT
      clear hT
      go_wp2
      go_ret2
      exact ⟨.inl ⟨HT.out, rfl⟩, H2.out⟩
    · have HT : Hid (treeB L = true ∧ chkB L = some (er, i)) := ⟨hT, hC⟩
      have hne : (er != 0) = true := by simpa using chkF_ne _ _ hC
      clear hT hC
      go_wp2
      go_ret2
      first | exact ⟨.inr (.inl ⟨HT.out.1, er, i, HT.out.2, rfl⟩), H2.out⟩ | exact ⟨.inr (.inl ⟨HT.out.1, er, ⟨i, HT.out.2⟩, rfl⟩), H2.out⟩
    · have hnd := nrm_dat hN
      have hsl := setF_len L.length L
      have hsd := set_dat L.length L
      have hEN := Encode_any (w := w2) (HX.out.1.below H2.out) r' L' hE.s (by
        have h1 := hnd.1
        have h2 := HD.out.1
        have h3 := tree_len hT
        show datL L' ≤ _
        rw [h1]
        show datL (setL L) ≤ _
        unfold setL
        omega) (by
        have h1 := hnd.2
        have h3 := tree_len hT
        rw [h1]
        show (setL L).length ≤ _
        unfold setL
        omega)
      have HEN : Hid ((Calls Tryz.prog 18 #[r'] w2 fun e w' => EnOut w2.heap.size w' e (encS L') ∧ Below w2.heap.size w2 w') ∧ treeB L = true ∧ chkB L = none ∧ NrmR (setL L) L') := ⟨hEN, hT, hC, hN⟩
      clear hnd hsl hsd hEN hT hC hN hE
      go_wp2_with fail
      refine HEN.out.1.mono ?_
      rintro ev w3 ⟨h3, hb⟩
      have H3 : Hid (Below w.heap.size w w3 ∧ w.heap.size ≤ w2.heap.size) := ⟨below_via H2.out hb (Nat.le_refl _), H2.out.size⟩
      clear hb
      obtain ⟨O3, hO3⟩ : ∃ O3, encS L' = O3 := ⟨_, rfl⟩
      rw [hO3] at h3
      have HO3 : Hid (encS L' = O3) := hO3
      clear hO3
      cases O3 with
      | inl er =>
        unfold EnOut at h3
        subst h3
        go_wp2
        go_ret2
        exact ⟨.inr (.inr ⟨HEN.out.2.1, HEN.out.2.2.1, L', HEN.out.2.2.2, by rw [HO3.out]; rfl⟩), H3.out.1⟩
      | inr D =>
        obtain ⟨da, dn, dc, rfl, hr⟩ := h3
        have HR : Hid (Row .u8 5 w.heap.size w3 (.slice da dn dc) D) := hr.mono H3.out.2
        clear hr
        go_wp2
        go_ret2
        exact ⟨.inr (.inr ⟨HEN.out.2.1, HEN.out.2.2.1, L', HEN.out.2.2.2, by rw [HO3.out]; exact ⟨da, dn, dc, rfl, HR.out⟩⟩), H3.out.1⟩
end Go.Proofs.YtefebamomdcaaaaGreatDoor
/-
  Ber: the page's examples, by their values.
-/
namespace Go.Proofs.YtefebamomdcaaaaGreatDoor
open Go.RowKit
abbrev M1 : List Int := [48, 128, 2, 1, 5, 0, 0]
abbrev M2 : List Int := [49, 6, 2, 1, 7, 2, 1, 5]
abbrev M3 : List Int := [48, 3, 2, 1, 5]
abbrev L1 : List Te := [⟨0, 0, 16, true, []⟩, ⟨1, 0, 2, false, [5]⟩]
abbrev L2 : List Te := [⟨0, 0, 17, true, []⟩, ⟨1, 0, 2, false, [7]⟩, ⟨1, 0, 2, false, [5]⟩]
abbrev L2s : List Te := [⟨0, 0, 17, true, []⟩, ⟨1, 0, 2, false, [5]⟩, ⟨1, 0, 2, false, [7]⟩]
abbrev L3 : List Te := [⟨0, 0, 2, false, [0, 5]⟩]
theorem ex_p1 : parseS M1 = .inr L1 := by kernel_rfl
theorem ex_p2 : parseS M2 = .inr L2 := by kernel_rfl
theorem ex_p3 : parseS M3 = .inr L1 := by kernel_rfl
theorem ex_t1 : treeB L1 = true := by kernel_rfl
theorem ex_t2 : treeB L2 = true := by kernel_rfl
theorem ex_t3 : treeB L3 = true := by kernel_rfl
theorem ex_c1 : chkB L1 = none := by kernel_rfl
theorem ex_c2 : chkB L2 = none := by kernel_rfl
theorem ex_c3 : chkB L3 = some (6, 0) := by kernel_rfl
theorem ex_s1 : setL L1 = L1 := by kernel_rfl
theorem ex_s2 : setL L2 = L2 := by kernel_rfl
theorem ex_e1 : encS L1 = .inr M3 := by kernel_rfl
theorem ex_e2 : encS L2s = .inr [49, 6, 2, 1, 5, 2, 1, 7] := by kernel_rfl
theorem setP_of {L : List Te} (h : ∀ x ∈ L, cstr x = false ∧ setOk x) : SetP L := fun i x hx => by
  have := h x (List.mem_of_getElem? hx)
  exact ⟨fun h => (by rw [this.1] at h; cases h), fun _ => this.2⟩
theorem ok_int (d : Int) (v : List Int) (co : Bool) : setOk ⟨d, 0, 2, co, v⟩ := ⟨fun h => by simp [isB] at h, fun h => by simp [isB] at h⟩
theorem ok_seq (d : Int) (v : List Int) (co : Bool) : setOk ⟨d, 0, 16, co, v⟩ := ⟨fun h => by simp [isB] at h, fun h => by simp [isB] at h⟩
theorem ok_set (d : Int) (v : List Int) (co : Bool) : setOk ⟨d, 0, 17, co, v⟩ := ⟨fun h => by simp [isB] at h, fun h => by simp [isB] at h⟩
theorem u8_of (v : List Int) (h : v.all (fun x => decide (0 ≤ x ∧ x < 256)) = true) : U8s v := fun x hx => by
  have := List.all_eq_true.1 h x hx
  simpa [U8] using this
theorem nri1 : NrI L1 := by
  refine ⟨by decide, fun x hx => ?_, by decide, fun _ _ => setP_of fun x hx => ?_⟩
  · simp only [List.mem_cons, List.not_mem_nil, or_false] at hx
    rcases hx with rfl | rfl
    · exact u8_of _ (by decide)
    · exact u8_of _ (by decide)
  · simp only [List.mem_cons, List.not_mem_nil, or_false] at hx
    rcases hx with rfl | rfl
    · exact ⟨by decide, ok_seq _ _ _⟩
    · exact ⟨by decide, ok_int _ _ _⟩
theorem nri2 : NrI L2 := by
  refine ⟨by decide, fun x hx => ?_, by decide, fun _ _ => setP_of fun x hx => ?_⟩
  · simp only [List.mem_cons, List.not_mem_nil, or_false] at hx
    rcases hx with rfl | rfl | rfl
    · exact u8_of _ (by decide)
    · exact u8_of _ (by decide)
    · exact u8_of _ (by decide)
  · simp only [List.mem_cons, List.not_mem_nil, or_false] at hx
    rcases hx with rfl | rfl | rfl
    · exact ⟨by decide, ok_set _ _ _⟩
    · exact ⟨by decide, ok_int _ _ _⟩
    · exact ⟨by decide, ok_int _ _ _⟩
theorem nri3 : NrI L3 := by
  refine ⟨by decide, fun x hx => ?_, by decide, fun _ h => by rw [ex_c3] at h; cases h⟩
  simp only [List.mem_cons, List.not_mem_nil, or_false] at hx
  subst hx
  exact u8_of _ (by decide)
theorem suf_no {z : Nv} {r R : List Nv} (h : SufR (z :: r) R) (hb : isB z.nd.1 17 = false) : ∃ r', SufR r r' ∧ R = z :: r' := by
  obtain ⟨r', h1, ⟨_, h2⟩ | ⟨h2, _⟩⟩ := h
  · exact ⟨r', h1, h2⟩
  · rw [hb] at h2; cases h2
theorem nrm1 {L' : List Te} (h : NrmR L1 L') : L' = L1 := by
  obtain ⟨Y, Z, R, hY, hM, hS, _, _, rfl⟩ := h
  cases Y with
  | nil => simp at hY
  | cons y0 Y => cases Y with
    | nil => simp at hY
    | cons y1 Y => cases Y with
      | cons _ _ => simp at hY
      | nil => cases Z with
        | nil => exact hM.elim
        | cons z0 Z => cases Z with
          | nil => exact hM.1.elim
          | cons z1 Z => cases Z with
            | cons _ _ => exact hM.1.1.elim
            | nil =>
              simp only [List.map_cons, List.map_nil, List.cons.injEq, and_true] at hY
              have a0 : z0.nd.1 = y0.1 := by rw [hM.2.2.1]
              have a1 : z1.nd.1 = y1.1 := by rw [hM.1.2.2.1]
              rw [hY.1] at a0
              rw [hY.2] at a1
              obtain ⟨r1, h1, rfl⟩ := suf_no hS (by rw [a0]; decide)
              obtain ⟨r2, h2, rfl⟩ := suf_no h1 (by rw [a1]; decide)
              have : r2 = [] := h2
              subst this
              simp only [List.map_cons, List.map_nil, a0, a1]
theorem perm2 {α : Type} {a b : α} {G : List α} (h : G.Perm [a, b]) : G = [a, b] ∨ G = [b, a] := by
  have hl := h.length_eq
  cases G with
  | nil => simp at hl
  | cons x G => cases G with
    | nil => simp at hl
    | cons y G => cases G with
      | cons _ _ => simp at hl
      | nil =>
        have hx : x ∈ [a, b] := h.mem_iff.1 (List.mem_cons_self ..)
        simp only [List.mem_cons, List.not_mem_nil, or_false] at hx
        rcases hx with rfl | rfl
        · have := List.Perm.cons_inv h
          rw [List.perm_singleton] at this
          left; rw [this]
        · have h2 : [y].Perm [a] := List.Perm.cons_inv (a := x) (h.trans (List.Perm.swap _ _ _))
          rw [List.perm_singleton] at h2
          right; rw [h2]
theorem parts2 {z1 z2 : Nv} (c1 : z1.ct = 1) (c2 : z2.ct = 1) {G : List (List Nv)} (h : G.flatten = [z1, z2]) (hh : ∀ x ∈ G, ∃ y s, x = y :: s ∧ y.ct = x.length) : G = [[z1], [z2]] := by
  cases G with
  | nil => cases h
  | cons x G =>
    obtain ⟨y, s, rfl, hc⟩ := hh _ (List.mem_cons_self ..)
    simp only [List.flatten_cons, List.cons_append, List.cons.injEq] at h
    obtain ⟨rfl, h⟩ := h
    rw [c1] at hc
    have hs : s = [] := List.eq_nil_of_length_eq_zero (by rw [List.length_cons] at hc; omega)
    subst hs
    rw [List.nil_append] at h
    cases G with
    | nil => cases h
    | cons x G =>
      obtain ⟨y, s, rfl, hc⟩ := hh x (by simp)
      simp only [List.flatten_cons, List.cons_append, List.cons.injEq] at h
      obtain ⟨rfl, h⟩ := h
      rw [c2] at hc
      have hs : s = [] := List.eq_nil_of_length_eq_zero (by rw [List.length_cons] at hc; omega)
      subst hs
      rw [List.nil_append] at h
      cases G with
      | nil => rfl
      | cons x G =>
        obtain ⟨y, s, rfl, _⟩ := hh x (by simp)
        simp at h
theorem nrm2 {L' : List Te} (h : NrmR L2 L') : L' = L2s := by
  obtain ⟨Y, Z, R, hY, hM, hS, _, _, rfl⟩ := h
  cases Y with
  | nil => simp at hY
  | cons y0 Y => cases Y with
    | nil => simp at hY
    | cons y1 Y => cases Y with
      | nil => simp at hY
      | cons y2 Y => cases Y with
        | cons _ _ => simp at hY
        | nil => cases Z with
          | nil => exact hM.elim
          | cons z0 Z => cases Z with
            | nil => exact hM.1.elim
            | cons z1 Z => cases Z with
              | nil => exact hM.1.1.elim
              | cons z2 Z => cases Z with
                | cons _ _ => exact hM.1.1.1.elim
                | nil =>
                  simp only [List.map_cons, List.map_nil, List.cons.injEq, and_true] at hY
                  have e0 := hM.2.2
                  have e1 := hM.1.2.2
                  have e2 := hM.1.1.2.2
                  simp only [List.map_cons, List.map_nil, hY.1, hY.2.1, hY.2.2] at e0 e1 e2
                  have a0 : z0.nd.1 = ⟨0, 0, 17, true, []⟩ := by rw [e0.1]
                  have a1 : z1.nd.1 = ⟨1, 0, 2, false, [7]⟩ := by rw [e1.1]
                  have a2 : z2.nd.1 = ⟨1, 0, 2, false, [5]⟩ := by rw [e2.1]
                  have t0 : z0.ct = 3 := by rw [e0.2.2]; kernel_rfl
                  have t1 : z1.ct = 1 := by rw [e1.2.2]; kernel_rfl
                  have t2 : z2.ct = 1 := by rw [e2.2.2]; kernel_rfl
                  have b1 : bytesOf (ndsOf [z1]) = [2, 1, 7] := by show z1.nd.2 ++ z1.nd.1.d ++ [] = _; rw [e1.1]; kernel_rfl
                  have b2 : bytesOf (ndsOf [z2]) = [2, 1, 5] := by show z2.nd.2 ++ z2.nd.1.d ++ [] = _; rw [e2.1]; kernel_rfl
                  obtain ⟨r1, h1, hR⟩ := hS
                  obtain ⟨r2, h2, rfl⟩ := suf_no h1 (by rw [a1]; decide)
                  obtain ⟨r3, h3, rfl⟩ := suf_no h2 (by rw [a2]; decide)
                  have : r3 = [] := h3
                  subst this
                  rcases hR with ⟨h4, _⟩ | ⟨_, G, G', g1, g2, g3, g4, rfl⟩
                  · rw [a0] at h4; exact absurd h4 (by decide)
                  · rw [t0] at g1 ⊢
                    have hG := parts2 t1 t2 g1 g2
                    subst hG
                    rcases perm2 g3 with rfl | rfl
                    · exfalso
                      unfold Srt at g4
                      simp only [List.pairwise_cons, List.mem_singleton, forall_eq] at g4
                      rw [b1, b2] at g4
                      exact g4.1 (by decide)
                    · simp [a0, a1, a2]
end Go.Proofs.YtefebamomdcaaaaGreatDoor
/-
  Ber: bytes.Equal, bytes as strings (picked from Y43); num; the examples.
-/
namespace Go.Proofs.YtefebamomdcaaaaGreatDoor
open Go.RowKit
set_option maxRecDepth 20000
theorem u8_toNat {x : Int} (h : U8 x) : ((UInt8.ofNat x.toNat).toNat : Int) = x := by
  have := h.1; have := h.2
  simp; omega
theorem st_inj {X Y : List Int} (hX : U8s X) (hY : U8s Y) (h : strOfNums X = strOfNums Y) : X = Y := by
  have e := congrArg (fun s => s.data.toList.map (fun b => (b.toNat : Int))) h
  simp only [strOfNums_data, List.map_map] at e
  have f : ∀ Z : List Int, U8s Z → Z.map ((fun b : UInt8 => (b.toNat : Int)) ∘ fun n => UInt8.ofNat n.toNat) = Z := by
    intro Z hZ
    induction Z with
    | nil => rfl
    | cons z Z ih =>
      rw [List.map_cons, ih (fun x hx => hZ x (List.mem_cons_of_mem _ hx))]
      congr 1
      exact u8_toNat (hZ z (List.mem_cons_self ..))
  rw [f X hX, f Y hY] at e
  exact e
theorem st_beq (X Y : List Int) (hX : U8s X) (hY : U8s Y) : ((strOfNums X).toList == (strOfNums Y).toList) = decide (X = Y) := by
  rw [Bool.eq_iff_iff, beq_iff_eq, decide_eq_true_eq]
  constructor
  · intro h
    refine st_inj hX hY ?_
    apply ByteArray.ext
    rw [Lib.toList_data, Lib.toList_data] at h
    exact Array.toList_inj.1 h
  · intro h; rw [h]

theorem conv_str {w : World} {a : Option Addr} {n c : Nat} {X : List Int} (h : Sl .u8 w (.slice a n c) X) : Sem.run Tryz.prog (convert 22 9 (.slice a n c)) w = .ok (.string (strOfNums X)) w := by
  obtain ⟨a', c', he, _, h⟩ := h
  cases he
  cases a with
  | none =>
    rcases h with h | ⟨b, off, hb, _⟩
    · subst h; exact run_convert_bytes_nil w _ _ Tryz.und8 Tryz.e8 _ c _ Tryz.str
    · cases hb
  | some x =>
    rcases h with h | ⟨b, off, hb, _, hr⟩
    · subst h
      obtain ⟨b, off, sp⟩ := x
      have : Sem.run Tryz.prog (convert 22 9 (.slice (some ⟨b, off, sp⟩) 0 c)) w = .ok (.string (strOfNums [])) w := by
        rw [run_convert_bytes_string w _ _ _ _ 0 c Tryz.und8 Tryz.e8 Tryz.str]
        simp [strOfNums]
        rfl
      exact this
    · cases hb
      exact run_convert_bytes_arg w _ _ Tryz.und8 Tryz.e8 b off _ c X rfl (fun i hi => hr i hi) _ Tryz.str
set_option maxHeartbeats 1000000 in
theorem BEq_any {w : World} (a a' : Option Addr) (n c n' c' : Nat) (X Y : List Int) (hX : Sl .u8 w (.slice a n c) X) (hY : Sl .u8 w (.slice a' n' c') Y) (uX : U8s X) (uY : U8s Y) (q : Bool) (hq : decide (X = Y) = q) :
    Calls Tryz.prog 42 #[.slice a n c, .slice a' n' c'] w fun e w' => e = .returned (.bool q) ∧ w = w' := by
  have h1 := conv_str hX
  have h2 := conv_str hY
  have h3 := st_beq X Y uX uY
  rw [hq] at h3
  clear hX hY uX uY hq
  go_enter Tryz.func42, Tryz.ntmps42
  go_wp2
  go_ret
  exact ⟨rfl, rfl⟩
theorem num3_any {w : World} (e : Int) : Calls Tryz.prog 14 #[.int .i64 e] w fun ev w' => ev = .returned (.int .i64 e) ∧ w = w' := by
  go_enter Tryz.func14, Tryz.ntmps14
  go_wp2
  go_ret
  exact ⟨rfl, rfl⟩
set_option maxHeartbeats 2000000 in
theorem IsDer_live {w : World} (hG : GlbE w) (a : Option Addr) (n c : Nat) (hv : Sl .u8 w (.slice a n c) M3) : Calls Tryz.prog 25 #[.slice a n c] w fun e w' => e = .returned (.bool true) ∧ Below w.heap.size w w' := by
  have HT := ToDer_any hG (.slice a n c) M3 hv (u8_of _ (by decide)) (by decide) (fun L h => by rw [ex_p3] at h; cases h; exact nri1)
  have HX : Hid (Calls Tryz.prog 23 #[.slice a n c] w fun e w' => TdOut w.heap.size w' e M3 ∧ Below w.heap.size w w') := HT
  have HV : Hid (Sl .u8 w (.slice a n c) M3) := hv
  clear HT hv hG
  go_enter Tryz.func25, Tryz.ntmps25
  go_wp2_with fail
  refine HX.out.mono ?_
  rintro ev w1 ⟨h1, hb⟩
  have HB : Hid (Below w.heap.size w w1) := hb
  clear hb
  unfold TdOut at h1
  rw [ex_p3] at h1
  rcases h1 with ⟨h, _⟩ | ⟨_, _, _, h, _⟩ | ⟨_, _, L', hN, hE⟩
  · rw [ex_t1] at h; cases h
  · rw [ex_c1] at h; cases h
  · rw [ex_s1] at hN
    have hL := nrm1 hN
    subst hL
    rw [ex_e1] at hE
    obtain ⟨da, dn, dc, rfl, hr⟩ := hE
    have hEq := BEq_any (w := w1) a da n c dn dc M3 M3 (below_sl HB.out HV.out) hr.sl (u8_of _ (by decide)) (u8_of _ (by decide)) true (by simp)
    have HEq : Hid (Calls Tryz.prog 42 #[.slice a n c, .slice da dn dc] w1 fun e w' => e = .returned (.bool true) ∧ w1 = w') := hEq
    clear hEq hr hN
    go_wp2_with fail
    refine HEq.out.mono ?_
    rintro ev w2 ⟨rfl, rfl⟩
    go_wp2
    go_ret
    exact ⟨rfl, HB.out⟩
end Go.Proofs.YtefebamomdcaaaaGreatDoor
/-
  Ber: the page's examples, all.
-/
namespace Go.Proofs.YtefebamomdcaaaaGreatDoor
open Go.RowKit
/-- The two elements of the first example in memory. -/
theorem elems2 {B : Nat} {w : World} {v : Value} (h : Elems B w v L1) : ∃ b c, v = .slice (some ⟨b, 0, none⟩) 2 c ∧ b < w.heap.size ∧ w.cell? ⟨b, 3, none⟩ = some (.bool true) ∧ w.cell? ⟨b, 7, none⟩ = some (.int .i64 2) ∧ w.cell? ⟨b, 5, none⟩ = some (.int .i64 1) := by
  obtain ⟨Y, hY, hm, _, _⟩ := h
  cases Y with
  | nil => simp at hY
  | cons y0 Y => cases Y with
    | nil => simp at hY
    | cons y1 Y => cases Y with
      | cons _ _ => simp at hY
      | nil =>
        simp only [List.map_cons, List.map_nil, List.cons.injEq, and_true] at hY
        obtain ⟨b, c, rfl, _, _, hb, hc⟩ := hm.at (by simp)
        refine ⟨b, c, rfl, hb, ?_, ?_, ?_⟩
        · rw [hc 3 (by simp)]; simp [elCells, cellE, hY.1]
        · rw [hc 7 (by simp)]; simp [elCells, cellE, hY.2]
        · rw [hc 5 (by simp)]; simp [elCells, cellE, hY.2]
theorem els3 {w : World} {b b0 : Nat} (h : Blk 59 w b [.int .i64 0, .int .i64 0, .int .i64 2, .bool false, .slice (some ⟨b0, 0, none⟩) 2 2]) (h0 : Arr .u8 5 w b0 [0, 5]) : ElS w (.slice (some ⟨b, 0, none⟩) 1 1) L3 := by
  refine ⟨_, 1, [(⟨0, 0, 2, false, [0, 5]⟩, .slice (some ⟨b0, 0, none⟩) 2 2)], rfl, by decide, rfl, .inr ⟨b, 0, rfl, h.lt, fun i hi => ?_⟩, fun y hy => ?_⟩
  · rw [Nat.zero_add, h.cell i]; rfl
  · simp only [List.mem_singleton] at hy
    subst hy
    exact h0.sl
set_option maxRecDepth 20000 in
set_option maxHeartbeats 8000000 in
theorem live03_any {w : World} (hG : GlbE w) : Calls Tryz.prog 9 #[] w fun e w' => e = .returned (.bool true) ∧ Below w.heap.size w w' := by
  have HG : Hid (GlbE w) := hG
  clear hG
  go_enter Tryz.func9, Tryz.ntmps9
  go_wp2_with fail
  refine (Parse_any (HG.out.alloc _) (.slice (some ⟨w.heap.size, 0, none⟩) 7 7) M1 (show Arr .u8 5 _ w.heap.size M1 from arr_nw rfl rfl).sl (u8_of _ (by decide)) (by decide)).mono ?_
  rintro ev w1 ⟨h1, hb⟩
  rw [ex_p1] at h1
  obtain ⟨r1, rfl, hE1⟩ := h1
  obtain ⟨b, c, rfl, hbl, q3, q7, q5⟩ := elems2 hE1
  have H1 : Hid (Below w.heap.size w w1 ∧ Elems w.heap.size w1 (.slice (some ⟨b, 0, none⟩) 2 c) L1) := ⟨below_via (al1 _) hb (Nat.le_refl _), hE1.mono (by simp)⟩
  clear hb hE1
  go_wp2_with (go_at_call 14; refine (num3_any _).mono ?_; rintro e w' ⟨rfl, rfl⟩)
  refine (ToDer_any (HG.out.below (below_via H1.out.1 (al1 _) (Nat.le_refl _))) (.slice (some ⟨w1.heap.size, 0, none⟩) 8 8) M2 (show Arr .u8 5 _ w1.heap.size M2 from arr_nw rfl rfl).sl (u8_of _ (by decide)) (by decide) (fun L h => by rw [ex_p2] at h; cases h; exact nri2)).mono ?_
  rintro ev w2 ⟨h2, hb⟩
  have hb2 : Below w1.heap.size w1 w2 := below_via (al1 _) hb (Nat.le_refl _)
  have H2 : Hid (Below w.heap.size w w2 ∧ Elems w.heap.size w2 (.slice (some ⟨b, 0, none⟩) 2 c) L1 ∧ w.heap.size ≤ w1.heap.size) := ⟨below_via H1.out.1 hb2 (Nat.le_refl _), H1.out.2.below hb2, H1.out.1.size⟩
  clear hb hb2 q3 q7 q5 hbl
  unfold TdOut at h2
  rw [ex_p2] at h2
  rcases h2 with ⟨h, _⟩ | ⟨_, _, _, h, _⟩ | ⟨_, _, L', hN, hE⟩
  · rw [ex_t2] at h; cases h
  · rw [ex_c2] at h; cases h
  rw [ex_s2] at hN
  have hL := nrm2 hN
  subst hL
  rw [ex_e2] at hE
  obtain ⟨da, dn, dc, rfl, hr⟩ := hE
  have HD : Hid (Row .u8 5 w.heap.size w2 (.slice da dn dc) [49, 6, 2, 1, 5, 2, 1, 7]) := hr.mono (Nat.le_trans H2.out.2.2 (by simp))
  clear hr hN
  go_wp2_with fail
  refine (Encode_any (w := w2) (HG.out.below H2.out.1) (.slice (some ⟨b, 0, none⟩) 2 c) L1 H2.out.2.1.s (by decide) (by decide)).mono ?_
  rintro ev w3 ⟨h3, hb3⟩
  rw [ex_e1] at h3
  obtain ⟨ca, cn, cc, rfl, hr3⟩ := h3
  have H3 : Hid (Below w.heap.size w w3 ∧ Row .u8 5 w.heap.size w3 (.slice da dn dc) [49, 6, 2, 1, 5, 2, 1, 7] ∧ Row .u8 5 w.heap.size w3 (.slice ca cn cc) M3) := ⟨below_via H2.out.1 hb3 (Nat.le_refl _), HD.out.below hb3, hr3.mono H2.out.1.size⟩
  clear hb3 hr3 HD
  have hNR : ∀ W : World, Below w.heap.size w W → ElS W (.slice (some ⟨w3.heap.size + 1, 0, none⟩) 1 1) L3 → Calls Tryz.prog 21 #[.slice (some ⟨w3.heap.size + 1, 0, none⟩) 1 1] W fun e w' => e = .returned (.tuple #[.slice none 0 0, .int .i64 6, .int .i64 0]) ∧ Below W.heap.size W w' := fun W hW hE => by
    refine (Normal_any (HG.out.below hW) _ L3 hE nri3).mono ?_
    rintro e w' ⟨h, hb⟩
    refine ⟨?_, hb⟩
    rcases h with ⟨h, _⟩ | ⟨_, er, i, h, h'⟩ | ⟨_, h, _⟩
    · rw [ex_t3] at h; cases h
    · rw [ex_c3] at h
      simp only [Option.some.injEq, Prod.mk.injEq] at h
      rw [h', ← h.1, ← h.2]; rfl
    · rw [ex_c3] at h; cases h
  have HNR : Hid (∀ W : World, Below w.heap.size w W → ElS W (.slice (some ⟨w3.heap.size + 1, 0, none⟩) 1 1) L3 → Calls Tryz.prog 21 #[.slice (some ⟨w3.heap.size + 1, 0, none⟩) 1 1] W fun e w' => e = .returned (.tuple #[.slice none 0 0, .int .i64 6, .int .i64 0]) ∧ Below W.heap.size W w') := hNR
  clear hNR
  go_wp2_with fail
  have ha1 : Below w3.heap.size w3 ((w3.alloc (.cells #[.int .u8 0, .int .u8 5] 5)).alloc (.cells #[.int .i64 0, .int .i64 0, .int .i64 2, .bool false, .slice (some ⟨w3.heap.size, 0, none⟩) 2 2] 59)) := al2' (al1 _)
  refine (HNR.out _ (below_via H3.out.1 ha1 (Nat.le_refl _)) (els3 (b0 := w3.heap.size) (blk_nw (by simp) rfl) (below_arr (al1 _) (by simp) (arr_nw rfl rfl)))).mono ?_
  rintro ev w4 ⟨rfl, hb4⟩
  have hb34 : Below w3.heap.size w3 w4 := below_via ha1 hb4 (Nat.le_refl _)
  have H4 : Hid (Below w.heap.size w w4 ∧ Row .u8 5 w.heap.size w4 (.slice da dn dc) [49, 6, 2, 1, 5, 2, 1, 7] ∧ Row .u8 5 w.heap.size w4 (.slice ca cn cc) M3) := ⟨below_via H3.out.1 hb34 (Nat.le_refl _), H3.out.2.1.below hb34, H3.out.2.2.below hb34⟩
  have hc1 : Sem.run Tryz.prog (convert 22 9 (.slice da dn dc)) w4 = .ok (.string ⟨#[49, 6, 2, 1, 5, 2, 1, 7]⟩) w4 := conv_str H4.out.2.1.sl
  have hc2 : Sem.run Tryz.prog (convert 22 9 (.slice ca cn cc)) w4 = .ok (.string ⟨#[48, 3, 2, 1, 5]⟩) w4 := conv_str H4.out.2.2.sl
  have HI : Hid (Calls Tryz.prog 25 #[.slice ca cn cc] w4 fun e w' => e = .returned (.bool true) ∧ Below w4.heap.size w4 w') := IsDer_live (HG.out.below H4.out.1) ca cn cc H4.out.2.2.sl
  clear ha1 hb4 hb34
  go_wp2_with (first | (go_at_call 14; refine (num3_any _).mono ?_; rintro e w' ⟨rfl, rfl⟩) | (go_at_call 25; refine HI.out.mono ?_; rintro ev w5 ⟨rfl, hb5⟩))
  go_ret
  exact ⟨rfl, below_via H4.out.1 hb5 (Nat.le_refl _)⟩
end Go.Proofs.YtefebamomdcaaaaGreatDoor
/-
  The law BerTails: bytes that are read as an element are none with more behind them, nor cut.
-/
namespace Go.Proofs.YtefebamomdcaaaaGreatDoor
open Go.RowKit
theorem Sl.take {w : World} {a : Option Addr} {n c : Nat} {M : List Int} (h : Sl .u8 w (.slice a n c) M) {k : Nat} (hk : k ≤ n) : Sl .u8 w (.slice a k c) (M.take k) := by
  obtain ⟨a', c', h1, hc, h⟩ := h
  simp only [Value.slice.injEq] at h1
  obtain ⟨rfl, rfl, rfl⟩ := h1
  have hl : (M.take k).length = k := by rw [List.length_take]; omega
  refine ⟨a, c, by rw [hl], by rw [hl]; omega, ?_⟩
  rcases h with rfl | ⟨b, off, rfl, hb, hr⟩
  · left; simp
  · right; exact ⟨b, off, rfl, hb, hr.take k⟩
theorem Sl.lens {w : World} {a : Option Addr} {n c : Nat} {M : List Int} (h : Sl .u8 w (.slice a n c) M) : n = M.length ∧ n ≤ c := by
  obtain ⟨a', c', h1, hc, _⟩ := h
  simp only [Value.slice.injEq] at h1
  obtain ⟨_, rfl, rfl⟩ := h1
  exact ⟨rfl, hc⟩
theorem row_emp (w : World) : Row .u8 5 w.heap.size (w.alloc (.cells #[] 5)) (.slice (some ⟨w.heap.size, 0, none⟩) 0 0) [] := .inr ⟨_, [], rfl, Nat.le_refl _, arr_nw rfl rfl, Nat.le_refl _, rfl, by decide⟩
end Go.Proofs.YtefebamomdcaaaaGreatDoor
/-
  Ber: the reference's Huge and Same walked. (wip/mkb73.py)
-/
namespace Go.Proofs.YtefebamomdcaaaaGreatDoor
open Go.RowKit
theorem al_d {a w : World} {o : Obj} (h : Below a.heap.size a w.drew) : Below a.heap.size a (w.alloc o).drew := by
  have h1 : Below a.heap.size a w := h.trans ⟨rfl, rfl, rfl, Nat.le_refl _, fun _ _ => rfl⟩
  exact (al2' h1).drew
theorem al_dd {a : World} {o o' : Obj} : Below a.heap.size a ((a.alloc o).alloc o').drew := (al2' (al1 o)).drew
/-- What Huge tells: where it says no, the tree is small. -/
def HgOut (e : Ending) (L : List Te) : Prop := ∃ b, e = .returned (.bool b) ∧ (b = false → L.length ≤ 300 ∧ datL L ≤ 16384)
theorem datL_step (L : List Te) {i : Nat} (h : i < L.length) : datL (L.take (i + 1)) = datL (L.take i) + L[i].d.length := by
  rw [List.take_succ_eq_append_getElem h, datL_app]
  simp [datL]
set_option maxRecDepth 20000 in
set_option maxHeartbeats 4000000 in
theorem Huge_any {w : World} (v : Value) (L : List Te) (hv : ElS w v L) (hL : ∀ x ∈ L, x.d.length ≤ 9223372036854775807) (hn : L.length ≤ 9223372036854775807) :
    Calls Tryz.prog 16 #[v, .int .i64 300, .int .i64 16384] w fun e w' => HgOut e L ∧ Below w.heap.size w w' := by
  obtain ⟨n, hnn⟩ : ∃ n, L.length = n := ⟨_, rfl⟩
  have HX : Hid (ElS w v L ∧ (∀ x ∈ L, x.d.length ≤ 9223372036854775807) ∧ L.length = n) := ⟨hv, hL, hnn⟩
  obtain ⟨a, c, rfl⟩ : ∃ a c, v = .slice a n c := by obtain ⟨a, c, Y, h, _⟩ := hv; exact ⟨a, c, by rw [h, hnn]⟩
  have hnM : n ≤ 9223372036854775807 := by omega
  clear hv hL hnn hn
  by_cases h3 : 300 < n
  · have h3I : (300 : Int) < (n : Int) := by omega
    go_enter Tryz.func16, Tryz.ntmps16
    go_wp2
    go_ret
    exact ⟨⟨_, rfl, fun h => by cases h⟩, Below.refl _ _⟩
  have h3I : ¬ (300 : Int) < (n : Int) := by omega
  go_enter Tryz.func16, Tryz.ntmps16
  go_wp2
  go_loopw [7, 8] (fun sv iv wr => ∃ i s : Nat, sv = .int .i64 s ∧ iv = .int .i64 i ∧ i ≤ n ∧ datL (L.take i) = s ∧ s ≤ 16384 ∧ Below w.heap.size w wr) (fun _ iv _ => n - (intOf iv).toNat)
  case atStart => exact ⟨0, 0, rfl, rfl, Nat.zero_le _, by simp [datL], by omega, Below.refl _ _⟩
  case round =>
    obtain ⟨i, s, rfl, rfl, hi, hs, hs2, hB⟩ := hrel
    by_cases hlt : i < n
    · have hltI : (i : Int) < (n : Int) := by omega
      have hlS : i < L.length := by have := HX.out.2.2; omega
      obtain ⟨b', o', xd, xm, xk, rfl, hbw, -, -, -, -, p4, hxs⟩ := HX.out.1.at hlS
      replace p4 : wr.cell? ⟨b', o' + i * 5 + 4, none⟩ = some (.slice xd xm xk) := (hB.cell hbw).trans p4
      have hst := datL_step L hlS
      have hxl : xm = L[i].d.length := by obtain ⟨_, _, h, _⟩ := hxs; simp only [Value.slice.injEq] at h; exact h.2.1
      have hxm := HX.out.2.1 L[i] (List.getElem_mem _)
      rw [hs, ← hxl] at hst
      rw [← hxl] at hxm
      have HR : Hid (Below w.heap.size w wr ∧ datL (L.take (i + 1)) = s + xm) := ⟨hB, hst⟩
      clear hB hst hxl hxs hs
      have hxI : (xm : Int) ≤ 9223372036854775807 := by omega
      have hsI : (s : Int) ≤ 16384 := by omega
      by_cases hg : 16384 - (s : Int) < (xm : Int)
      · go_wp2
        go_ret
        exact ⟨⟨_, rfl, fun h => by cases h⟩, HR.out.1⟩
      · have hg2 : (xm : Int) ≤ 16384 - (s : Int) := by omega
        go_wp2
        go_roundw
        case rel => exact ⟨i + 1, s + xm, by go_num, by go_num, by omega, HR.out.2, by omega, HR.out.1⟩
        case measure => simp [intOf]; omega
    · obtain rfl : i = n := by omega
      have HB : Hid (Below w.heap.size w wr ∧ L.length ≤ 300 ∧ datL L ≤ 16384) := ⟨hB, by have := HX.out.2.2; omega, by rw [List.take_of_length_le (by rw [HX.out.2.2]; exact Nat.le_refl _)] at hs; omega⟩
      have l1 : ¬ (i : Int) < (i : Int) := by omega
      clear hB hs
      go_wp2
      go_ret
      exact ⟨⟨_, rfl, fun _ => HB.out.2⟩, HB.out.1⟩
set_option maxRecDepth 20000 in
set_option maxHeartbeats 8000000 in
theorem Same_any {w : World} (v u : Value) (L : List Te) (hv : ElS w v L) (hu : ElS w u L) (hn : L.length ≤ 1152921504606846976) (hd : ∀ x ∈ L, x.d.length ≤ 1152921504606846976) :
    Calls Tryz.prog 13 #[v, u] w fun e w' => e = .returned (.bool true) ∧ Below w.heap.size w w' := by
  obtain ⟨n, hnn⟩ : ∃ n, L.length = n := ⟨_, rfl⟩
  have HX : Hid (ElS w v L ∧ ElS w u L ∧ L.length = n ∧ ∀ x ∈ L, x.d.length ≤ 1152921504606846976) := ⟨hv, hu, hnn, hd⟩
  obtain ⟨a1, c1, rfl⟩ : ∃ a c, v = .slice a n c := by obtain ⟨a, c, Y, h, _⟩ := hv; exact ⟨a, c, by rw [h, hnn]⟩
  obtain ⟨a2, c2, rfl⟩ : ∃ a c, u = .slice a n c := by obtain ⟨a, c, Y, h, _⟩ := hu; exact ⟨a, c, by rw [h, hnn]⟩
  have hnM : n ≤ 1152921504606846976 := by omega
  clear hv hu hnn hn hd
  go_enter Tryz.func13, Tryz.ntmps13
  go_wp2_with fail
  go_loopw [5] (fun iv wr => ∃ i : Nat, i ≤ n ∧ iv = .int .i64 i ∧ Below w.heap.size w wr) (fun iv _ => n - (intOf iv).toNat)
  case atStart => exact ⟨0, Nat.zero_le _, rfl, Below.refl _ _⟩
  case round =>
    obtain ⟨i, hi, rfl, hB⟩ := hrel
    by_cases hlt : i < n
    · have l1 : (i : Int) < (n : Int) := by omega
      have hlS : i < L.length := by have := HX.out.2.2.1; omega
      obtain ⟨b1, o1, ad1, m1, cd1, rfl, hb1, p10, p11, p12, p13, p14, hx1⟩ := HX.out.1.at hlS
      obtain ⟨b2, o2, ad2, m2, cd2, rfl, hb2, p20, p21, p22, p23, p24, hx2⟩ := HX.out.2.1.at hlS
      have hlen := HX.out.2.2.2 _ (List.getElem_mem hlS)
      obtain ⟨x, hx⟩ : ∃ x, L[i] = x := ⟨_, rfl⟩
      rw [hx] at p10 p11 p12 p13 p20 p21 p22 p23 hx1 hx2 hlen
      obtain ⟨dp, cl, tg, co, xd⟩ := x
      simp only [] at p10 p11 p12 p13 p20 p21 p22 p23 hx1 hx2 hlen
      obtain ⟨nd, hnd⟩ : ∃ nd, xd.length = nd := ⟨_, rfl⟩
      have e1 : nd = m1 := by obtain ⟨_, _, h, _⟩ := hx1; simp only [Value.slice.injEq] at h; omega
      have e2 : nd = m2 := by obtain ⟨_, _, h, _⟩ := hx2; simp only [Value.slice.injEq] at h; omega
      subst e1
      subst e2
      replace p10 : wr.cell? ⟨b1, o1 + i * 5, none⟩ = some (.int .i64 dp) := (hB.cell hb1).trans p10
      replace p11 : wr.cell? ⟨b1, o1 + i * 5 + 1, none⟩ = some (.int .i64 cl) := (hB.cell hb1).trans p11
      replace p12 : wr.cell? ⟨b1, o1 + i * 5 + 2, none⟩ = some (.int .i64 tg) := (hB.cell hb1).trans p12
      replace p13 : wr.cell? ⟨b1, o1 + i * 5 + 3, none⟩ = some (.bool co) := (hB.cell hb1).trans p13
      replace p14 : wr.cell? ⟨b1, o1 + i * 5 + 4, none⟩ = some (.slice ad1 nd cd1) := (hB.cell hb1).trans p14
      replace p20 : wr.cell? ⟨b2, o2 + i * 5, none⟩ = some (.int .i64 dp) := (hB.cell hb2).trans p20
      replace p21 : wr.cell? ⟨b2, o2 + i * 5 + 1, none⟩ = some (.int .i64 cl) := (hB.cell hb2).trans p21
      replace p22 : wr.cell? ⟨b2, o2 + i * 5 + 2, none⟩ = some (.int .i64 tg) := (hB.cell hb2).trans p22
      replace p23 : wr.cell? ⟨b2, o2 + i * 5 + 3, none⟩ = some (.bool co) := (hB.cell hb2).trans p23
      replace p24 : wr.cell? ⟨b2, o2 + i * 5 + 4, none⟩ = some (.slice ad2 nd cd2) := (hB.cell hb2).trans p24
      have HH : Hid (Below w.heap.size w wr ∧ Sl .u8 w (.slice ad1 nd cd1) xd ∧ Sl .u8 w (.slice ad2 nd cd2) xd ∧ xd.length ≤ 1152921504606846976) := ⟨hB, hx1, hx2, hlen⟩
      clear hx1 hx2 hlen hnd hx hB hlS
      have hb1' : b1 < wr.heap.size := Nat.lt_of_lt_of_le hb1 HH.out.1.size
      have hb2' : b2 < wr.heap.size := Nat.lt_of_lt_of_le hb2 HH.out.1.size
      go_upto_region 6 with (fail)
      have ten : Hid (∀ W, Below wr.heap.size wr W → W.cell? ⟨b1, o1 + i * 5, none⟩ = some (.int .i64 dp) ∧ W.cell? ⟨b1, o1 + i * 5 + 1, none⟩ = some (.int .i64 cl) ∧ W.cell? ⟨b1, o1 + i * 5 + 2, none⟩ = some (.int .i64 tg) ∧ W.cell? ⟨b1, o1 + i * 5 + 3, none⟩ = some (.bool co) ∧ W.cell? ⟨b1, o1 + i * 5 + 4, none⟩ = some (.slice ad1 nd cd1) ∧ W.cell? ⟨b2, o2 + i * 5, none⟩ = some (.int .i64 dp) ∧ W.cell? ⟨b2, o2 + i * 5 + 1, none⟩ = some (.int .i64 cl) ∧ W.cell? ⟨b2, o2 + i * 5 + 2, none⟩ = some (.int .i64 tg) ∧ W.cell? ⟨b2, o2 + i * 5 + 3, none⟩ = some (.bool co) ∧ W.cell? ⟨b2, o2 + i * 5 + 4, none⟩ = some (.slice ad2 nd cd2)) := fun W h =>
        ⟨(h.cell hb1').trans p10, (h.cell hb1').trans p11, (h.cell hb1').trans p12, (h.cell hb1').trans p13, (h.cell hb1').trans p14, (h.cell hb2').trans p20, (h.cell hb2').trans p21, (h.cell hb2').trans p22, (h.cell hb2').trans p23, (h.cell hb2').trans p24⟩
      go_region_held3 (fun W => Below wr.heap.size wr W ∧ W.cell? ⟨b1, o1 + i * 5, none⟩ = some (.int .i64 dp) ∧ W.cell? ⟨b1, o1 + i * 5 + 1, none⟩ = some (.int .i64 cl) ∧ W.cell? ⟨b1, o1 + i * 5 + 2, none⟩ = some (.int .i64 tg) ∧ W.cell? ⟨b1, o1 + i * 5 + 3, none⟩ = some (.bool co) ∧ W.cell? ⟨b1, o1 + i * 5 + 4, none⟩ = some (.slice ad1 nd cd1) ∧ W.cell? ⟨b2, o2 + i * 5, none⟩ = some (.int .i64 dp) ∧ W.cell? ⟨b2, o2 + i * 5 + 1, none⟩ = some (.int .i64 cl) ∧ W.cell? ⟨b2, o2 + i * 5 + 2, none⟩ = some (.int .i64 tg) ∧ W.cell? ⟨b2, o2 + i * 5 + 3, none⟩ = some (.bool co) ∧ W.cell? ⟨b2, o2 + i * 5 + 4, none⟩ = some (.slice ad2 nd cd2)) (first | exact ⟨(Below.refl _ _).drew, ten.out _ (Below.refl _ _).drew⟩ | exact (fun h => ⟨h, ten.out _ h⟩) (al_d (And.left (by assumption))) | exact (fun h => ⟨h, ten.out _ h⟩) al_dd) (fail)
      · go_upto_region 7 with (fail)
        refine wp_gen (fun W => Blk 59 W wr.heap.size [.int .i64 dp, .int .i64 cl, .int .i64 tg, .bool co, .slice ad1 nd cd1] ∧ Blk 59 W (wr.heap.size + 1) [.int .i64 dp, .int .i64 cl, .int .i64 tg, .bool co, .slice ad2 nd cd2] ∧ Below wr.heap.size wr W) ⟨(Blk.new _ wr _).alloc _, blk_nw (by simp) rfl, (by first | exact al_dd | exact al2' (al1 _))⟩ ?_
        rintro w2 ⟨hx, hy, hb2w⟩
        have H2 : Hid (Below w.heap.size w w2) := below_via HH.out.1 hb2w (Nat.le_refl _)
        have x0 : w2.cell? ⟨wr.heap.size, 0, none⟩ = some (.int .i64 dp) := hx.cell 0
        have x1 : w2.cell? ⟨wr.heap.size, 1, none⟩ = some (.int .i64 cl) := hx.cell 1
        have x2 : w2.cell? ⟨wr.heap.size, 2, none⟩ = some (.int .i64 tg) := hx.cell 2
        have x3 : w2.cell? ⟨wr.heap.size, 3, none⟩ = some (.bool co) := hx.cell 3
        have x4 : w2.cell? ⟨wr.heap.size, 4, none⟩ = some (.slice ad1 nd cd1) := hx.cell 4
        have y0 : w2.cell? ⟨(wr.heap.size + 1), 0, none⟩ = some (.int .i64 dp) := hy.cell 0
        have y1 : w2.cell? ⟨(wr.heap.size + 1), 1, none⟩ = some (.int .i64 cl) := hy.cell 1
        have y2 : w2.cell? ⟨(wr.heap.size + 1), 2, none⟩ = some (.int .i64 tg) := hy.cell 2
        have y3 : w2.cell? ⟨(wr.heap.size + 1), 3, none⟩ = some (.bool co) := hy.cell 3
        have y4 : w2.cell? ⟨(wr.heap.size + 1), 4, none⟩ = some (.slice ad2 nd cd2) := hy.cell 4
        clear hx hy hb2w p10 p11 p12 p13 p14 p20 p21 p22 p23 p24 ten
        go_wp2_with fail
        refine (SameBytes_any _ _ xd (below_sl H2.out HH.out.2.1) (below_sl H2.out HH.out.2.2.1) HH.out.2.2.2).mono ?_
        rintro e w3 ⟨rfl, hb3⟩
        have H3 : Hid (Below w.heap.size w w3) := below_via H2.out hb3 (Nat.le_refl _)
        clear hb3 x0 x1 x2 x3 x4 y0 y1 y2 y3 y4
        go_wp2
        go_roundw
        case rel => exact ⟨i + 1, by omega, by go_num, H3.out⟩
        case measure => simp [intOf]; omega
      · go_upto_region 7 with (fail)
        refine wp_gen (fun W => Blk 59 W (wr.heap.size + 1) [.int .i64 dp, .int .i64 cl, .int .i64 tg, .bool co, .slice ad1 nd cd1] ∧ Blk 59 W wr.heap.size [.int .i64 dp, .int .i64 cl, .int .i64 tg, .bool co, .slice ad2 nd cd2] ∧ Below wr.heap.size wr W) ⟨blk_nw (by simp) rfl, (Blk.new _ wr _).alloc _, (by first | exact al_dd | exact al2' (al1 _))⟩ ?_
        rintro w2 ⟨hx, hy, hb2w⟩
        have H2 : Hid (Below w.heap.size w w2) := below_via HH.out.1 hb2w (Nat.le_refl _)
        have x0 : w2.cell? ⟨(wr.heap.size + 1), 0, none⟩ = some (.int .i64 dp) := hx.cell 0
        have x1 : w2.cell? ⟨(wr.heap.size + 1), 1, none⟩ = some (.int .i64 cl) := hx.cell 1
        have x2 : w2.cell? ⟨(wr.heap.size + 1), 2, none⟩ = some (.int .i64 tg) := hx.cell 2
        have x3 : w2.cell? ⟨(wr.heap.size + 1), 3, none⟩ = some (.bool co) := hx.cell 3
        have x4 : w2.cell? ⟨(wr.heap.size + 1), 4, none⟩ = some (.slice ad1 nd cd1) := hx.cell 4
        have y0 : w2.cell? ⟨wr.heap.size, 0, none⟩ = some (.int .i64 dp) := hy.cell 0
        have y1 : w2.cell? ⟨wr.heap.size, 1, none⟩ = some (.int .i64 cl) := hy.cell 1
        have y2 : w2.cell? ⟨wr.heap.size, 2, none⟩ = some (.int .i64 tg) := hy.cell 2
        have y3 : w2.cell? ⟨wr.heap.size, 3, none⟩ = some (.bool co) := hy.cell 3
        have y4 : w2.cell? ⟨wr.heap.size, 4, none⟩ = some (.slice ad2 nd cd2) := hy.cell 4
        clear hx hy hb2w p10 p11 p12 p13 p14 p20 p21 p22 p23 p24 ten
        go_wp2_with fail
        refine (SameBytes_any _ _ xd (below_sl H2.out HH.out.2.1) (below_sl H2.out HH.out.2.2.1) HH.out.2.2.2).mono ?_
        rintro e w3 ⟨rfl, hb3⟩
        have H3 : Hid (Below w.heap.size w w3) := below_via H2.out hb3 (Nat.le_refl _)
        clear hb3 x0 x1 x2 x3 x4 y0 y1 y2 y3 y4
        go_wp2
        go_roundw
        case rel => exact ⟨i + 1, by omega, by go_num, H3.out⟩
        case measure => simp [intOf]; omega
    · obtain rfl : i = n := by omega
      have HB : Hid (Below w.heap.size w wr) := hB
      have l1 : ¬ (i : Int) < (i : Int) := by omega
      clear hB
      go_wp2
      go_ret
      exact ⟨rfl, HB.out⟩
end Go.Proofs.YtefebamomdcaaaaGreatDoor
