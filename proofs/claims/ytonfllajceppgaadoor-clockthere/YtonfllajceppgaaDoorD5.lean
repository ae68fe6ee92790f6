/-
  Clock: the reference's PutUtc, PutGeneral.
-/
import Derived.Test.YtonfllajceppgaaDoorD4
namespace Go.Proofs.YtonfllajceppgaaDoor
open Go.RowKit
theorem conv_run (w : World) (X : List Int) : Sem.run Tryd.prog (convert 9 22 (.string (strOfNums X))) w = .ok (.slice (some ⟨w.heap.size, 0, none⟩) X.length (grownCap w (strOfNums X).size 0 5)) (Lib.bytesWorld w 5 (strOfNums X)) := by
  have := Lib.run_convert_string_bytes (P := Tryd.prog) w _ _ _ (strOfNums X) Tryd.str Tryd.und8 Tryd.e8
  rw [this, st_size]
theorem conv_sl (w : World) (X : List Int) (hU : U8s X) : Sl .u8 (Lib.bytesWorld w 5 (strOfNums X)) (.slice (some ⟨w.heap.size, 0, none⟩) X.length (grownCap w (strOfNums X).size 0 5)) X ∧ Below w.heap.size w (Lib.bytesWorld w 5 (strOfNums X)) := by
  obtain ⟨c, w', h1, h2, h3⟩ := conv_bytes w X hU
  rw [conv_run] at h1
  simp only [Result.ok.injEq, Value.slice.injEq, true_and] at h1
  obtain ⟨rfl, rfl⟩ := h1
  exact ⟨h2, h3⟩
def Hold (w1 : World) (p : Nat) (Y M D h m s : Int) (W : World) : Prop := Below w1.heap.size w1 W ∧ W.cell? ⟨p, 0, none⟩ = some (.int .i64 Y) ∧ W.cell? ⟨p, 1, none⟩ = some (.int .i64 M) ∧ W.cell? ⟨p, 2, none⟩ = some (.int .i64 D) ∧ W.cell? ⟨p, 3, none⟩ = some (.int .i64 h) ∧ W.cell? ⟨p, 4, none⟩ = some (.int .i64 m) ∧ W.cell? ⟨p, 5, none⟩ = some (.int .i64 s)
theorem RDig4 {w : World} (x : Int) (h0 : 0 ≤ x) (h1 : x ≤ 9999) (k : Nat) (hk : k ≤ 14) : Calls Tryd.prog 18 #[.int .i64 x, .int .i64 k] w fun e w' => e = .returned (.string (strOfNums (wd k x.toNat))) ∧ Below w.heap.size w w' := by
  have := RDig_any (w := w) x.toNat k hk (by omega)
  rw [Int.toNat_of_nonneg h0] at this
  exact this
set_option maxRecDepth 100000 in
set_option maxHeartbeats 4000000 in
theorem RPutUtc_any {w : World} (sec : Int) : Calls Tryd.prog 6 #[.int .i64 sec] w fun e w' => ∃ X err, USpec sec X err ∧ PutE X err e w w' := by
  go_enter Tryd.func6, Tryd.ntmps6
  go_wp2_with fail
  refine (RParts_any sec).mono ?_
  rintro e w1 ⟨hP, hb⟩
  have H1 : Hid (Below w.heap.size w w1) := hb
  clear hb
  rcases hP with ⟨r0, r1, t, rfl, hO, hs⟩ | ⟨hn, rfl⟩
  · have HO : Hid (t.Ok ∧ t.sec = sec ∧ (-62167219200 ≤ sec ∧ sec ≤ 253402300799)) := ⟨hO, hs, r0, r1⟩
    clear hs r0 r1
    by_cases hy : 1950 ≤ t.Y ∧ t.Y ≤ 2049
    · have HU : Hid (U8s (utcX t)) := utcX_u8 t
      have HU2 : Hid (USpec sec (utcX t) 0) := .inr ⟨HO.out.2.2, t, HO.out.1, HO.out.2.1, .inr ⟨hy, rfl, rfl⟩⟩
      have HTl : Hid (∀ w : World, Calls Tryd.prog 19 #[.agg t.cells.toArray] w fun e w' => e = .returned (.string (strOfNums (tailX t))) ∧ Below w.heap.size w w') := fun w => Rtail_any t hO.sm
      have HDg : Hid (∀ w : World, Calls Tryd.prog 18 #[.int .i64 t.Y, .int .i64 2] w fun e w' => e = .returned (.string (strOfNums (wd 2 t.Y.toNat))) ∧ Below w.heap.size w w') := fun w => RDig4 t.Y hO.y0 hO.y1 2 (by decide)
      have HA : Hid (strOfNums (wd 2 t.Y.toNat) ++ strOfNums (tailX t) ++ ⟨#[90]⟩ = strOfNums (utcX t)) := by
        show _ = _
        rw [s90, st_append, st_append]; rfl
      have hz1 : (strOfNums (wd 2 t.Y.toNat)).size = 2 := by rw [st_size, wd_len]
      have hz2 : (strOfNums (tailX t)).size = 10 := by rw [st_size]; unfold tailX; simp [wd_len]
      obtain ⟨A, hA⟩ : ∃ A, strOfNums (wd 2 t.Y.toNat) = A := ⟨_, rfl⟩
      obtain ⟨B, hB⟩ : ∃ B, strOfNums (tailX t) = B := ⟨_, rfl⟩
      rw [hA] at HDg HA hz1
      rw [hB] at HTl HA hz2
      obtain ⟨X, hX⟩ : ∃ X, utcX t = X := ⟨_, rfl⟩
      rw [hX] at HA HU HU2
      clear hA hB hX HO hO
      obtain ⟨Y, M, D, h, m, s⟩ := t
      have y0 : ¬ Y < 1950 := by simp only at hy; omega
      have y1 : ¬ 2049 < Y := by simp only at hy; omega
      clear hy
      unfold Mo.cells at HTl ⊢
      simp only at HDg
      go_upto_region 4 with (fail)
      refine wp_gen (fun W => Blk 40 W w1.heap.size (Mo.cells ⟨Y, M, D, h, m, s⟩) ∧ Below w.heap.size w W) ⟨Blk.new _ _ _, al2' H1.out⟩ ?_
      rintro w2 ⟨hBk, hb⟩
      have H2 : Hid (Below w.heap.size w w2) := hb
      have hb0 : Below w2.heap.size w2 w2 := Below.refl _ _
      have hcv : ∀ W, Sem.run Tryd.prog (convert 9 22 (.string (A ++ B ++ ⟨#[90]⟩))) W = .ok (.slice (some ⟨W.heap.size, 0, none⟩) X.length (grownCap W (strOfNums X).size 0 5)) (Lib.bytesWorld W 5 (strOfNums X)) := fun W => by rw [HA.out]; exact conv_run W X
      have HCV : Hid (∀ W, Below W.heap.size W (Lib.bytesWorld W 5 (strOfNums X))) := fun W => (conv_sl W X HU.out).2
      have HKS : Hid (∀ W, Below w2.heap.size w2 W → Below w2.heap.size w2 W ∧ W.cell? ⟨w1.heap.size, 0, none⟩ = some (.int .i64 Y) ∧ W.cell? ⟨w1.heap.size, 1, none⟩ = some (.int .i64 M) ∧ W.cell? ⟨w1.heap.size, 2, none⟩ = some (.int .i64 D) ∧ W.cell? ⟨w1.heap.size, 3, none⟩ = some (.int .i64 h) ∧ W.cell? ⟨w1.heap.size, 4, none⟩ = some (.int .i64 m) ∧ W.cell? ⟨w1.heap.size, 5, none⟩ = some (.int .i64 s)) := fun W hW => by
        have := Mo.facts (below_blk hW hBk.lt hBk)
        exact ⟨hW, this.1, this.2.1, this.2.2.1, this.2.2.2.1, this.2.2.2.2.1, this.2.2.2.2.2.1⟩
      clear hBk hb
      go_region_held (fun W => Below w2.heap.size w2 W ∧ W.cell? ⟨w1.heap.size, 0, none⟩ = some (.int .i64 Y) ∧ W.cell? ⟨w1.heap.size, 1, none⟩ = some (.int .i64 M) ∧ W.cell? ⟨w1.heap.size, 2, none⟩ = some (.int .i64 D) ∧ W.cell? ⟨w1.heap.size, 3, none⟩ = some (.int .i64 h) ∧ W.cell? ⟨w1.heap.size, 4, none⟩ = some (.int .i64 m) ∧ W.cell? ⟨w1.heap.size, 5, none⟩ = some (.int .i64 s)) ((refine HKS.out _ ?_; first | exact hb0.drew | exact Below.drew (And.left (by assumption)) | exact And.left (by assumption) | exact below_via (And.left (by assumption)) hb2 (Nat.le_refl _) | exact below_via (And.left (by assumption)) (HCV.out _) (Nat.le_refl _) | exact Below.drew (below_via (And.left (by assumption)) hb2 (Nat.le_refl _)))) (first | (go_at_call 18; refine (HDg.out _).mono ?_; rintro e w3 ⟨rfl, hb2⟩) | (go_at_call 19; refine (HTl.out _).mono ?_; rintro e w3 ⟨rfl, hb2⟩))
      all_goals
        rename_i hHeld
        have H3 : Hid (Below w.heap.size w (Lib.bytesWorld w3 5 (strOfNums X))) := below_via H2.out hHeld.1 (Nat.le_refl _)
        have H4 := (conv_sl w3 X HU.out).1
        have H5 : Hid _ := H4
        clear hHeld H4
        go_wp2
        go_ret2
        exact ⟨X, 0, HU2.out, _, _, rfl, H5.out, H3.out⟩
    · have HU2 : Hid (USpec sec [] 50) := .inr ⟨HO.out.2.2, t, HO.out.1, HO.out.2.1, .inl ⟨hy, rfl, rfl⟩⟩
      obtain ⟨Y, M, D, h, m, s⟩ := t
      simp only at hy
      have cs : Y < 1950 ∨ (¬ Y < 1950 ∧ 2049 < Y) := by omega
      clear hy hO HO
      unfold Mo.cells
      rcases cs with c1 | ⟨c1, c2⟩
      all_goals
        go_wp2
        go_ret2
        exact ⟨[], 50, HU2.out, nil_put (al2' H1.out)⟩
  · have HU2 : Hid (USpec sec [] 50) := .inl ⟨hn, rfl, rfl⟩
    clear hn
    unfold Mo.cells
    go_wp2
    go_ret2
    exact ⟨[], 50, HU2.out, nil_put (al2' H1.out)⟩
set_option maxRecDepth 100000 in
theorem trim_end (X : List Int) (y : Int) (h : y ≠ 48) : trimZ (X ++ [y]) = X ++ [y] := by
  unfold trimZ
  rw [List.reverse_append]
  have : (y == 48) = false := by simpa using h
  simp [this]
theorem trim_cut (X : List Int) : trimZ (X ++ [48]) = trimZ X := by
  unfold trimZ
  rw [List.reverse_append]
  simp
theorem split_last (X : List Int) (h : X ≠ []) : ∃ Z y, X = Z ++ [y] ∧ Z.length + 1 = X.length := by
  refine ⟨X.dropLast, X.getLast h, (List.dropLast_concat_getLast h).symm, ?_⟩
  rw [List.length_dropLast]
  have := List.length_pos_iff.2 h
  omega
theorem trim_none : ∀ (k u : Nat), u < 10 ^ k → trimZ (wd k u) = [] → u = 0
  | 0, u, h, _ => by simp at h; exact h
  | k + 1, u, h, ht => by
    by_cases hd : u % 10 = 0
    · have e : wd (k + 1) u = wd k (u / 10) ++ [48] := by
        show wd k (u / 10) ++ [48 + ((u % 10 : Nat) : Int)] = _
        rw [hd]; rfl
      rw [e, trim_cut] at ht
      have := trim_none k (u / 10) (by rw [Nat.pow_succ] at h; omega) ht
      omega
    · have e : wd (k + 1) u = wd k (u / 10) ++ [48 + ((u % 10 : Nat) : Int)] := rfl
      rw [e, trim_end _ _ (by omega)] at ht
      simp at ht
set_option maxRecDepth 100000 in
set_option maxHeartbeats 4000000 in
theorem RPutGeneral_any {w : World} (sec micro : Int) : Calls Tryd.prog 8 #[.int .i64 sec, .int .i64 micro] w fun e w' => ∃ X err, GSpec sec micro X err ∧ PutE X err e w w' := by
  by_cases hm : 0 ≤ micro ∧ micro < 1000000
  · obtain ⟨n, rfl⟩ := Int.eq_ofNat_of_zero_le hm.1
    have m0 : ¬ (n : Int) < 0 := by omega
    have m1 : ¬ (999999 : Int) < (n : Int) := by omega
    have HM : Hid (0 ≤ (n : Int) ∧ (n : Int) < 1000000) := hm
    clear hm
    go_enter Tryd.func8, Tryd.ntmps8
    go_wp2_with fail
    refine (RParts_any sec).mono ?_
    rintro e w1 ⟨hP, hb⟩
    have H1 : Hid (Below w.heap.size w w1) := hb
    clear hb
    rcases hP with ⟨_, _, t, rfl, hO, hs⟩ | ⟨hn, rfl⟩
    · have HU2 : Hid (GSpec sec n (genX t n) 0) := .inr (.inr ⟨HM.out, t, hO, hs, by simp, rfl⟩)
      have HU : Hid (U8s (genX t n)) := genX_u8 t n
      have HTl : Hid (∀ w : World, Calls Tryd.prog 19 #[.agg t.cells.toArray] w fun e w' => e = .returned (.string (strOfNums (tailX t))) ∧ Below w.heap.size w w') := fun w => Rtail_any t hO.sm
      have HDg : Hid (∀ w : World, Calls Tryd.prog 18 #[.int .i64 t.Y, .int .i64 4] w fun e w' => e = .returned (.string (strOfNums (wd 4 t.Y.toNat))) ∧ Below w.heap.size w w') := fun w => RDig4 t.Y hO.y0 hO.y1 4 (by decide)
      have HD6 : Hid (∀ w : World, Calls Tryd.prog 18 #[.int .i64 n, .int .i64 6] w fun e w' => e = .returned (.string (strOfNums (wd 6 n))) ∧ Below w.heap.size w w') := fun w => RDig_any n 6 (by decide) (by have := HM.out; omega)
      have HG : Hid (strOfNums (wd 4 t.Y.toNat) ++ strOfNums (tailX t) = strOfNums (wd 4 t.Y.toNat ++ tailX t)) := st_append _ _
      have HGX : Hid (genX t n = wd 4 t.Y.toNat ++ tailX t ++ fr n ++ [90]) := rfl
      have hz1 : (strOfNums (wd 4 t.Y.toNat)).size = 4 := by rw [st_size, wd_len]
      have hz2 : (strOfNums (tailX t)).size = 10 := by rw [st_size]; unfold tailX; simp [wd_len]
      obtain ⟨K, hK⟩ : ∃ K, wd 4 t.Y.toNat ++ tailX t = K := ⟨_, rfl⟩
      have hKl : K.length = 14 := by rw [← hK]; unfold tailX; simp [wd_len]
      rw [hK] at HG HGX
      obtain ⟨A, hA⟩ : ∃ A, strOfNums (wd 4 t.Y.toNat) = A := ⟨_, rfl⟩
      obtain ⟨B, hB⟩ : ∃ B, strOfNums (tailX t) = B := ⟨_, rfl⟩
      rw [hA] at HDg HG hz1
      rw [hB] at HTl HG hz2
      obtain ⟨X, hX⟩ : ∃ X, genX t n = X := ⟨_, rfl⟩
      rw [hX] at HGX HU HU2
      clear hA hB hX hK hO hs
      obtain ⟨Y, M, D, h, m, s⟩ := t
      unfold Mo.cells at HTl ⊢
      simp only at HDg
      go_upto_region 6 with (fail)
      refine wp_gen (fun W => Blk 40 W w1.heap.size (Mo.cells ⟨Y, M, D, h, m, s⟩) ∧ Below w.heap.size w W) ⟨Blk.new _ _ _, al2' H1.out⟩ ?_
      rintro w2 ⟨hBk, hb⟩
      have H2 : Hid (Below w.heap.size w w2) := hb
      have hb0 : Below w2.heap.size w2 w2 := Below.refl _ _
      have HKS : Hid (∀ W, Below w2.heap.size w2 W → Below w2.heap.size w2 W ∧ W.cell? ⟨w1.heap.size, 0, none⟩ = some (.int .i64 Y) ∧ W.cell? ⟨w1.heap.size, 1, none⟩ = some (.int .i64 M) ∧ W.cell? ⟨w1.heap.size, 2, none⟩ = some (.int .i64 D) ∧ W.cell? ⟨w1.heap.size, 3, none⟩ = some (.int .i64 h) ∧ W.cell? ⟨w1.heap.size, 4, none⟩ = some (.int .i64 m) ∧ W.cell? ⟨w1.heap.size, 5, none⟩ = some (.int .i64 s)) := fun W hW => by
        have := Mo.facts (below_blk hW hBk.lt hBk)
        exact ⟨hW, this.1, this.2.1, this.2.2.1, this.2.2.2.1, this.2.2.2.2.1, this.2.2.2.2.2.1⟩
      clear hBk hb
      go_region_held3 (fun W => Below w2.heap.size w2 W ∧ W.cell? ⟨w1.heap.size, 0, none⟩ = some (.int .i64 Y) ∧ W.cell? ⟨w1.heap.size, 1, none⟩ = some (.int .i64 M) ∧ W.cell? ⟨w1.heap.size, 2, none⟩ = some (.int .i64 D) ∧ W.cell? ⟨w1.heap.size, 3, none⟩ = some (.int .i64 h) ∧ W.cell? ⟨w1.heap.size, 4, none⟩ = some (.int .i64 m) ∧ W.cell? ⟨w1.heap.size, 5, none⟩ = some (.int .i64 s)) ((refine HKS.out _ ?_; first | exact hb0.drew | exact Below.drew (And.left (by assumption)) | exact And.left (by assumption) | exact below_via (And.left (by assumption)) hb2 (Nat.le_refl _) | exact Below.drew (below_via (And.left (by assumption)) hb2 (Nat.le_refl _)))) (first | (go_at_call 18; refine (HDg.out _).mono ?_; rintro e w3 ⟨rfl, hb2⟩) | (go_at_call 19; refine (HTl.out _).mono ?_; rintro e w3 ⟨rfl, hb2⟩))
      rename_i hHeld
      have H3 : Hid (Below w.heap.size w w3) := below_via H2.out hHeld.1 (Nat.le_refl _)
      clear hHeld
      rw [HG.out]
      have hKz : (strOfNums K).size = 14 := by rw [st_size]; exact hKl
      by_cases hn0 : n = 0
      · subst hn0
        have HXe : Hid (strOfNums K ++ ⟨#[90]⟩ = strOfNums X) := by
          show _ = _
          rw [s90, st_append, HGX.out]; simp [fr]
        obtain ⟨KS, hKS⟩ : ∃ S, strOfNums K = S := ⟨_, rfl⟩
        rw [hKS] at HXe hKz ⊢
        clear hKS
        have hcv : ∀ W, Sem.run Tryd.prog (convert 9 22 (.string (KS ++ ⟨#[90]⟩))) W = .ok (.slice (some ⟨W.heap.size, 0, none⟩) X.length (grownCap W (strOfNums X).size 0 5)) (Lib.bytesWorld W 5 (strOfNums X)) := fun W => by rw [HXe.out]; exact conv_run W X
        go_wp2
        go_ret2
        exact ⟨X, 0, HU2.out, _, _, rfl, (conv_sl w3 X HU.out).1, below_via H3.out (conv_sl w3 X HU.out).2 (Nat.le_refl _)⟩
      · have n0 : (0 : Int) < (n : Int) := by omega
        have HT0 : Hid (trimZ (wd 6 n) ≠ []) := fun h => hn0 (trim_none 6 n (by have := HM.out; omega) h)
        have HFR : Hid (fr n = 46 :: trimZ (wd 6 n)) := by show _ = _; unfold fr; rw [if_neg hn0]
        obtain ⟨KS, hKS⟩ : ∃ S, strOfNums K = S := ⟨_, rfl⟩
        have HKS2 : Hid (strOfNums K = KS) := hKS
        rw [hKS] at hKz ⊢
        clear hKS hn0
        go_wp2_with fail
        refine (HD6.out _).mono ?_
        rintro e w4 ⟨rfl, hb2⟩
        have H4 : Hid (Below w.heap.size w w4) := below_via H3.out hb2 (Nat.le_refl _)
        clear hb2
        go_wp2_with fail
        go_loopw [9] (fun tv wr => ∃ (Z : List Int) (S : ByteArray), tv = .string S ∧ strOfNums Z = S ∧ Z.length ≤ 6 ∧ Dgs Z ∧ trimZ Z = trimZ (wd 6 n) ∧ Below w.heap.size w wr) (fun tv _ => match tv with | .string S => S.size | _ => 0)
        case atStart => exact ⟨wd 6 n, _, rfl, rfl, by rw [wd_len]; decide, wd_dgs 6 n, rfl, H4.out⟩
        case round =>
          obtain ⟨Z, S, rfl, hS, hZl, hZd, hZt, hb⟩ := hrel
          have hne : Z ≠ [] := by
            rintro rfl
            exact HT0.out (by rw [← hZt]; rfl)
          obtain ⟨V, y, hV, hVl⟩ := split_last Z hne
          obtain ⟨k, hk⟩ : ∃ k, V.length = k := ⟨_, rfl⟩
          rw [hk] at hVl
          have hSz : S.size = k + 1 := by rw [← hS, st_size]; omega
          have hyd : Dg y := hZd y (by rw [hV]; simp)
          have hgy : Z.getD k 0 = y := by rw [hV, ← hk]; simp
          have hX : ∀ hh : k < S.size, ((S[k]'hh).toNat : Int) = y := by
            intro hh
            have := st_get Z (dgs_u8 hZd) k (by omega) (by rw [hS]; exact hh)
            rw [hgy] at this
            simpa only [hS] using this
          have HB : Hid (Below w.heap.size w wr ∧ strOfNums Z = S ∧ Z.length ≤ 6 ∧ Dgs Z ∧ trimZ Z = trimZ (wd 6 n) ∧ Z = V ++ [y] ∧ V.length = k ∧ S.size = k + 1) := ⟨hb, hS, hZl, hZd, hZt, hV, hk, hSz⟩
          have kz : (k : Int) ≤ 5 := by omega
          have sz : (S.size : Int) = (k : Int) + 1 := by omega
          have kl : (k : Int) < (S.size : Int) := by omega
          have y0 := hyd.1
          have y1 := hyd.2
          clear hb hS hZl hZd hZt hV hk hSz hne hVl hgy hyd
          by_cases h48 : y = 48
          · have y48 : (y == 48) = true := by simp [h48]
            have hex : S.extract 0 k = strOfNums V := by
              rw [← HB.out.2.1, st_extract, HB.out.2.2.2.2.2.1, ← HB.out.2.2.2.2.2.2.1]
              simp
            have HE : Hid (S.extract 0 k = strOfNums V) := hex
            have HV : Hid (Dgs V ∧ trimZ V = trimZ (wd 6 n)) := ⟨fun x hx => HB.out.2.2.2.1 x (by rw [HB.out.2.2.2.2.2.1]; simp [hx]), by rw [← HB.out.2.2.2.2.1, HB.out.2.2.2.2.2.1, h48, trim_cut]⟩
            clear hex h48
            go_wp2
            go_roundw
            case rel => exact ⟨V, _, rfl, HE.out.symm, by have := HB.out.2.2.1; have := HB.out.2.2.2.2.2.2.1; have := congrArg List.length HB.out.2.2.2.2.2.1; simp at this; omega, HV.out.1, HV.out.2, HB.out.1⟩
            case measure =>
              simp only
              rw [HE.out, st_size, HB.out.2.2.2.2.2.2.1, HB.out.2.2.2.2.2.2.2]; omega
          · have y48 : (y == 48) = false := by simp [h48]
            have HZ : Hid (trimZ (wd 6 n) = Z) := by
              show _ = _
              rw [← HB.out.2.2.2.2.1, HB.out.2.2.2.2.2.1, trim_end _ _ h48]
            have HXe : Hid (KS ++ ⟨#[46]⟩ ++ S ++ ⟨#[90]⟩ = strOfNums X) := by
              show _ = _
              rw [HGX.out, HFR.out, HZ.out, ← HKS2.out, ← HB.out.2.1, s90, show (⟨#[46]⟩ : ByteArray) = strOfNums [46] from rfl, st_append, st_append, st_append]
              simp
            have hcv : ∀ W, Sem.run Tryd.prog (convert 9 22 (.string (KS ++ ⟨#[46]⟩ ++ S ++ ⟨#[90]⟩))) W = .ok (.slice (some ⟨W.heap.size, 0, none⟩) X.length (grownCap W (strOfNums X).size 0 5)) (Lib.bytesWorld W 5 (strOfNums X)) := fun W => by rw [HXe.out]; exact conv_run W X
            have s6 : S.size ≤ 6 := by have := HB.out.2.2.2.2.2.2.2; omega
            clear h48
            go_wp2
            go_ret2
            exact ⟨X, 0, HU2.out, _, _, rfl, (conv_sl wr X HU.out).1, below_via HB.out.1 (conv_sl wr X HU.out).2 (Nat.le_refl _)⟩
    · have HNn : Hid (¬ (-62167219200 ≤ sec ∧ sec ≤ 253402300799)) := hn
      clear hn
      unfold Mo.cells
      go_wp2
      go_ret2
      exact ⟨[], 50, .inr (.inl ⟨HM.out, HNn.out, rfl, rfl⟩), nil_put (al2' H1.out)⟩
  · have HM : Hid (¬ (0 ≤ micro ∧ micro < 1000000)) := hm
    have cs : micro < 0 ∨ (¬ micro < 0 ∧ 999999 < micro) := by omega
    clear hm
    rcases cs with c1 | ⟨c1, c2⟩
    all_goals
      go_enter Tryd.func8, Tryd.ntmps8
      go_wp2
      go_ret2
      exact ⟨[], 1, .inl ⟨HM.out, rfl, rfl⟩, nil_put (Below.refl _ _)⟩
end Go.Proofs.YtonfllajceppgaaDoor
