/-
  Clock: PutGeneral, PutUtc.
-/
import Derived.Test.YtonfllajceppgaaDoorD2
namespace Go.Proofs.YtonfllajceppgaaDoor
open Go.RowKit
def genX (t : Mo) (m : Nat) : List Int := wd 4 t.Y.toNat ++ tailX t ++ fr m ++ [90]
def utcX (t : Mo) : List Int := wd 2 t.Y.toNat ++ tailX t ++ [90]
def GSpec (sec micro : Int) (X : List Int) (err : Int) : Prop :=
  (¬ (0 ≤ micro ∧ micro < 1000000) ∧ X = [] ∧ err = 1) ∨
  ((0 ≤ micro ∧ micro < 1000000) ∧ ¬ (-62167219200 ≤ sec ∧ sec ≤ 253402300799) ∧ X = [] ∧ err = 50) ∨
  ((0 ≤ micro ∧ micro < 1000000) ∧ ∃ t : Mo, t.Ok ∧ t.sec = sec ∧ X = genX t micro.toNat ∧ err = 0)
def USpec (sec : Int) (X : List Int) (err : Int) : Prop :=
  (¬ (-62167219200 ≤ sec ∧ sec ≤ 253402300799) ∧ X = [] ∧ err = 50) ∨
  ((-62167219200 ≤ sec ∧ sec ≤ 253402300799) ∧ ∃ t : Mo, t.Ok ∧ t.sec = sec ∧ ((¬ (1950 ≤ t.Y ∧ t.Y ≤ 2049) ∧ X = [] ∧ err = 50) ∨ ((1950 ≤ t.Y ∧ t.Y ≤ 2049) ∧ X = utcX t ∧ err = 0)))
def PutE (X : List Int) (err : Int) (e : Ending) (w w' : World) : Prop := ∃ a c, e = .returned (.tuple #[.slice a X.length c, .int .i64 err]) ∧ Sl .u8 w' (.slice a X.length c) X ∧ Below w.heap.size w w'
theorem nil_put {w w' : World} {err : Int} (h : Below w.heap.size w w') : PutE [] err (.returned (.tuple #[.slice none 0 0, .int .i64 err])) w w' := ⟨none, 0, rfl, nil_sl _, h⟩
theorem fr_u8 (m : Nat) : U8s (fr m) := by
  unfold fr
  split
  · exact nil_u8
  · intro x hx
    rcases List.mem_cons.1 hx with rfl | hx
    · unfold U8; omega
    · refine dgs_u8 (wd_dgs 6 m) x ?_
      unfold trimZ at hx
      exact List.mem_reverse.1 ((List.dropWhile_sublist _).subset (List.mem_reverse.1 hx))
theorem fr_len (m : Nat) : (fr m).length ≤ 7 := by
  unfold fr
  split
  · simp
  · have := trim_len (wd 6 m)
    rw [wd_len] at this
    simp; omega
theorem tail_u8 (t : Mo) : U8s (tailX t) := by
  unfold tailX
  exact ((((dgs_u8 (wd_dgs _ _)).append (dgs_u8 (wd_dgs _ _))).append (dgs_u8 (wd_dgs _ _))).append (dgs_u8 (wd_dgs _ _))).append (dgs_u8 (wd_dgs _ _))
theorem z_u8 : U8s [90] := by intro x hx; rw [List.mem_singleton.1 hx]; unfold U8; omega
theorem genX_u8 (t : Mo) (m : Nat) : U8s (genX t m) := by
  unfold genX
  exact (((dgs_u8 (wd_dgs _ _)).append (tail_u8 t)).append (fr_u8 m)).append z_u8
theorem utcX_u8 (t : Mo) : U8s (utcX t) := by
  unfold utcX
  exact ((dgs_u8 (wd_dgs _ _)).append (tail_u8 t)).append z_u8
set_option maxRecDepth 100000 in
set_option maxHeartbeats 2000000 in
theorem PutGeneral_any {w : World} (sec micro : Int) (hT : P10 w) : Calls Tryd.prog 7 #[.int .i64 sec, .int .i64 micro] w fun e w' => ∃ X err, GSpec sec micro X err ∧ PutE X err e w w' := by
  have HT : Hid (P10 w) := hT
  clear hT
  by_cases hm : 0 ≤ micro ∧ micro < 1000000
  · obtain ⟨m, rfl⟩ := Int.eq_ofNat_of_zero_le hm.1
    have m0 : ¬ (m : Int) < 0 := by omega
    have m1 : ¬ (1000000 : Int) ≤ (m : Int) := by omega
    have HM : Hid (0 ≤ (m : Int) ∧ (m : Int) < 1000000) := hm
    clear hm
    go_enter Tryd.func7, Tryd.ntmps7
    go_wp2_with fail
    refine (Parts_any sec).mono ?_
    rintro e w1 ⟨hP, hb⟩
    have H1 : Hid (Below w.heap.size w w1) := hb
    clear hb
    rcases hP with ⟨_, _, t, rfl, hO, hs⟩ | ⟨hn, rfl⟩
    · have HO : Hid (t.Ok ∧ t.sec = sec) := ⟨hO, hs⟩
      have HJ : Hid (∀ w : World, Calls Tryd.prog 16 #[.agg t.cells.toArray] w fun e w' => e = .returned (.int .i64 (((joinN t).toNat : Nat) : Int)) ∧ Below w.heap.size w w') := fun w => by
        have := joined_b (w := w) t hO.sm
        have e : joinN t = (((joinN t).toNat : Nat) : Int) := by
          have s := hO.sm
          have y0 := s.y0; have m0 := s.m0; have d0 := s.d0; have h0 := s.h0; have i0 := s.i0; have s0 := s.s0
          unfold joinN; omega
        rw [e] at this
        exact this
      have hJ14 : (joinN t).toNat < 10 ^ 14 := by
        have s := hO.sm
        have y1 := s.y1; have m1 := s.m1; have d1 := s.d1; have h1 := s.h1; have i1 := s.i1; have s1 := s.s1
        have y0 := s.y0; have m0 := s.m0; have d0 := s.d0; have h0 := s.h0; have i0 := s.i0; have s0 := s.s0
        unfold joinN; omega
      have hwj := wd_joined t hO.sm 4
      obtain ⟨J, hJ⟩ : ∃ J, (joinN t).toNat = J := ⟨_, rfl⟩
      rw [hJ] at HJ hJ14 hwj
      have HD : Hid (∀ w, P10 w → Calls Tryd.prog 15 #[.int .i64 J, .int .i64 14] w fun e w' => e = .returned (.string (strOfNums (wd 14 J))) ∧ Below w.heap.size w w') := fun w h => digits_any J 13 (by decide) hJ14 h
      have HA : Hid (strOfNums (wd 14 J) ++ strOfNums (fr m) ++ ⟨#[90]⟩ = strOfNums (genX t m)) := by
        show _ = _
        rw [s90, st_append, st_append, hwj]; rfl
      have hz1 : (strOfNums (wd 14 J)).size = 14 := by rw [st_size, wd_len]
      have hz2 : (strOfNums (fr m)).size ≤ 7 := by rw [st_size]; exact fr_len m
      have HF : Hid (∀ w, P10 w → Calls Tryd.prog 20 #[.int .i64 m] w fun e w' => e = .returned (.string (strOfNums (fr m))) ∧ Below w.heap.size w w') := fun w h => fraction_any m (by have := HM.out; omega) h
      obtain ⟨A, hA⟩ : ∃ A, strOfNums (wd 14 J) = A := ⟨_, rfl⟩
      obtain ⟨B, hB⟩ : ∃ B, strOfNums (fr m) = B := ⟨_, rfl⟩
      rw [hA] at HD HA hz1
      rw [hB] at HF HA hz2
      clear hA hB hJ hwj hJ14 hO hs
      unfold Mo.cells at HJ ⊢
      go_wp2_with fail
      refine (HJ.out _).mono ?_
      rintro e w2 ⟨rfl, hb⟩
      have H2 : Hid (Below w.heap.size w w2) := below_via (al2' H1.out) hb (Nat.le_refl _)
      clear hb
      go_wp2_with fail
      refine (HD.out _ (Tabs_below HT.out H2.out)).mono ?_
      rintro e w3 ⟨rfl, hb⟩
      have H3 : Hid (Below w.heap.size w w3) := below_via H2.out hb (Nat.le_refl _)
      clear hb
      go_wp2_with fail
      refine (HF.out _ (Tabs_below HT.out H3.out)).mono ?_
      rintro e w4 ⟨rfl, hb⟩
      have H4 : Hid (Below w.heap.size w w4) := below_via H3.out hb (Nat.le_refl _)
      clear hb
      obtain ⟨c, w5, hcv, hSl, hb5⟩ := conv_bytes w4 (genX t m) (genX_u8 t m)
      rw [← HA.out] at hcv
      have H5 : Hid (Sl .u8 w5 (.slice (some ⟨w4.heap.size, 0, none⟩) (genX t m).length c) (genX t m) ∧ Below w.heap.size w w5) := ⟨hSl, below_via H4.out hb5 (Nat.le_refl _)⟩
      clear hSl hb5
      go_wp2
      go_ret2
      exact ⟨genX t m, 0, .inr (.inr ⟨HM.out, t, HO.out.1, HO.out.2, rfl, rfl⟩), _, _, rfl, H5.out.1, H5.out.2⟩
    · have HNn : Hid (¬ (-62167219200 ≤ sec ∧ sec ≤ 253402300799)) := hn
      clear hn
      unfold Mo.cells
      go_wp2
      go_ret2
      exact ⟨[], 50, .inr (.inl ⟨HM.out, HNn.out, rfl, rfl⟩), nil_put (al2' H1.out)⟩
  · have HM : Hid (¬ (0 ≤ micro ∧ micro < 1000000)) := hm
    have cs : micro < 0 ∨ (¬ micro < 0 ∧ 1000000 ≤ micro) := by omega
    clear hm
    rcases cs with c1 | ⟨c1, c2⟩
    all_goals
      go_enter Tryd.func7, Tryd.ntmps7
      go_wp2
      go_ret2
      exact ⟨[], 1, .inl ⟨HM.out, rfl, rfl⟩, nil_put (Below.refl _ _)⟩
set_option maxRecDepth 100000 in
set_option maxHeartbeats 2000000 in
theorem PutUtc_any {w : World} (sec : Int) (hT : P10 w) : Calls Tryd.prog 5 #[.int .i64 sec] w fun e w' => ∃ X err, USpec sec X err ∧ PutE X err e w w' := by
  have HT : Hid (P10 w) := hT
  clear hT
  go_enter Tryd.func5, Tryd.ntmps5
  go_wp2_with fail
  refine (Parts_any sec).mono ?_
  rintro e w1 ⟨hP, hb⟩
  have H1 : Hid (Below w.heap.size w w1) := hb
  clear hb
  rcases hP with ⟨r0, r1, t, rfl, hO, hs⟩ | ⟨hn, rfl⟩
  · have HO : Hid (t.Ok ∧ t.sec = sec ∧ (-62167219200 ≤ sec ∧ sec ≤ 253402300799)) := ⟨hO, hs, r0, r1⟩
    clear hs r0 r1
    by_cases hy : 1950 ≤ t.Y ∧ t.Y ≤ 2049
    · have hS : ({ t with Y := t.Y % 100 } : Mo).Sm := by
        have s := hO.sm
        exact ⟨by simp only; omega, by simp only; omega, s.m0, s.m1, s.d0, s.d1, s.h0, s.h1, s.i0, s.i1, s.s0, s.s1⟩
      have HJ : Hid (∀ w : World, Calls Tryd.prog 16 #[.agg ({ t with Y := t.Y % 100 } : Mo).cells.toArray] w fun e w' => e = .returned (.int .i64 (((joinN { t with Y := t.Y % 100 }).toNat : Nat) : Int)) ∧ Below w.heap.size w w') := fun w => by
        have := joined_b (w := w) _ hS
        have e : joinN { t with Y := t.Y % 100 } = (((joinN { t with Y := t.Y % 100 }).toNat : Nat) : Int) := by
          have s := hS
          have y0 := s.y0; have m0 := s.m0; have d0 := s.d0; have h0 := s.h0; have i0 := s.i0; have s0 := s.s0
          simp only at y0 m0 d0 h0 i0 s0
          unfold joinN; simp only; omega
        rw [e] at this
        exact this
      have hJ12 : (joinN { t with Y := t.Y % 100 }).toNat < 10 ^ 12 := by
        have s := hO.sm
        have m1 := s.m1; have d1 := s.d1; have h1 := s.h1; have i1 := s.i1; have s1 := s.s1
        have m0 := s.m0; have d0 := s.d0; have h0 := s.h0; have i0 := s.i0; have s0 := s.s0
        unfold joinN; simp only; omega
      have hwj := wd_joined _ hS 2
      have hy2 : wd 2 (t.Y % 100).toNat = wd 2 t.Y.toNat := by
        have e : t.Y.toNat = (t.Y.toNat / 100) * 10 ^ 2 + (t.Y % 100).toNat := by omega
        rw [e, wd_low]
      obtain ⟨J, hJ⟩ : ∃ J, (joinN { t with Y := t.Y % 100 }).toNat = J := ⟨_, rfl⟩
      rw [hJ] at HJ hJ12 hwj
      have HD : Hid (∀ w, P10 w → Calls Tryd.prog 15 #[.int .i64 J, .int .i64 12] w fun e w' => e = .returned (.string (strOfNums (wd 12 J))) ∧ Below w.heap.size w w') := fun w h => digits_any J 11 (by decide) hJ12 h
      have HA : Hid (strOfNums (wd 12 J) ++ ⟨#[90]⟩ = strOfNums (utcX t)) := by
        show _ = _
        rw [s90, st_append, hwj]
        unfold utcX
        rw [← hy2]; rfl
      have hz1 : (strOfNums (wd 12 J)).size = 12 := by rw [st_size, wd_len]
      obtain ⟨A, hA⟩ : ∃ A, strOfNums (wd 12 J) = A := ⟨_, rfl⟩
      rw [hA] at HD HA hz1
      have HY : Hid (1950 ≤ t.Y ∧ t.Y ≤ 2049) := hy
      have HU : Hid (U8s (utcX t)) := utcX_u8 t
      have HU2 : Hid (USpec sec (utcX t) 0) := .inr ⟨HO.out.2.2, t, HO.out.1, HO.out.2.1, .inr ⟨hy, rfl, rfl⟩⟩
      obtain ⟨X, hX⟩ : ∃ X, utcX t = X := ⟨_, rfl⟩
      rw [hX] at HA HU HU2
      clear hA hJ hwj hJ12 hy2 hS hX HO hO
      obtain ⟨Y, M, D, h, m, s⟩ := t
      have y0 : ¬ Y < 1950 := by have := HY.out; simp only at this; omega
      have y1 : ¬ 2049 < Y := by have := HY.out; simp only at this; omega
      clear hy
      unfold Mo.cells at HJ ⊢
      simp only at HJ
      go_wp2_with fail
      refine (HJ.out _).mono ?_
      rintro e w2 ⟨rfl, hb⟩
      have H2 : Hid (Below w.heap.size w w2) := below_via (al2' H1.out) hb (Nat.le_refl _)
      clear hb
      go_wp2_with fail
      refine (HD.out _ (Tabs_below HT.out H2.out)).mono ?_
      rintro e w3 ⟨rfl, hb⟩
      have H3 : Hid (Below w.heap.size w w3) := below_via H2.out hb (Nat.le_refl _)
      clear hb
      obtain ⟨c, w5, hcv, hSl, hb5⟩ := conv_bytes w3 X HU.out
      rw [← HA.out] at hcv
      have H5 : Hid (Sl .u8 w5 (.slice (some ⟨w3.heap.size, 0, none⟩) X.length c) X ∧ Below w.heap.size w w5) := ⟨hSl, below_via H3.out hb5 (Nat.le_refl _)⟩
      clear hSl hb5
      go_wp2
      go_ret2
      exact ⟨X, 0, HU2.out, _, _, rfl, H5.out.1, H5.out.2⟩
    · have HU2 : Hid (USpec sec [] 50) := .inr ⟨HO.out.2.2, t, HO.out.1, HO.out.2.1, .inl ⟨hy, rfl, rfl⟩⟩
      obtain ⟨Y, M, D, h, m, s⟩ := t
      simp only at hy
      have cs : Y < 1950 ∨ (¬ Y < 1950 ∧ 2049 < Y) := by omega
      clear hy hO HO
      unfold Mo.cells
      rcases cs with c1 | ⟨c1, c2⟩
      all_goals
        go_wp2
        go_ret2
        exact ⟨[], 50, HU2.out, nil_put (al2' H1.out)⟩
  · have HU2 : Hid (USpec sec [] 50) := .inl ⟨hn, rfl, rfl⟩
    clear hn
    unfold Mo.cells
    go_wp2
    go_ret2
    exact ⟨[], 50, HU2.out, nil_put (al2' H1.out)⟩
end Go.Proofs.YtonfllajceppgaaDoor
