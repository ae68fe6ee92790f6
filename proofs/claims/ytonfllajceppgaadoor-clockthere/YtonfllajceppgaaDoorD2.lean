/-
  Clock: fraction, joined.
-/
import Derived.Test.YtonfllajceppgaaDoorD1
namespace Go.Proofs.YtonfllajceppgaaDoor
open Go.RowKit
def trimZ (X : List Int) : List Int := (X.reverse.dropWhile (· == 48)).reverse
def fr (m : Nat) : List Int := if m = 0 then [] else 46 :: trimZ (wd 6 m)
theorem Tabs_below {w w' : World} (h : P10 w) (hb : Below w.heap.size w w') : P10 w' := by
  have g : Tryd.prog.globalNamed "internal/strconv.uint64pow10" = some 1 := by kernel_rfl
  have hc := h.cell g 0 (by decide)
  have hlt : 1 < w.heap.size := by
    rcases Nat.lt_or_ge 1 w.heap.size with h' | h'
    · exact h'
    · unfold World.cell? at hc
      rw [Array.getElem?_eq_none h'] at hc
      cases hc
  unfold P10 Lib.TabIs World.var? at *
  rw [g] at h ⊢
  rw [← h]
  simp only [Option.bind_some]
  rw [hb.block _ hlt]
theorem trim_len (X : List Int) : (trimZ X).length ≤ X.length := by
  unfold trimZ
  rw [List.length_reverse]
  exact Nat.le_trans (List.dropWhile_sublist _).length_le (by simp)
theorem drop_map : ∀ X : List Int, U8s X → ((X.map fun n => UInt8.ofNat n.toNat).dropWhile (· == 48)) = (X.dropWhile (· == 48)).map fun n => UInt8.ofNat n.toNat
  | [], _ => rfl
  | x :: X, h => by
    have hx := h x (List.mem_cons_self ..)
    have e : (UInt8.ofNat x.toNat == 48) = (x == 48) := by
      have := u8_toNat hx
      rw [Bool.eq_iff_iff, beq_iff_eq, beq_iff_eq]
      constructor
      · intro h1
        rw [h1] at this
        have h2 : ((48 : UInt8).toNat : Int) = 48 := rfl
        omega
      · rintro rfl; rfl
    rw [List.map_cons, List.dropWhile_cons, List.dropWhile_cons, e]
    split
    · exact drop_map X (fun y hy => h y (List.mem_cons_of_mem _ hy))
    · rfl
theorem trim_map (X : List Int) (h : U8s X) : Lib.trimRightB (strOfNums X).data.toList 48 = (trimZ X).map fun n => UInt8.ofNat n.toNat := by
  rw [strOfNums_data]
  unfold Lib.trimRightB trimZ
  rw [← List.map_reverse, drop_map _ (fun x hx => h x (List.mem_reverse.1 hx)), List.map_reverse]
theorem Trim_any {w : World} (X : List Int) (h : U8s X) (hl : X.length ≤ 1000) : Calls Tryd.prog 29 #[.string (strOfNums X), .string ⟨#[48]⟩] w fun e w' => e = .returned (.string (strOfNums (trimZ X))) ∧ w = w' := by
  have := Tryd.strings_TrimRight_one (strOfNums X) 48 (by decide) w (by rw [st_size]; omega)
  rw [trim_map X h] at this
  exact this.mono fun e w' h => ⟨h.1, h.2.symm⟩
set_option maxHeartbeats 1000000 in
theorem fraction_any {w : World} (m : Nat) (hm : m < 1000000) (hT : P10 w) : Calls Tryd.prog 20 #[.int .i64 m] w fun e w' => e = .returned (.string (strOfNums (fr m))) ∧ Below w.heap.size w w' := by
  by_cases h0 : m = 0
  · subst h0
    exact fraction_0.mono fun e w' h => ⟨by rw [h.1]; rfl, h.2 ▸ Below.refl _ _⟩
  · have z0 : ((m : Int) == 0) = false := by rw [beq_eq_false_iff_ne]; omega
    have HD : Hid (∀ w, P10 w → Calls Tryd.prog 15 #[.int .i64 m, .int .i64 6] w fun e w' => e = .returned (.string (strOfNums (wd 6 m))) ∧ Below w.heap.size w w') := fun w h => digits_any m 5 (by decide) (by simpa using hm) h
    have HTr : Hid (∀ w : World, Calls Tryd.prog 29 #[.string (strOfNums (wd 6 m)), .string ⟨#[48]⟩] w fun e w' => e = .returned (.string (strOfNums (trimZ (wd 6 m)))) ∧ w = w') := fun w => Trim_any _ (dgs_u8 (wd_dgs 6 m)) (by rw [wd_len]; decide)
    have HT : Hid (P10 w) := hT
    have HA : Hid (strOfNums [46] ++ strOfNums (trimZ (wd 6 m)) = strOfNums (fr m)) := by
      show _ = _
      rw [st_append]; unfold fr; rw [if_neg h0]; rfl
    have hz : (strOfNums (trimZ (wd 6 m))).size ≤ 6 := by rw [st_size]; have := trim_len (wd 6 m); rw [wd_len] at this; exact this
    obtain ⟨A, hA⟩ : ∃ A, strOfNums (wd 6 m) = A := ⟨_, rfl⟩
    obtain ⟨B, hB⟩ : ∃ B, strOfNums (trimZ (wd 6 m)) = B := ⟨_, rfl⟩
    rw [hA] at HD HTr
    rw [hB] at HTr HA hz
    clear hA hB hT h0
    go_enter Tryd.func20, Tryd.ntmps20
    go_wp2_with fail
    refine (HD.out _ HT.out).mono ?_
    rintro e w1 ⟨rfl, hb⟩
    go_wp2_with fail
    refine (HTr.out _).mono ?_
    rintro e w2 ⟨rfl, rfl⟩
    go_wp2
    go_ret
    refine ⟨?_, hb⟩
    rw [← HA.out]; rfl
/-! ### what is put -/
structure Mo.Sm (t : Mo) : Prop where
  y0 : 0 ≤ t.Y
  y1 : t.Y ≤ 9999
  m0 : 0 ≤ t.M
  m1 : t.M ≤ 99
  d0 : 0 ≤ t.D
  d1 : t.D ≤ 99
  h0 : 0 ≤ t.h
  h1 : t.h ≤ 99
  i0 : 0 ≤ t.m
  i1 : t.m ≤ 99
  s0 : 0 ≤ t.s
  s1 : t.s ≤ 99
theorem Mo.Ok.sm {t : Mo} (hO : t.Ok) : t.Sm := by
  have := hO.y0; have := hO.y1; have := hO.m0; have := hO.m1
  have := hO.d0; have := hO.h0; have := hO.h1; have := hO.i0; have := hO.i1; have := hO.s0; have := hO.s1
  have := Int.le_trans hO.d1 (ml_le t.Y t.M)
  exact ⟨by omega, by omega, by omega, by omega, by omega, by omega, by omega, by omega, by omega, by omega, by omega, by omega⟩
theorem joined_b {w : World} (t : Mo) (hO : t.Sm) : Calls Tryd.prog 16 #[.agg t.cells.toArray] w fun e w' => e = .returned (.int .i64 (joinN t)) ∧ Below w.heap.size w w' := by
  obtain ⟨Y, M, D, h, m, s⟩ := t
  have y0 := hO.y0; have y1 := hO.y1; have m0 := hO.m0; have m1 := hO.m1
  have d0 := hO.d0; have d1 := hO.d1; have h0 := hO.h0; have h1 := hO.h1; have i0 := hO.i0; have i1 := hO.i1; have s0 := hO.s0; have s1 := hO.s1
  simp only at y0 y1 m0 m1 d0 d1 h0 h1 i0 i1 s0 s1
  clear hO
  unfold Mo.cells
  go_enter Tryd.func16, Tryd.ntmps16
  go_wp2
  go_ret
  exact ⟨rfl, al1 _⟩
def tailX (t : Mo) : List Int := wd 2 t.M.toNat ++ wd 2 t.D.toNat ++ wd 2 t.h.toNat ++ wd 2 t.m.toNat ++ wd 2 t.s.toNat
theorem join_nat (t : Mo) (hO : t.Sm) : (joinN t).toNat = ((((t.Y.toNat * 10 ^ 2 + t.M.toNat) * 10 ^ 2 + t.D.toNat) * 10 ^ 2 + t.h.toNat) * 10 ^ 2 + t.m.toNat) * 10 ^ 2 + t.s.toNat := by
  have y0 := hO.y0; have y1 := hO.y1; have m0 := hO.m0; have m1 := hO.m1
  have d0 := hO.d0; have d1 := hO.d1; have h0 := hO.h0; have h1 := hO.h1; have i0 := hO.i0; have i1 := hO.i1; have s0 := hO.s0; have s1 := hO.s1
  unfold joinN
  omega
theorem wd_joined (t : Mo) (hO : t.Sm) (j : Nat) : wd (j + 10) (joinN t).toNat = wd j t.Y.toNat ++ tailX t := by
  have m1 := hO.m1; have d1 := hO.d1; have h1 := hO.h1; have i1 := hO.i1; have s1 := hO.s1
  rw [join_nat t hO, show j + 10 = j + 2 + 2 + 2 + 2 + 2 by omega, wd_join _ 2 _ _ (by omega), wd_join _ 2 _ _ (by omega), wd_join _ 2 _ _ (by omega), wd_join _ 2 _ _ (by omega), wd_join _ 2 _ _ (by omega)]
  unfold tailX
  simp only [List.append_assoc]
end Go.Proofs.YtonfllajceppgaaDoor
