/-
  Clock: an element's moment.
-/
import Derived.Test.YtnaiialcjimhbaaDoorC32
import Derived.Test.YtnaiialcjimhbaaDoorC34
import Derived.Lib.BytesEntry
namespace Go.Proofs.YtnaiialcjimhbaaDoor
open Go.RowKit
theorem utc_uniq (X : List Int) : ∃ v k : Int, ∀ e, UtcIs X e → e = .returned (.tuple #[.int .i64 v, .int .i64 k]) := by
  by_cases h : ∃ Y, X = Y ++ [90] ∧ Y.length = 12 ∧ Dgs Y
  · obtain ⟨Y, hY, hl, hD⟩ := h
    by_cases hO : (utcMo (nval Y)).Ok
    · refine ⟨(utcMo (nval Y)).sec, 0, fun e he => ?_⟩
      rcases he with ⟨Z, hZ, _, _, hs⟩ | ⟨hn, _⟩
      · rw [hY, List.append_cancel_right_eq] at hZ
        subst hZ
        exact seconds_is hO hs
      · exact absurd ⟨hY, hl, hD⟩ (hn Y)
    · refine ⟨0, 50, fun e he => ?_⟩
      rcases he with ⟨Z, hZ, _, _, hs⟩ | ⟨hn, _⟩
      · rw [hY, List.append_cancel_right_eq] at hZ
        subst hZ
        rcases hs with ⟨k, _⟩ | ⟨_, k⟩
        · exact absurd k hO
        · exact k
      · exact absurd ⟨hY, hl, hD⟩ (hn Y)
  · refine ⟨0, 6, fun e he => ?_⟩
    rcases he with ⟨Z, hZ, h1, h2, _⟩ | ⟨_, k⟩
    · exact absurd ⟨Z, hZ, h1, h2⟩ h
    · exact k
theorem gen_one {X : List Int} {t t' : Mo} {mi mi' : Int} (h : GenSays X t mi) (k : GenSays X t' mi') : t = t' ∧ mi = mi' := by
  rcases h with ⟨A, hA, lA, _, ht, hm⟩ | ⟨A, B, hA, lA, _, hM, ht, hm⟩
  · rcases k with ⟨A', hA', _, _, ht', hm'⟩ | ⟨A', B', hA', lA', _, hM', _⟩
    · rw [hA, List.append_cancel_right_eq] at hA'
      subst hA'
      exact ⟨by rw [ht, ht'], by rw [hm, hm']⟩
    · have := congrArg List.length (hA.symm.trans hA')
      simp at this
      have := hM'.1
      omega
  · rcases k with ⟨A', hA', lA', _⟩ | ⟨A', B', hA', lA', _, _, ht', hm'⟩
    · have := congrArg List.length (hA.symm.trans hA')
      simp at this
      have := hM.1
      omega
    · rw [hA, List.append_cancel_right_eq] at hA'
      obtain ⟨e1, e2⟩ := List.append_inj hA' (by rw [lA, lA'])
      simp at e2
      subst e1; subst e2
      exact ⟨by rw [ht, ht'], by rw [hm, hm']⟩
theorem gen_uniq (X : List Int) : ∃ v mi k : Int, ∀ e, GeneralIs X e → e = .returned (.tuple #[.int .i64 v, .int .i64 mi, .int .i64 k]) := by
  by_cases h : ∃ t mi, GenSays X t mi
  · obtain ⟨t, mi, hG⟩ := h
    by_cases hO : t.Ok
    · refine ⟨t.sec, mi, 0, fun e he => ?_⟩
      rcases he with ⟨t', mi', k, _, he⟩ | ⟨t', mi', k, hn, _⟩ | ⟨hn, _⟩
      · obtain ⟨rfl, rfl⟩ := gen_one hG k; exact he
      · obtain ⟨rfl, rfl⟩ := gen_one hG k; exact absurd hO hn
      · exact absurd hG (hn _ _)
    · refine ⟨0, 0, 50, fun e he => ?_⟩
      rcases he with ⟨t', mi', k, hn, _⟩ | ⟨t', mi', k, _, he⟩ | ⟨hn, _⟩
      · obtain ⟨rfl, rfl⟩ := gen_one hG k; exact absurd hn hO
      · exact he
      · exact absurd hG (hn _ _)
  · refine ⟨0, 0, 6, fun e he => ?_⟩
    rcases he with ⟨t', mi', k, _⟩ | ⟨t', mi', k, _⟩ | ⟨_, he⟩
    · exact absurd ⟨_, _, k⟩ h
    · exact absurd ⟨_, _, k⟩ h
    · exact he
set_option maxRecDepth 100000 in
theorem bidx_any {w : World} (b off n c : Nat) (X : List Int) (hx : X.length = n) (hU : U8s X) (hc : Rd .u8 w b off X) : Calls Tryd.prog 53 #[.slice (some ⟨b, off, none⟩) n c, .int .u8 46] w fun e w' => e = .returned (.int .i64 (idx X 46)) ∧ w' = w := by
  have HE : Hid (Lib.indexByte (Lib.bytesOf X) (46 : Int).toNat.toUInt8 = idx X 46) := idx_lib X 46 hU u46
  have HC : Hid (∀ i, i < n → w.cell? ⟨b, off + i, none⟩ = some (.int .u8 (X.getD i 0))) := fun i hi => hc i (by omega)
  have HX : Hid (X.length = n) := hx
  clear hc hx
  go_enter Tryd.func53, Tryd.ntmps53
  go_wp2
  rw [run_callFunc_extern Tryd.func60 (by kernel_rfl) (by kernel_rfl) (by kernel_rfl) (e := Extern.BytealgIndexByte.indexByte) (by kernel_rfl), Lib.run_indexByteSlice w b off n c X HX.out HC.out 46]
  simp only [Result.andThen]
  rw [Oper.upon_value]
  go_wp2
  go_ret
  exact ⟨by rw [← HE.out]; rfl, rfl⟩
theorem idx_ge (X : List Int) : 0 ≤ idx X 46 ↔ (46 : Int) ∈ X := by
  constructor
  · intro h
    refine Decidable.byContradiction fun hn => ?_
    rw [idx_not X 46 hn] at h; omega
  · intro h
    obtain ⟨A, B, hX, hA⟩ := List.eq_append_cons_of_mem h
    rw [hX, idx_mem A B 46 hA]; omega
/-- what an element's moment is, by what its bytes say in both ways -/
def timeV (cl tag : Int) (cons : Bool) (X : List Int) (uv uk gv gk : Int) : Int × Int :=
  if cl ≠ 0 ∨ cons = true then (0, 30) else if tag = 23 then (uv, uk) else if tag = 24 then (if (46 : Int) ∈ X then (0, 6) else (gv, gk)) else (0, 30)
set_option maxHeartbeats 2000000 in
theorem whole_any {w : World} (b off n c : Nat) (X : List Int) (hx : X.length = n) (hU : U8s X) (hb : b < w.heap.size) (hn : n ≤ c) (hc : Rd .u8 w b off X) (hl : n ≤ 1000000) (gv gm gk : Int) (hG : ∀ e, GeneralIs X e → e = .returned (.tuple #[.int .i64 gv, .int .i64 gm, .int .i64 gk])) :
    Calls Tryd.prog 38 #[.slice (some ⟨b, off, none⟩) n c] w fun e w' => e = .returned (.tuple #[.int .i64 (if (46 : Int) ∈ X then 0 else gv), .int .i64 (if (46 : Int) ∈ X then 6 else gk)]) ∧ Below w.heap.size w w' := by
  have HI : Hid (∀ (W : World), W = w → Calls Tryd.prog 53 #[.slice (some ⟨b, off, none⟩) n c, .int .u8 46] W fun e w' => e = .returned (.int .i64 (idx X 46)) ∧ w' = W) := fun W h => by subst h; exact bidx_any b off n c X hx hU hc
  have HG : Hid (Calls Tryd.prog 18 #[.slice (some ⟨b, off, none⟩) n c] w fun e w' => e = .returned (.tuple #[.int .i64 gv, .int .i64 gm, .int .i64 gk]) ∧ Below w.heap.size w w') :=
    (General_any _ X (by subst hx; exact ⟨_, _, rfl, hn, .inr ⟨b, off, rfl, hb, hc⟩⟩) hU (by omega)).mono fun e w' ⟨h, k⟩ => ⟨hG e h, k⟩
  have hi := idx_ge X
  obtain ⟨q, hq⟩ : ∃ q, idx X 46 = q := ⟨_, rfl⟩
  rw [hq] at hi HI
  clear hc hG hq
  by_cases h46 : (46 : Int) ∈ X
  · have q0 : 0 ≤ q := hi.2 h46
    rw [if_pos h46, if_pos h46]
    clear hi
    go_enter Tryd.func38, Tryd.ntmps38
    go_wp2_with fail
    refine (HI.out _ rfl).mono ?_
    rintro e w' ⟨rfl, rfl⟩
    go_wp2
    go_ret2
    exact ⟨rfl, Below.refl _ _⟩
  · have q0 : ¬ 0 ≤ q := fun h => h46 (hi.1 h)
    rw [if_neg h46, if_neg h46]
    clear hi
    go_enter Tryd.func38, Tryd.ntmps38
    go_wp2_with fail
    refine (HI.out _ rfl).mono ?_
    rintro e w' ⟨rfl, rfl⟩
    go_wp2_with fail
    refine HG.out.mono ?_
    rintro e w1 ⟨rfl, hb1⟩
    go_wp2
    go_ret2
    exact ⟨rfl, hb1⟩
end Go.Proofs.YtnaiialcjimhbaaDoor
