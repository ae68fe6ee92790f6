/-
  Clock: the reference's digits read.
-/
import Derived.Test.YtnaiialcjimhbaaDoorC25
namespace Go.Proofs.YtnaiialcjimhbaaDoor
open Go.RowKit
def sub (X : List Int) (i n : Nat) : List Int := (X.drop i).take n
def numR (X : List Int) (i n : Nat) : Int := if i + n ≤ X.length ∧ (sub X i n).all (fun x => decide (48 ≤ x ∧ x ≤ 57)) then nval (sub X i n) else -1
theorem all_dgs (A : List Int) : A.all (fun x => decide (48 ≤ x ∧ x ≤ 57)) = true ↔ Dgs A := by
  rw [List.all_eq_true]
  constructor
  · intro h x hx; exact of_decide_eq_true (p := 48 ≤ x ∧ x ≤ 57) (h x hx)
  · intro h x hx; exact decide_eq_true (p := 48 ≤ x ∧ x ≤ 57) (h x hx)
theorem numR_yes {X : List Int} {i n : Nat} (h : i + n ≤ X.length) (k : Dgs (sub X i n)) : numR X i n = nval (sub X i n) := by
  unfold numR; rw [if_pos ⟨h, (all_dgs _).2 k⟩]
theorem numR_no {X : List Int} {i n : Nat} (h : ¬ (i + n ≤ X.length ∧ Dgs (sub X i n))) : numR X i n = -1 := by
  unfold numR; rw [if_neg (fun k => h ⟨k.1, (all_dgs _).1 k.2⟩)]
theorem sub_len {X : List Int} {i n : Nat} (h : i + n ≤ X.length) : (sub X i n).length = n := by unfold sub; simp; omega
theorem numR_ge {X : List Int} {i n : Nat} : -1 ≤ numR X i n ∧ (0 ≤ numR X i n → i + n ≤ X.length ∧ Dgs (sub X i n)) := by
  by_cases h : i + n ≤ X.length ∧ Dgs (sub X i n)
  · rw [numR_yes h.1 h.2]
    have := nval_bound _ h.2
    exact ⟨by omega, fun _ => h⟩
  · rw [numR_no h]; exact ⟨by omega, fun k => by omega⟩
theorem sub_snoc (X : List Int) (i j : Nat) (h : i + j < X.length) : sub X i (j + 1) = sub X i j ++ [X.getD (i + j) 0] := by
  unfold sub
  rw [take_snoc _ j (by rw [List.length_drop]; omega)]
  simp
theorem sl_at {w : World} {a : Option Addr} {n c : Nat} {X : List Int} (h : Sl .u8 w (.slice a n c) X) (i : Nat) (hi : i < X.length) : ∃ b off, a = some ⟨b, off, none⟩ ∧ w.cell? ⟨b, off + i, none⟩ = some (.int .u8 (X.getD i 0)) := by
  obtain ⟨a', c', he, _, hx | ⟨b, off, hb, _, hr⟩⟩ := h
  · rw [hx] at hi; simp at hi
  · simp only [Value.slice.injEq] at he
    exact ⟨b, off, by rw [he.1, hb], hr i hi⟩
set_option maxHeartbeats 2000000 in
theorem Rnumber_any {w : World} (a : Option Addr) (L c : Nat) (X : List Int) (hX : Sl .u8 w (.slice a L c) X) (hL : X.length = L) (hU : U8s X) (hl : L ≤ 1000000) (i n : Nat) (hi : i ≤ 1000000) (h1 : 1 ≤ n) (hn : n ≤ 6) :
    Calls Tryd.prog 35 #[.slice a L c, .int .i64 i, .int .i64 n] w fun e w' => e = .returned (.int .i64 (numR X i n)) ∧ w' = w := by
  have HX : Hid (Sl .u8 w (.slice a L c) X ∧ U8s X) := ⟨hX, hU⟩
  clear hX hU
  go_enter Tryd.func35, Tryd.ntmps35
  go_wp2_with fail
  go_loopw [7, 8] (fun vv iv wr => ∃ j : Nat, j ≤ n ∧ (j = 0 ∨ i + j ≤ L) ∧ Dgs (sub X i j) ∧ vv = .int .i64 (nval (sub X i j)) ∧ iv = .int .i64 ((i : Int) + j) ∧ w = wr) (fun _ iv _ => (i + n) - (intOf iv).toNat)
  case atStart => exact ⟨0, by omega, Or.inl rfl, fun x hx => by simp [sub] at hx, rfl, by simp, rfl⟩
  case round =>
    obtain ⟨j, hj, hjl, hD, rfl, rfl, rfl⟩ := hrel
    have hb := nval_bound _ hD
    obtain ⟨v, hv⟩ : ∃ v, nval (sub X i j) = v := ⟨_, rfl⟩
    have hlen : (sub X i j).length ≤ 6 := by unfold sub; rw [List.length_take]; omega
    have hp := pow_le14 (show (sub X i j).length ≤ 14 by omega)
    rw [hv] at hb
    have v0 : 0 ≤ v := hb.1
    have v1 : v ≤ 100000000000000 := by omega
    have HD : Hid (Dgs (sub X i j) ∧ nval (sub X i j) = v ∧ (j = 0 ∨ i + j ≤ L)) := ⟨hD, hv, hjl⟩
    rw [hv]
    clear hb hlen hp hD hv hjl
    by_cases hlt : j < n
    · by_cases hin : i + j < L
      · obtain ⟨b, off, rfl, hc⟩ := sl_at HX.out.1 (i + j) (by omega)
        obtain ⟨x, hx⟩ : ∃ x, X.getD (i + j) 0 = x := ⟨_, rfl⟩
        rw [hx] at hc
        have ux : U8 x := hx ▸ HX.out.2.at (i + j)
        obtain ⟨x0, x1⟩ := ux
        have hkI : ((i : Int) + (j : Int)) = ((i + j : Nat) : Int) := by omega
        obtain ⟨k, hk⟩ : ∃ k, i + j = k := ⟨_, rfl⟩
        rw [hk] at hkI hc
        rw [hkI]
        have HS : Hid (sub X i (j + 1) = sub X i j ++ [x]) := by
          have := sub_snoc X i j (by omega)
          rw [hx] at this; exact this
        have hkn : (k : Int) < (i : Int) + (n : Int) := by omega
        have hkL : (k : Int) < (L : Int) := by omega
        by_cases hd : Dg x
        · have d0 := hd.1
          have d1 := hd.2
          clear hx hin
          go_wp2
          refine ⟨⟨j + 1, by omega, Or.inr (by omega), ?_, ?_, by go_num, trivial⟩, ?_⟩
          · rw [HS.out]; exact dgs_app.2 ⟨HD.out.1, fun y hy => by rw [List.mem_singleton.1 hy]; exact hd⟩
          · rw [HS.out, nval_snoc, HD.out.2.1]; congr 1; omega
          · simp [intOf]; omega
        · have HF : Hid (¬ (i + n ≤ X.length ∧ Dgs (sub X i n))) := fun h => hd (by
            refine h.2 x ?_
            unfold sub
            rw [← hx]
            have : X.getD (i + j) 0 = ((X.drop i).take n)[j]'(by rw [List.length_take, List.length_drop]; omega) := by
              simp [show i + j < X.length by omega]
            rw [this]; exact List.getElem_mem _)
          clear hx hin
          unfold Dg at hd
          by_cases hd2 : x < 48
          · go_wp2
            go_ret
            exact ⟨by rw [numR_no HF.out]; rfl, rfl⟩
          · have hd3 : 57 < x := by omega
            go_wp2
            go_ret
            exact ⟨by rw [numR_no HF.out]; rfl, rfl⟩
      · have HF : Hid (¬ (i + n ≤ X.length ∧ Dgs (sub X i n))) := fun h => by have := h.1; omega
        have hkn : (i : Int) + (j : Int) < (i : Int) + (n : Int) := by omega
        have hkL : ¬ (i : Int) + (j : Int) < (L : Int) := by omega
        have hkL2 : (L : Int) ≤ (i : Int) + (j : Int) := by omega
        go_wp2
        go_ret
        exact ⟨by rw [numR_no HF.out]; rfl, rfl⟩
    · obtain rfl : j = n := by omega
      go_wp2
      go_ret
      refine ⟨?_, rfl⟩
      rw [numR_yes (by have := HD.out.2.2; omega) HD.out.1, HD.out.2.1]; rfl
set_option maxHeartbeats 2000000 in
theorem Rnumber_some {w : World} (a : Option Addr) (L c : Nat) (X : List Int) (hX : Sl .u8 w (.slice a L c) X) (hL : X.length = L) (hU : U8s X) (hl : L ≤ 1000000) (i n : Nat) (hi : i ≤ 1000000) (hn : n ≤ 1000000) :
    Calls Tryd.prog 35 #[.slice a L c, .int .i64 i, .int .i64 n] w fun e w' => (∃ r, e = .returned (.int .i64 r)) ∧ w' = w := by
  have HX : Hid (Sl .u8 w (.slice a L c) X ∧ U8s X) := ⟨hX, hU⟩
  clear hX hU
  go_enter Tryd.func35, Tryd.ntmps35
  go_wp2_with fail
  go_loopw [7, 8] (fun vv iv wr => ∃ (j : Nat) (v : Int), j ≤ n ∧ vv = .int .i64 v ∧ iv = .int .i64 ((i : Int) + j) ∧ w = wr) (fun _ iv _ => (i + n) - (intOf iv).toNat)
  case atStart => exact ⟨0, 0, by omega, rfl, by simp, rfl⟩
  case round =>
    obtain ⟨j, v, hj, rfl, rfl, rfl⟩ := hrel
    by_cases hlt : j < n
    · by_cases hin : i + j < L
      · obtain ⟨b, off, rfl, hc⟩ := sl_at HX.out.1 (i + j) (by omega)
        obtain ⟨x, hx⟩ : ∃ x, X.getD (i + j) 0 = x := ⟨_, rfl⟩
        rw [hx] at hc
        have ux : U8 x := hx ▸ HX.out.2.at (i + j)
        obtain ⟨x0, x1⟩ := ux
        have hkI : ((i : Int) + (j : Int)) = ((i + j : Nat) : Int) := by omega
        obtain ⟨k, hk⟩ : ∃ k, i + j = k := ⟨_, rfl⟩
        rw [hk] at hkI hc
        rw [hkI]
        have hkn : (k : Int) < (i : Int) + (n : Int) := by omega
        have hkL : (k : Int) < (L : Int) := by omega
        by_cases hd : x < 48
        · go_wp2
          go_ret
          exact ⟨⟨_, rfl⟩, rfl⟩
        · by_cases hd3 : 57 < x
          · go_wp2
            go_ret
            exact ⟨⟨_, rfl⟩, rfl⟩
          · go_wp2
            refine ⟨⟨j + 1, _, by omega, rfl, by go_num, trivial⟩, ?_⟩
            simp [intOf]; omega
      · have hkn : (i : Int) + (j : Int) < (i : Int) + (n : Int) := by omega
        have hkL2 : (L : Int) ≤ (i : Int) + (j : Int) := by omega
        go_wp2
        go_ret
        exact ⟨⟨_, rfl⟩, rfl⟩
    · obtain rfl : j = n := by omega
      go_wp2
      go_ret
      exact ⟨⟨_, rfl⟩, rfl⟩
end Go.Proofs.YtnaiialcjimhbaaDoor
