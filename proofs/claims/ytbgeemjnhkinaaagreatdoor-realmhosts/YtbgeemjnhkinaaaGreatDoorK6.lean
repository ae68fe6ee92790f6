/-
  Realm: strings as rows of numbers (picked from the clock's texts C5, C6).
-/
import Derived.BigQuiet
import Derived.Deep.QuietTactic
import Derived.Deep.CutRange
import Derived.Deep.RegionHeld3
import Derived.Lib.OthersKept
import Derived.Laws.RangeString
import Derived.Laws.RangeAny
import Derived.Laws.BytesArg
import Derived.Lib.Strings
import Derived.Test.YtbgeemjnhkinaaaGreatDoorK5
namespace Go.Proofs.YtbgeemjnhkinaaaGreatDoor
open Go.RowKit
theorem st_size (X : List Int) : (strOfNums X).size = X.length := strOfNums_size X
theorem u8_toNat {x : Int} (h : U8 x) : ((UInt8.ofNat x.toNat).toNat : Int) = x := by
  have := h.1; have := h.2
  simp; omega
theorem st_get (X : List Int) (hU : U8s X) (i : Nat) (hi : i < X.length) (h : i < (strOfNums X).size) : (((strOfNums X)[i]'h).toNat : Int) = X.getD i 0 := by
  have e : (strOfNums X)[i]'h = UInt8.ofNat (X[i]).toNat := by
    show ((X.map fun n => UInt8.ofNat n.toNat).toArray)[i]'(by simpa using hi) = _
    simp
  rw [e, u8_toNat (hU _ (List.getElem_mem hi))]
  simp [hi]
theorem st_extract (X : List Int) (a b : Nat) : (strOfNums X).extract a b = strOfNums ((X.drop a).take (b - a)) := by
  rw [Lib.extract_eq, strOfNums_data]
  unfold strOfNums
  rw [List.map_take, List.map_drop]
theorem st_append (X Y : List Int) : strOfNums X ++ strOfNums Y = strOfNums (X ++ Y) := by
  apply ByteArray.ext
  simp [strOfNums, ByteArray.data_append]
theorem st_inj {X Y : List Int} (hX : U8s X) (hY : U8s Y) (h : strOfNums X = strOfNums Y) : X = Y := by
  have e := congrArg (fun s => s.data.toList.map (fun b => (b.toNat : Int))) h
  simp only [strOfNums_data, List.map_map] at e
  have f : ∀ Z : List Int, U8s Z → Z.map ((fun b : UInt8 => (b.toNat : Int)) ∘ fun n => UInt8.ofNat n.toNat) = Z := by
    intro Z hZ
    induction Z with
    | nil => rfl
    | cons z Z ih =>
      rw [List.map_cons, ih (fun x hx => hZ x (List.mem_cons_of_mem _ hx))]
      congr 1
      exact u8_toNat (hZ z (List.mem_cons_self ..))
  rw [f X hX, f Y hY] at e
  exact e
theorem st_beq (X Y : List Int) (hX : U8s X) (hY : U8s Y) : ((strOfNums X).toList == (strOfNums Y).toList) = decide (X = Y) := by
  rw [Bool.eq_iff_iff, beq_iff_eq, decide_eq_true_eq]
  constructor
  · intro h
    refine st_inj hX hY ?_
    apply ByteArray.ext
    rw [Lib.toList_data, Lib.toList_data] at h
    exact Array.toList_inj.1 h
  · intro h; rw [h]
end Go.Proofs.YtbgeemjnhkinaaaGreatDoor
/-
  Realm: letters, hosts that are the same.
-/
namespace Go.Proofs.YtbgeemjnhkinaaaGreatDoor
open Go.RowKit
def sml (x : Int) : Int := if 65 ≤ x ∧ x ≤ 90 then x + 32 else x
theorem sml_u8 {x : Int} (h : U8 x) : U8 (sml x) := by unfold U8 sml at *; split <;> omega
theorem small_any {w : World} (x : Int) (hx : U8 x) : Calls Tryz.prog 22 #[.int .u8 x] w fun e w' => e = .returned (.int .u8 (sml x)) ∧ w = w' := by
  have x0 := hx.1
  have x1 := hx.2
  by_cases h1 : 65 ≤ x
  · by_cases h2 : x ≤ 90
    · have HE : Hid (sml x = x + 32) := by show _ = _; unfold sml; rw [if_pos ⟨h1, h2⟩]
      have e1 : IntKind.u8.wrap (x - 65) = x - 65 := by rw [IntKind.wrap_u8]; omega
      have e2 : IntKind.u8.wrap (x - 65 + 97) = x + 32 := by rw [IntKind.wrap_u8]; omega
      go_enter Tryz.func22, Tryz.ntmps22
      go_wp2
      go_ret
      rw [HE.out]
      refine ⟨?_, rfl⟩
      simp
    · have HE : Hid (sml x = x) := by show _ = _; unfold sml; rw [if_neg (fun h => h2 h.2)]
      go_enter Tryz.func22, Tryz.ntmps22
      go_wp2
      go_ret
      rw [HE.out]
      exact ⟨rfl, rfl⟩
  · have HE : Hid (sml x = x) := by show _ = _; unfold sml; rw [if_neg (fun h => h1 h.1)]
    go_enter Tryz.func22, Tryz.ntmps22
    go_wp2
    go_ret
    rw [HE.out]
    exact ⟨rfl, rfl⟩
theorem eg_small (args : Array Value) (w : World) : (callFunc 22 args).run Tryz.prog w = .ok (.enter 22 args) w := by
  have g1 : ¬ Tryz.f22.name = "runtime.NumGoroutine" := by decide +kernel
  have g2 : Tryz.f22.body.isNone = false := by kernel_rfl
  have g3 : ¬ Tryz.f22.body = none := fun h => by rw [h] at g2; cases g2
  simp [go_sem, callFunc, Tryz.func22, g1, g3]
theorem run_ixs {a : Act} {W : World} {o : Oper} {x y : Operand} (hop : o.op = .index 9 x y) {X : List Int} {i : Nat} {v : Int} (hx : a.eval x = .string (strOfNums X)) (hy : a.eval y = .int .i64 (i : Int)) (hU : U8s X) (hi : i < X.length) (hv : X.getD i 0 = v) :
    (execOp a.eval o).run Tryz.prog W = .ok (.value (.int .u8 v)) W := by
  have hs : i < (strOfNums X).size := by rw [st_size]; exact hi
  have hg := st_get X hU i hi hs
  have hv' : X[i]?.getD 0 = v := by rw [← List.getD_eq_getElem?_getD]; exact hv
  unfold execOp
  simp only [hop, hx, hy]
  simp [go_sem, hs, hg, hv']
theorem frF9s {ops : Array Oper} {V : Nat → Value} {t : Array Value} {d0 d1 d2 d3 d4 d5 d6 d7 d8 : Nat} (hs : ops.size = 9) (h0 : dstOf ops 0 = some d0) (h1 : dstOf ops 1 = some d1) (h2 : dstOf ops 2 = some d2) (h3 : dstOf ops 3 = some d3) (h4 : dstOf ops 4 = some d4) (h5 : dstOf ops 5 = some d5) (h6 : dstOf ops 6 = some d6) (h7 : dstOf ops 7 = some d7) (h8 : dstOf ops 8 = some d8) :
    frF ops V t ops.size = ((((((((t.setIfInBounds d0 (V 0)).setIfInBounds d1 (V 1)).setIfInBounds d2 (V 2)).setIfInBounds d3 (V 3)).setIfInBounds d4 (V 4)).setIfInBounds d5 (V 5)).setIfInBounds d6 (V 6)).setIfInBounds d7 (V 7)).setIfInBounds d8 (V 8) := by
  rw [hs]
  simp only [frF, h0, h1, h2, h3, h4, h5, h6, h7, h8]
/-- The same as hosts? -/
def sameB (X Y : List Int) : Bool := decide (X.map sml = Y.map sml)
theorem sameB_len {X Y : List Int} (h : X.length ≠ Y.length) : sameB X Y = false := by
  unfold sameB
  exact decide_eq_false fun e => h (by simpa using congrArg List.length e)
theorem sameB_at {X Y : List Int} {i : Nat} (hX : i < X.length) (hY : i < Y.length) (h : sml (X.getD i 0) ≠ sml (Y.getD i 0)) : sameB X Y = false := by
  unfold sameB
  refine decide_eq_false fun e => h ?_
  have := congrArg (fun l => l[i]?) e
  simp [hX, hY] at this
  simpa [hX, hY] using this
theorem sameB_all {X Y : List Int} (hl : X.length = Y.length) (h : ∀ i, i < X.length → sml (X.getD i 0) = sml (Y.getD i 0)) : sameB X Y = true := by
  unfold sameB
  refine decide_eq_true (List.ext_getElem (by simpa using hl) fun i h1 h2 => ?_)
  have := h i (by simpa using h1)
  simp at h1 h2
  simpa [h1, h2] using this
set_option maxRecDepth 20000 in
set_option maxHeartbeats 4000000 in
theorem sameHost_any {w : World} (X Y : List Int) (uX : U8s X) (uY : U8s Y) (lX : X.length ≤ 1125899906842624) (lY : Y.length ≤ 1125899906842624) :
    Calls Tryz.prog 11 #[.string (strOfNums X), .string (strOfNums Y)] w fun e w' => e = .returned (.bool (sameB X Y)) ∧ Below w.heap.size w w' := by
  obtain ⟨n, hn⟩ : ∃ n, X.length = n := ⟨_, rfl⟩
  obtain ⟨m, hm⟩ : ∃ m, Y.length = m := ⟨_, rfl⟩
  have hsX : (strOfNums X).size = n := by rw [st_size, hn]
  have hsY : (strOfNums Y).size = m := by rw [st_size, hm]
  have HX : Hid (U8s X ∧ U8s Y ∧ X.length = n ∧ Y.length = m) := ⟨uX, uY, hn, hm⟩
  obtain ⟨R, hR⟩ : ∃ R, sameB X Y = R := ⟨_, rfl⟩
  have HR : Hid (sameB X Y = R) := hR
  rw [hR]
  rw [hn] at lX
  rw [hm] at lY
  clear uX uY hn hm hR
  by_cases hnm : n = m
  case neg =>
    have hb : ((n : Int) != (m : Int)) = true := by simp; omega
    obtain rfl : R = false := by rw [← HR.out]; exact sameB_len (by have := HX.out; omega)
    go_enter Tryz.func11, Tryz.ntmps11
    go_wp2
    go_ret
    exact ⟨rfl, Below.refl _ _⟩
  subst hnm
  go_enter Tryz.func11, Tryz.ntmps11
  go_wp2_with fail
  go_loopw [5, 13] (fun _ iv wr => ∃ i : Nat, iv = .int .i64 (i : Int) ∧ i ≤ n ∧ Hid (Below w.heap.size w wr ∧ ∀ j, j < i → sml (X.getD j 0) = sml (Y.getD j 0))) (fun _ iv _ => n - (intOf iv).toNat)
  case atStart => exact ⟨0, rfl, Nat.zero_le _, Below.refl _ _, fun j h => by omega⟩
  case round =>
    obtain ⟨i, rfl, hi, HI⟩ := hrel
    by_cases hlt : i < n
    · have hltI : (i : Int) < (n : Int) := by omega
      obtain ⟨x, hx⟩ : ∃ x, X.getD i 0 = x := ⟨_, rfl⟩
      obtain ⟨y, hy⟩ : ∃ y, Y.getD i 0 = y := ⟨_, rfl⟩
      have ux : U8 x := hx ▸ HX.out.1.at i
      have uy : U8 y := hy ▸ HX.out.2.1.at i
      have HXY : Hid (X.getD i 0 = x ∧ Y.getD i 0 = y ∧ U8 x ∧ U8 y) := ⟨hx, hy, ux, uy⟩
      clear hx hy ux uy
      go_upto_region 6 with (fail)
      obtain ⟨q, hq⟩ : ∃ q : Bool, (sml x != sml y) = q := ⟨_, rfl⟩
      refine wp_region_still (fun k => ([.string (strOfNums X), .int .i64 (i : Int), .int .u8 x, .int .u8 (sml x), .string (strOfNums Y), .int .i64 (i : Int), .int .u8 y, .int .u8 (sml y), .bool q] : List Value).getD k undef) (fun W => Below w.heap.size w W) rfl (by decide +kernel) (show dstB _ 26 = true by decide +kernel) (HI.out.1.drew) (fun W hS => ?_) (fun i0 F W a hi0 hno hdep hv hn0 h0 hS => ?_)
      rotate_left
      · replace hi0 : i0 < 9 := hi0
        have x0 : a.eval (.tmp 0) = .string (strOfNums X) := (h0 0 (by decide +kernel)).trans rfl
        have x1 : a.eval (.tmp 1) = .string (strOfNums Y) := (h0 1 (by decide +kernel)).trans rfl
        have x5 : a.eval (.tmp 5) = .int .i64 (i : Int) := (h0 5 (by decide +kernel)).trans rfl
        obtain rfl | rfl | rfl | rfl | rfl | rfl | rfl | rfl | rfl : i0 = 0 ∨ i0 = 1 ∨ i0 = 2 ∨ i0 = 3 ∨ i0 = 4 ∨ i0 = 5 ∨ i0 = 6 ∨ i0 = 7 ∨ i0 = 8 := by omega
        · exact rg_val rfl (wn_any rfl) (run_mv rfl x0) hS
        · exact rg_val rfl (wn_any rfl) (run_mv rfl x5) hS
        · exact rg_val rfl (wn_any rfl) (run_ixs rfl (hv 0 _ (show 0 < 9 by decide) (hdep 0 (by decide +kernel)) rfl) (hv 1 _ (show 1 < 9 by decide) (hdep 1 (by decide +kernel)) rfl) HX.out.1 (by have := HX.out.2.2.1; omega) HXY.out.1) hS
        · exact rg_call rfl (wn_any rfl) (run_cl1 rfl (hv 2 _ (show 2 < 9 by decide) (hdep 2 (by decide +kernel)) rfl) eg_small) (R := fun w' => W = w') (small_any x HXY.out.2.2.1) (fun w' h => by subst h; exact hS)
        · exact rg_val rfl (wn_any rfl) (run_mv rfl x1) hS
        · exact rg_val rfl (wn_any rfl) (run_mv rfl x5) hS
        · exact rg_val rfl (wn_any rfl) (run_ixs rfl (hv 4 _ (show 4 < 9 by decide) (hdep 4 (by decide +kernel)) rfl) (hv 5 _ (show 5 < 9 by decide) (hdep 5 (by decide +kernel)) rfl) HX.out.2.1 (by have := HX.out.2.2.2; omega) HXY.out.2.1) hS
        · exact rg_call rfl (wn_any rfl) (run_cl1 rfl (hv 6 _ (show 6 < 9 by decide) (hdep 6 (by decide +kernel)) rfl) eg_small) (R := fun w' => W = w') (small_any y HXY.out.2.2.2) (fun w' h => by subst h; exact hS)
        · exact rg_val rfl (wn_any rfl) (run_bin (v := .bool q) rfl (hv 3 _ (show 3 < 9 by decide) (hdep 3 (by decide +kernel)) rfl) (hv 7 _ (show 7 < 9 by decide) (hdep 7 (by decide +kernel)) rfl) (by simp [go_sem, hq])) hS
      have H7 : Hid (Below w.heap.size w W) := hS
      clear hS
      rw [frF9s rfl rfl rfl rfl rfl rfl rfl rfl rfl rfl]
      simp only [List.setIfInBounds_toArray, List.set_cons_succ, List.set_cons_zero, List.getD_cons_zero, List.getD_cons_succ]
      cases q with
      | true =>
        obtain rfl : R = false := by
          rw [← HR.out]
          refine sameB_at (i := i) (by have := HX.out.2.2.1; omega) (by have := HX.out.2.2.2; omega) ?_
          rw [HXY.out.1, HXY.out.2.1]
          simpa using hq
        clear hq
        go_wp2
        go_ret
        exact ⟨rfl, H7.out⟩
      | false =>
        have HQ : Hid (∀ j, j < i + 1 → sml (X.getD j 0) = sml (Y.getD j 0)) := fun j hj => by
          by_cases e : j = i
          · subst e; rw [HXY.out.1, HXY.out.2.1]; simpa using hq
          · exact HI.out.2 j (by omega)
        clear hq
        go_wp2
        go_roundw
        case rel => exact ⟨i + 1, by go_num, by omega, H7.out, HQ.out⟩
        case measure => simp [intOf]; omega
    · obtain rfl : i = n := by omega
      obtain rfl : R = true := by
        rw [← HR.out]
        exact sameB_all (by have := HX.out; omega) (fun j hj => HI.out.2 j (by have := HX.out; omega))
      have hltI : ¬ (i : Int) < (i : Int) := by omega
      go_wp2
      go_ret
      exact ⟨rfl, HI.out.1⟩
end Go.Proofs.YtbgeemjnhkinaaaGreatDoor
/-
  Realm: a host that ends in another one; Host.
-/
namespace Go.Proofs.YtbgeemjnhkinaaaGreatDoor
open Go.RowKit
def endsB (X Y : List Int) : Bool := decide (Y.length < X.length) && sameB (X.drop (X.length - Y.length)) Y
set_option maxRecDepth 20000 in
set_option maxHeartbeats 4000000 in
theorem ends_any {w : World} (X Y : List Int) (uX : U8s X) (uY : U8s Y) (lX : X.length ≤ 1125899906842624) (lY : Y.length ≤ 1125899906842624) :
    Calls Tryz.prog 12 #[.string (strOfNums X), .string (strOfNums Y)] w fun e w' => e = .returned (.bool (endsB X Y)) ∧ Below w.heap.size w w' := by
  obtain ⟨n, hn⟩ : ∃ n, X.length = n := ⟨_, rfl⟩
  obtain ⟨m, hm⟩ : ∃ m, Y.length = m := ⟨_, rfl⟩
  have hsX : (strOfNums X).size = n := by rw [st_size, hn]
  have hsY : (strOfNums Y).size = m := by rw [st_size, hm]
  rw [hn] at lX
  rw [hm] at lY
  obtain ⟨R, hR⟩ : ∃ R, endsB X Y = R := ⟨_, rfl⟩
  rw [hR]
  by_cases hlt : m < n
  · have hltI : (m : Int) < (n : Int) := by omega
    obtain ⟨d, hd⟩ : ∃ d, n - m = d := ⟨_, rfl⟩
    have hdI : (n : Int) - (m : Int) = (d : Int) := by omega
    have hdn : d ≤ n := by omega
    have hdnI : (d : Int) ≤ (n : Int) := by omega
    have hx : (strOfNums X).extract d n = strOfNums (X.drop d) := by
      rw [st_extract, List.take_of_length_le (by rw [List.length_drop]; omega)]
    have HS : Hid (∀ W : World, Calls Tryz.prog 11 #[.string (strOfNums (X.drop d)), .string (strOfNums Y)] W fun e w' => e = .returned (.bool R) ∧ Below W.heap.size W w') := fun W => by
      have := sameHost_any (w := W) (X.drop d) Y (uX.drop d) uY (by rw [List.length_drop]; omega) (by omega)
      have e : sameB (X.drop d) Y = R := by rw [← hR]; unfold endsB; rw [hn, hm, hd, decide_eq_true hlt]; rfl
      rw [e] at this
      exact this
    clear uX uY hn hm hR hd
    go_enter Tryz.func12, Tryz.ntmps12
    go_wp2_with (go_at_call 11; refine (HS.out _).mono ?_; rintro e w1 ⟨rfl, hb1⟩)
    go_ret
    exact ⟨rfl, hb1⟩
  · have hltI : ¬ (m : Int) < (n : Int) := by omega
    obtain rfl : R = false := by rw [← hR]; unfold endsB; rw [hn, hm, decide_eq_false hlt]; rfl
    clear uX uY hn hm hR
    go_enter Tryz.func12, Tryz.ntmps12
    go_wp2
    go_ret
    exact ⟨rfl, Below.refl _ _⟩
end Go.Proofs.YtbgeemjnhkinaaaGreatDoor
/-
  Realm: Host; the last place of a sign.
-/
namespace Go.Proofs.YtbgeemjnhkinaaaGreatDoor
open Go.RowKit
def hostB (X Y : List Int) : Bool := decide (Y = []) || sameB X Y || (endsB X Y && (decide (Y.getD 0 0 = 46) || decide (X.getD (X.length - Y.length - 1) 0 = 46)))
theorem st_emp {Y : List Int} : (strOfNums Y).toList.isEmpty = decide (Y = []) := by
  rw [Lib.toList_data, strOfNums_data]
  cases Y <;> simp
set_option maxRecDepth 20000 in
set_option maxHeartbeats 4000000 in
theorem Host_any {w : World} (X Y : List Int) (uX : U8s X) (uY : U8s Y) (lX : X.length ≤ 1125899906842624) (lY : Y.length ≤ 1125899906842624) :
    Calls Tryz.prog 5 #[.string (strOfNums X), .string (strOfNums Y)] w fun e w' => e = .returned (.bool (hostB X Y)) ∧ Below w.heap.size w w' := by
  obtain ⟨n, hn⟩ : ∃ n, X.length = n := ⟨_, rfl⟩
  obtain ⟨m, hm⟩ : ∃ m, Y.length = m := ⟨_, rfl⟩
  have hsX : (strOfNums X).size = n := by rw [st_size, hn]
  have hsY : (strOfNums Y).size = m := by rw [st_size, hm]
  obtain ⟨S, hS⟩ : ∃ S, sameB X Y = S := ⟨_, rfl⟩
  obtain ⟨T, hT⟩ : ∃ T, endsB X Y = T := ⟨_, rfl⟩
  have HS : Hid (∀ W : World, Calls Tryz.prog 11 #[.string (strOfNums X), .string (strOfNums Y)] W fun e w' => e = .returned (.bool S) ∧ Below W.heap.size W w') := fun W => by have := sameHost_any (w := W) X Y uX uY lX lY; rw [hS] at this; exact this
  have HT : Hid (∀ W : World, Calls Tryz.prog 12 #[.string (strOfNums X), .string (strOfNums Y)] W fun e w' => e = .returned (.bool T) ∧ Below W.heap.size W w') := fun W => by have := ends_any (w := W) X Y uX uY lX lY; rw [hT] at this; exact this
  obtain ⟨q, hq⟩ : ∃ q : Bool, decide (Y = []) = q := ⟨_, rfl⟩
  have hem : (strOfNums Y).toList.isEmpty = q := by rw [st_emp, hq]
  have HH : Hid (hostB X Y = (q || S || (T && (decide (Y.getD 0 0 = 46) || decide (X.getD (n - m - 1) 0 = 46))))) := by show _ = _; unfold hostB; rw [hq, hS, hT, hn, hm]
  have HE : Hid (T = true → m < n) := fun h => by rw [h] at hT; unfold endsB at hT; simp at hT; omega
  have HQ : Hid (q = false → 0 < m) := fun h => by
    rw [h] at hq
    have : Y ≠ [] := by simpa using hq
    have := List.length_pos_iff.2 this
    omega
  have HU : Hid (U8s X ∧ U8s Y ∧ X.length = n ∧ Y.length = m) := ⟨uX, uY, hn, hm⟩
  rw [hn] at lX
  rw [hm] at lY
  rw [HH.out]
  clear uX uY hn hm hS hT hq
  cases q with
  | true =>
    go_enter Tryz.func5, Tryz.ntmps5
    go_wp2
    go_ret
    exact ⟨rfl, Below.refl _ _⟩
  | false =>
    have hmp : 0 < m := HQ.out rfl
    cases S with
    | true =>
      go_enter Tryz.func5, Tryz.ntmps5
      go_wp2_with (go_at_call 11; refine (HS.out _).mono ?_; rintro e w1 ⟨rfl, hb1⟩)
      go_ret
      exact ⟨rfl, hb1⟩
    | false =>
      cases T with
      | false =>
        go_enter Tryz.func5, Tryz.ntmps5
        go_wp2_with (first | (go_at_call 11; refine (HS.out _).mono ?_; rintro e w1 ⟨rfl, hb1⟩) | (go_at_call 12; refine (HT.out _).mono ?_; rintro e w2 ⟨rfl, hb2⟩))
        go_ret
        exact ⟨rfl, below_via hb1 hb2 (Nat.le_refl _)⟩
      | true =>
        have hmn := HE.out rfl
        obtain ⟨y0, hy0⟩ : ∃ y, Y.getD 0 0 = y := ⟨_, rfl⟩
        obtain ⟨d, hd⟩ : ∃ d, n - m - 1 = d := ⟨_, rfl⟩
        obtain ⟨x0, hx0⟩ : ∃ x, X.getD d 0 = x := ⟨_, rfl⟩
        have hdI : (n : Int) - (m : Int) - 1 = (d : Int) := by omega
        have hdn : d < n := by omega
        have hdnI : (d : Int) < (n : Int) := by omega
        have hmI : (0 : Int) < (m : Int) := by omega
        have gy := st_get Y HU.out.2.1 0 (by have := HU.out.2.2.2; omega) (by omega)
        have gx := st_get X HU.out.1 d (by have := HU.out.2.2.1; omega) (by omega)
        rw [hy0] at gy
        rw [hx0] at gx
        rw [hd, hx0, hy0]
        clear hd hx0 hy0
        by_cases k1 : y0 = 46
        · have k1b : (y0 == 46) = true := by simpa using k1
          have HK : Hid (y0 = 46) := k1
          clear k1
          go_enter Tryz.func5, Tryz.ntmps5
          go_wp2_with (first | (go_at_call 11; refine (HS.out _).mono ?_; rintro e w1 ⟨rfl, hb1⟩) | (go_at_call 12; refine (HT.out _).mono ?_; rintro e w2 ⟨rfl, hb2⟩))
          go_ret
          refine ⟨?_, below_via hb1 hb2 (Nat.le_refl _)⟩
          rw [decide_eq_true HK.out]; rfl
        · have k1b : (y0 == 46) = false := by simpa using k1
          have HK : Hid (y0 ≠ 46) := k1
          clear k1
          go_enter Tryz.func5, Tryz.ntmps5
          go_wp2_with (first | (go_at_call 11; refine (HS.out _).mono ?_; rintro e w1 ⟨rfl, hb1⟩) | (go_at_call 12; refine (HT.out _).mono ?_; rintro e w2 ⟨rfl, hb2⟩))
          go_ret
          refine ⟨?_, below_via hb1 hb2 (Nat.le_refl _)⟩
          rw [decide_eq_false HK.out]
          by_cases k2 : x0 = 46
          · subst k2; rfl
          · rw [decide_eq_false k2]
            have : (x0 == 46) = false := by simpa using k2
            first | (show Ending.returned (.bool (x0 == 46)) = _; rw [this]; rfl) | simp [k2]
/-- The last place of a sign. -/
def lastF (X : List Int) (c : Int) : Nat → Int
  | 0 => -1
  | i + 1 => if X.getD i 0 = c then i else lastF X c i
theorem lastF_bd (X : List Int) (c : Int) : ∀ k, -1 ≤ lastF X c k ∧ lastF X c k < k
  | 0 => by simp [lastF]
  | k + 1 => by
    have := lastF_bd X c k
    unfold lastF
    split <;> omega
def lastB (X : List Int) (c : Int) : Int := lastF X c X.length
set_option maxRecDepth 20000 in
set_option maxHeartbeats 4000000 in
theorem lastIdx_any {w : World} (X : List Int) (c : Int) (uX : U8s X) (hc : U8 c) (lX : X.length ≤ 1125899906842624) :
    Calls Tryz.prog 29 #[.string (strOfNums X), .int .u8 c] w fun e w' => e = .returned (.int .i64 (lastB X c)) ∧ w = w' := by
  obtain ⟨n, hn⟩ : ∃ n, X.length = n := ⟨_, rfl⟩
  have hsX : (strOfNums X).size = n := by rw [st_size, hn]
  have HX : Hid (U8s X ∧ U8 c ∧ X.length = n) := ⟨uX, hc, hn⟩
  obtain ⟨R, hR⟩ : ∃ R, lastB X c = R := ⟨_, rfl⟩
  have HR : Hid (lastF X c n = R) := by show _ = _; rw [← hR]; unfold lastB; rw [hn]
  rw [hR]
  rw [hn] at lX
  clear uX hc hn hR
  go_enter Tryz.func29, Tryz.ntmps29
  go_wp2_with fail
  go_loopw [5] (fun iv wr => ∃ k : Nat, iv = .int .i64 ((k : Int) - 1) ∧ k ≤ n ∧ w = wr ∧ Hid (lastF X c k = R)) (fun iv _ => (intOf iv + 1).toNat)
  case atStart => exact ⟨n, rfl, Nat.le_refl _, rfl, HR.out⟩
  case round =>
    obtain ⟨k, rfl, hk, rfl, HI⟩ := hrel
    cases k with
    | zero =>
      obtain rfl : R = -1 := by rw [← HI.out]; rfl
      go_wp2
      go_ret
      exact ⟨rfl, rfl⟩
    | succ k =>
      have hkI : ((k + 1 : Nat) : Int) - 1 = (k : Int) := by omega
      rw [hkI]
      have hkn : k < n := by omega
      have hknI : (k : Int) < (n : Int) := by omega
      obtain ⟨x, hx⟩ : ∃ x, X.getD k 0 = x := ⟨_, rfl⟩
      have gx := st_get X HX.out.1 k (by have := HX.out.2.2; omega) (by omega)
      rw [hx] at gx
      have HS : Hid (R = if x = c then (k : Int) else lastF X c k) := by show _ = _; rw [← HI.out, show lastF X c (k + 1) = if X.getD k 0 = c then (k : Int) else lastF X c k from rfl, hx]
      clear hx hkI
      by_cases hxc : x = c
      · have hb : (x == c) = true := by simpa using hxc
        obtain rfl : R = (k : Int) := by rw [HS.out, if_pos hxc]
        clear hxc
        go_wp2
        go_ret
        exact ⟨rfl, rfl⟩
      · have hb : (x == c) = false := by simpa using hxc
        have HN : Hid (lastF X c k = R) := by show _ = _; rw [HS.out, if_neg hxc]
        clear hxc
        go_wp2
        go_roundw
        case rel => exact ⟨k, rfl, by omega, trivial, HN.out⟩
        case measure => simp [intOf]
theorem lastIdx2_any {w : World} (X : List Int) (c : Int) (uX : U8s X) (hc : U8 c) (lX : X.length ≤ 1125899906842624) :
    Calls Tryz.prog 23 #[.string (strOfNums X), .int .u8 c] w fun e w' => e = .returned (.int .i64 (lastB X c)) ∧ w = w' := by
  have HC : Hid (Calls Tryz.prog 29 #[.string (strOfNums X), .int .u8 c] w fun e w' => e = .returned (.int .i64 (lastB X c)) ∧ w = w') := lastIdx_any X c uX hc lX
  clear uX hc lX
  go_enter Tryz.func23, Tryz.ntmps23
  go_wp2_with fail
  refine HC.out.mono ?_
  rintro e w1 ⟨rfl, rfl⟩
  go_wp2
  go_ret
  exact ⟨rfl, rfl⟩
end Go.Proofs.YtbgeemjnhkinaaaGreatDoor
/-
  Realm (pure): the reference's way to say that a host is below a base.
-/
namespace Go.Proofs.YtbgeemjnhkinaaaGreatDoor
open Go.RowKit
/-- It ends in it, and is longer. -/
def endsP (S T : List Int) : Bool := decide (T.length < S.length) && decide (S.drop (S.length - T.length) = T)
def rhostB (X Y : List Int) : Bool := decide (Y.map sml = []) || decide (X.map sml = Y.map sml) || endsP (46 :: X.map sml) (46 :: Y.map sml) || (decide ((Y.map sml).getD 0 0 = 46) && endsP (X.map sml) (Y.map sml))
theorem sml_dot (x : Int) : sml x = 46 ↔ x = 46 := by unfold sml; split <;> omega
theorem getD_sml (X : List Int) (i : Nat) (hi : i < X.length) : (X.map sml).getD i 0 = sml (X.getD i 0) := by
  simp [List.getD_eq_getElem?_getD, hi]
theorem endsP_endsB (X Y : List Int) : endsP (X.map sml) (Y.map sml) = endsB X Y := by
  unfold endsP endsB sameB
  simp only [List.length_map, List.map_drop]
theorem endsP_dot (X Y : List Int) : endsP (46 :: X.map sml) (46 :: Y.map sml) = (endsB X Y && decide (X.getD (X.length - Y.length - 1) 0 = 46)) := by
  rw [← endsP_endsB]
  unfold endsP
  simp only [List.length_cons, List.length_map]
  by_cases h : Y.length < X.length
  · obtain ⟨d, hd⟩ : ∃ d, X.length - Y.length - 1 = d := ⟨_, rfl⟩
    have e1 : X.length + 1 - (Y.length + 1) = d + 1 := by omega
    have e2 : X.length - Y.length = d + 1 := by omega
    rw [e1, e2, show d + 1 - 1 = d by omega]
    have hdl : d < (X.map sml).length := by rw [List.length_map]; omega
    have e3 : (46 :: X.map sml).drop (d + 1) = (X.map sml).getD d 0 :: (X.map sml).drop (d + 1) := by
      rw [List.drop_succ_cons, List.drop_eq_getElem_cons hdl]
      have hd2 : d < X.length := by omega
      simp [List.getD_eq_getElem?_getD, hd2]
    rw [e3, getD_sml X d (by omega)]
    have h1 : Y.length + 1 < X.length + 1 := by omega
    simp only [h, h1, decide_true, Bool.true_and, List.cons.injEq, sml_dot]
    rw [Bool.and_comm]
    simp
  · have h1 : ¬ Y.length + 1 < X.length + 1 := by omega
    simp [h]
theorem rhost_eq (X Y : List Int) : rhostB X Y = hostB X Y := by
  unfold rhostB hostB
  rw [endsP_dot, endsP_endsB]
  have e0 : decide (Y.map sml = []) = decide (Y = []) := by simp
  have e1 : decide (X.map sml = Y.map sml) = sameB X Y := rfl
  rw [e0, e1]
  cases Y with
  | nil => simp
  | cons y Y =>
    have e2 : decide (((y :: Y).map sml).getD 0 0 = 46) = decide ((y :: Y).getD 0 0 = 46) := by
      rw [getD_sml _ 0 (by simp)]
      simp only [sml_dot]
    rw [e2]
    generalize decide ((y :: Y).getD 0 0 = 46) = p
    generalize endsB X (y :: Y) = q
    generalize decide (X.getD (X.length - (y :: Y).length - 1) 0 = 46) = r
    generalize sameB X (y :: Y) = s
    cases p <;> cases q <;> cases r <;> cases s <;> simp
end Go.Proofs.YtbgeemjnhkinaaaGreatDoor
/-
  Realm: an address cut at its last @; Mail.
-/
namespace Go.Proofs.YtbgeemjnhkinaaaGreatDoor
open Go.RowKit
theorem prefix_dot {w : World} (Y : List Int) (uY : U8s Y) (lY : Y.length ≤ 1125899906842624) :
    Calls Tryz.prog 24 #[.string (strOfNums Y), .string ⟨#[46]⟩] w fun e w' => e = .returned (.bool (decide (Y.getD 0 0 = 46))) ∧ w = w' := by
  obtain ⟨m, hm⟩ : ∃ m, Y.length = m := ⟨_, rfl⟩
  have hsY : (strOfNums Y).size = m := by rw [st_size, hm]
  rw [hm] at lY
  cases Y with
  | nil =>
    have h0 : m = 0 := by rw [← hm]; rfl
    subst h0
    clear hm
    go_enter Tryz.func24, Tryz.ntmps24
    go_wp2
    go_ret
    exact ⟨rfl, rfl⟩
  | cons y Y =>
    obtain ⟨S, hS⟩ : ∃ S, strOfNums (y :: Y) = S := ⟨_, rfl⟩
    have h1 : (1 : Int) ≤ (m : Int) := by rw [← hm]; simp; omega
    have h1N : 1 ≤ m := by omega
    have uy : U8 y := uY y (List.mem_cons_self ..)
    have HE : Hid (((S.extract 0 1).toList == ([46] : List UInt8)) = decide (y = 46)) := by
      show _ = _
      have e1 : S.extract 0 1 = strOfNums [y] := by rw [← hS, st_extract]; rfl
      have e2 : ([46] : List UInt8) = (strOfNums [46]).toList := by rw [Lib.toList_data]; rfl
      rw [e1, e2, st_beq _ _ (fun z hz => by rw [List.mem_singleton.1 hz]; exact uy) (fun z hz => by rw [List.mem_singleton.1 hz]; exact ⟨by decide, by decide⟩)]
      simp
    rw [hS] at hsY ⊢
    clear hS hm uY
    go_enter Tryz.func24, Tryz.ntmps24
    go_wp2
    go_ret
    refine ⟨?_, rfl⟩
    show Ending.returned (.bool ((S.extract 0 1).toList == ([46] : List UInt8))) = _
    rw [HE.out]; simp
theorem prefix2_dot {w : World} (Y : List Int) (uY : U8s Y) (lY : Y.length ≤ 1125899906842624) :
    Calls Tryz.prog 16 #[.string (strOfNums Y), .string ⟨#[46]⟩] w fun e w' => e = .returned (.bool (decide (Y.getD 0 0 = 46))) ∧ w = w' := by
  have HC : Hid (Calls Tryz.prog 24 #[.string (strOfNums Y), .string ⟨#[46]⟩] w fun e w' => e = .returned (.bool (decide (Y.getD 0 0 = 46))) ∧ w = w') := prefix_dot Y uY lY
  clear uY lY
  go_enter Tryz.func16, Tryz.ntmps16
  go_wp2_with fail
  refine HC.out.mono ?_
  rintro e w1 ⟨rfl, rfl⟩
  go_wp2
  go_ret
  exact ⟨rfl, rfl⟩
/-- What stands ahead of the last @, and behind it. -/
def cutO (X : List Int) : List Int × List Int × Bool :=
  if lastB X 64 < 0 then ([], [], false) else (X.take (lastB X 64).toNat, X.drop ((lastB X 64).toNat + 1), true)
theorem cutO_u8 {X : List Int} (h : U8s X) : U8s (cutO X).1 ∧ U8s (cutO X).2.1 := by
  unfold cutO
  split
  · exact ⟨nil_u8, nil_u8⟩
  · exact ⟨h.take _, h.drop _⟩
theorem cutO_len (X : List Int) : (cutO X).1.length ≤ X.length ∧ (cutO X).2.1.length ≤ X.length := by
  unfold cutO
  split
  · simp
  · simp only [List.length_take, List.length_drop]; omega
set_option maxRecDepth 20000 in
set_option maxHeartbeats 4000000 in
theorem cutMail_any {w : World} (X : List Int) (uX : U8s X) (lX : X.length ≤ 1125899906842624) :
    Calls Tryz.prog 15 #[.string (strOfNums X)] w fun e w' => e = .returned (.tuple #[.string (strOfNums (cutO X).1), .string (strOfNums (cutO X).2.1), .bool (cutO X).2.2]) ∧ Below w.heap.size w w' := by
  obtain ⟨n, hn⟩ : ∃ n, X.length = n := ⟨_, rfl⟩
  have hsX : (strOfNums X).size = n := by rw [st_size, hn]
  have HC : Hid (Calls Tryz.prog 23 #[.string (strOfNums X), .int .u8 64] w fun e w' => e = .returned (.int .i64 (lastB X 64)) ∧ w = w') := lastIdx2_any X 64 uX ⟨by decide, by decide⟩ lX
  have hbd := lastF_bd X 64 X.length
  obtain ⟨k, hk⟩ : ∃ k, lastB X 64 = k := ⟨_, rfl⟩
  have hbd2 : -1 ≤ k ∧ k < n := by rw [← hk, ← hn]; exact hbd
  rw [hn] at lX
  by_cases h0 : k < 0
  · have HE : Hid (cutO X = ([], [], false)) := by show _ = _; unfold cutO; rw [hk, if_pos h0]
    have HK : Hid (lastB X 64 = k) := hk
    rw [HE.out]
    clear hbd hk hn uX
    go_enter Tryz.func15, Tryz.ntmps15
    go_wp2_with fail
    refine HC.out.mono ?_
    rw [HK.out]
    rintro e w1 ⟨rfl, rfl⟩
    go_wp2
    go_ret3
    exact ⟨rfl, Below.refl _ _⟩
  · obtain ⟨d, rfl⟩ := Int.eq_ofNat_of_zero_le (show 0 ≤ k by omega)
    have e1 : (strOfNums X).extract 0 d = strOfNums (X.take d) := by rw [st_extract]; simp
    have e2 : (strOfNums X).extract (d + 1) n = strOfNums (X.drop (d + 1)) := by
      rw [st_extract, List.take_of_length_le (by rw [List.length_drop]; omega)]
    have HE : Hid (cutO X = (X.take d, X.drop (d + 1), true)) := by show _ = _; unfold cutO; rw [hk, if_neg h0]; simp
    have HK : Hid (lastB X 64 = (d : Int)) := hk
    have hdn : d < n := by omega
    have h0' : ¬ (d : Int) < 0 := h0
    have hdI : (d : Int) ≤ (n : Int) := by omega
    have hdI1 : (d : Int) + 1 ≤ (n : Int) := by omega
    have hdN : d ≤ n := by omega
    have hdN1 : d + 1 ≤ n := by omega
    rw [HE.out]
    clear hbd hk hn uX hbd2 h0
    go_enter Tryz.func15, Tryz.ntmps15
    go_wp2_with fail
    refine HC.out.mono ?_
    rw [HK.out]
    rintro e w1 ⟨rfl, rfl⟩
    go_upto_region 4 with (fail)
    go_quiet (fail)
    go_wp2
    go_ret3
    exact ⟨by first | rfl | (simp [e1, e2]), below_drewN _ (Below.refl _ _)⟩
/-- What Mail tells. -/
def mailB (X Y : List Int) : Bool :=
  if (cutO X).1 = [] ∨ (cutO X).2.1 = [] then false
  else if (cutO Y).2.2 = true then decide ((cutO X).1 = (cutO Y).1) && sameB (cutO X).2.1 (cutO Y).2.1
  else if Y.getD 0 0 = 46 then endsB (cutO X).2.1 Y
  else decide (Y = []) || sameB (cutO X).2.1 Y
set_option maxRecDepth 20000 in
set_option maxHeartbeats 8000000 in
theorem Mail_any {w : World} (X Y : List Int) (uX : U8s X) (uY : U8s Y) (lX : X.length ≤ 1125899906842624) (lY : Y.length ≤ 1125899906842624) :
    Calls Tryz.prog 7 #[.string (strOfNums X), .string (strOfNums Y)] w fun e w' => e = .returned (.bool (mailB X Y)) ∧ Below w.heap.size w w' := by
  have hcx := cutMail_any (w := w) X uX lX
  have HCY : Hid (∀ W : World, Calls Tryz.prog 15 #[.string (strOfNums Y)] W fun e w' => e = .returned (.tuple #[.string (strOfNums (cutO Y).1), .string (strOfNums (cutO Y).2.1), .bool (cutO Y).2.2]) ∧ Below W.heap.size W w') := fun W => cutMail_any Y uY lY
  have ux := cutO_u8 uX
  have uy := cutO_u8 uY
  have lx := cutO_len X
  have ly := cutO_len Y
  have hM : ∀ R, mailB X Y = R → mailB X Y = R := fun _ h => h
  unfold mailB at hM
  obtain ⟨A, hA⟩ : ∃ A, (cutO X).1 = A := ⟨_, rfl⟩
  obtain ⟨B, hB⟩ : ∃ A, (cutO X).2.1 = A := ⟨_, rfl⟩
  obtain ⟨k, hk⟩ : ∃ A, (cutO X).2.2 = A := ⟨_, rfl⟩
  obtain ⟨C, hC⟩ : ∃ A, (cutO Y).1 = A := ⟨_, rfl⟩
  obtain ⟨D, hD⟩ : ∃ A, (cutO Y).2.1 = A := ⟨_, rfl⟩
  obtain ⟨l, hl⟩ : ∃ A, (cutO Y).2.2 = A := ⟨_, rfl⟩
  rw [hA, hB, hk] at hcx
  rw [hA, hB] at ux lx
  rw [hC, hD] at uy ly
  rw [hC, hD, hl] at HCY
  obtain ⟨R, hR⟩ : ∃ R, mailB X Y = R := ⟨_, rfl⟩
  have HR : Hid (R = if A = [] ∨ B = [] then false else if l = true then decide (A = C) && sameB B D else if Y.getD 0 0 = 46 then endsB B Y else decide (Y = []) || sameB B Y) := by
    show _ = _
    rw [← hR]; unfold mailB; rw [hA, hB, hC, hD, hl]
  rw [hR]
  have HCX : Hid (Calls Tryz.prog 15 #[.string (strOfNums X)] w fun e w' => e = .returned (.tuple #[.string (strOfNums A), .string (strOfNums B), .bool k]) ∧ Below w.heap.size w w') := hcx
  have HSD : Hid (∀ W : World, Calls Tryz.prog 11 #[.string (strOfNums B), .string (strOfNums D)] W fun e w' => e = .returned (.bool (sameB B D)) ∧ Below W.heap.size W w') := fun W => sameHost_any B D ux.2 uy.2 (by omega) (by omega)
  have HSY : Hid (∀ W : World, Calls Tryz.prog 11 #[.string (strOfNums B), .string (strOfNums Y)] W fun e w' => e = .returned (.bool (sameB B Y)) ∧ Below W.heap.size W w') := fun W => sameHost_any B Y ux.2 uY (by omega) (by omega)
  have HEY : Hid (∀ W : World, Calls Tryz.prog 12 #[.string (strOfNums B), .string (strOfNums Y)] W fun e w' => e = .returned (.bool (endsB B Y)) ∧ Below W.heap.size W w') := fun W => ends_any B Y ux.2 uY (by omega) (by omega)
  have HPY : Hid (∀ W : World, Calls Tryz.prog 16 #[.string (strOfNums Y), .string ⟨#[46]⟩] W fun e w' => e = .returned (.bool (decide (Y.getD 0 0 = 46))) ∧ W = w') := fun W => prefix2_dot Y uY lY
  have HAC : Hid (((strOfNums A).toList == (strOfNums C).toList) = decide (A = C)) := st_beq A C ux.1 uy.1
  have hAe : (strOfNums A).toList.isEmpty = decide (A = []) := st_emp
  have hBe : (strOfNums B).toList.isEmpty = decide (B = []) := st_emp
  have hYe : (strOfNums Y).toList.isEmpty = decide (Y = []) := st_emp
  clear hcx ux uy lx ly hM hA hB hk hC hD hl hR uX uY lX lY
  by_cases a0 : A = []
  · obtain rfl : R = false := by rw [HR.out, if_pos (.inl a0)]
    rw [decide_eq_true a0] at hAe
    clear a0
    go_enter Tryz.func7, Tryz.ntmps7
    go_wp2_with fail
    refine HCX.out.mono ?_
    rintro e w1 ⟨rfl, hb1⟩
    go_wp2
    go_ret
    exact ⟨rfl, hb1⟩
  rw [decide_eq_false a0] at hAe
  by_cases b0 : B = []
  · obtain rfl : R = false := by rw [HR.out, if_pos (.inr b0)]
    rw [decide_eq_true b0] at hBe
    clear b0 a0
    go_enter Tryz.func7, Tryz.ntmps7
    go_wp2_with fail
    refine HCX.out.mono ?_
    rintro e w1 ⟨rfl, hb1⟩
    go_wp2
    go_ret
    exact ⟨rfl, hb1⟩
  rw [decide_eq_false b0] at hBe
  have HR2 : Hid (R = if l = true then decide (A = C) && sameB B D else if Y.getD 0 0 = 46 then endsB B Y else decide (Y = []) || sameB B Y) := by
    show _ = _
    rw [HR.out, if_neg (by rintro (h | h); exact a0 h; exact b0 h)]
  clear a0 b0
  cases l with
  | true =>
    obtain ⟨q, hq⟩ : ∃ q : Bool, decide (A = C) = q := ⟨_, rfl⟩
    have hqb : ((strOfNums A).toList == (strOfNums C).toList) = q := by rw [HAC.out, hq]
    have HQ : Hid (R = (q && sameB B D)) := by show _ = _; rw [HR2.out, if_pos rfl, hq]
    clear hq
    cases q with
    | false =>
      obtain rfl : R = false := HQ.out
      go_enter Tryz.func7, Tryz.ntmps7
      go_wp2_with fail
      refine HCX.out.mono ?_
      rintro e w1 ⟨rfl, hb1⟩
      go_wp2_with fail
      refine (HCY.out _).mono ?_
      rintro e w2 ⟨rfl, hb2⟩
      go_wp2
      go_ret
      exact ⟨rfl, below_via hb1 hb2 (Nat.le_refl _)⟩
    | true =>
      obtain rfl : R = sameB B D := HQ.out
      go_enter Tryz.func7, Tryz.ntmps7
      go_wp2_with fail
      refine HCX.out.mono ?_
      rintro e w1 ⟨rfl, hb1⟩
      go_wp2_with fail
      refine (HCY.out _).mono ?_
      rintro e w2 ⟨rfl, hb2⟩
      go_wp2_with fail
      refine (HSD.out _).mono ?_
      rintro e w3 ⟨rfl, hb3⟩
      go_wp2
      go_ret
      exact ⟨rfl, below_via (below_via hb1 hb2 (Nat.le_refl _)) hb3 (Nat.le_refl _)⟩
  | false =>
    obtain ⟨p, hp⟩ : ∃ p : Bool, decide (Y.getD 0 0 = 46) = p := ⟨_, rfl⟩
    rw [hp] at HPY
    cases p with
    | true =>
      obtain rfl : R = endsB B Y := by rw [HR2.out, if_neg (by decide), if_pos (by simpa using hp)]
      clear hp
      go_enter Tryz.func7, Tryz.ntmps7
      go_wp2_with fail
      refine HCX.out.mono ?_
      rintro e w1 ⟨rfl, hb1⟩
      go_wp2_with fail
      refine (HCY.out _).mono ?_
      rintro e w2 ⟨rfl, hb2⟩
      go_wp2_with fail
      refine (HPY.out _).mono ?_
      rintro e w3 ⟨rfl, rfl⟩
      go_wp2_with fail
      refine (HEY.out _).mono ?_
      rintro e w3 ⟨rfl, hb3⟩
      go_wp2
      go_ret
      exact ⟨rfl, below_via (below_via hb1 hb2 (Nat.le_refl _)) hb3 (Nat.le_refl _)⟩
    | false =>
      have HR3 : Hid (R = (decide (Y = []) || sameB B Y)) := by show _ = _; rw [HR2.out, if_neg (by decide), if_neg (by simpa using hp)]
      clear hp
      obtain ⟨q, hq⟩ : ∃ q : Bool, decide (Y = []) = q := ⟨_, rfl⟩
      rw [hq] at hYe HR3
      clear hq
      cases q with
      | true =>
        obtain rfl : R = true := HR3.out
        go_enter Tryz.func7, Tryz.ntmps7
        go_wp2_with fail
        refine HCX.out.mono ?_
        rintro e w1 ⟨rfl, hb1⟩
        go_wp2_with fail
        refine (HCY.out _).mono ?_
        rintro e w2 ⟨rfl, hb2⟩
        go_wp2_with fail
        refine (HPY.out _).mono ?_
        rintro e w3 ⟨rfl, rfl⟩
        go_wp2
        go_ret
        exact ⟨rfl, below_via hb1 hb2 (Nat.le_refl _)⟩
      | false =>
        obtain rfl : R = sameB B Y := HR3.out
        go_enter Tryz.func7, Tryz.ntmps7
        go_wp2_with fail
        refine HCX.out.mono ?_
        rintro e w1 ⟨rfl, hb1⟩
        go_wp2_with fail
        refine (HCY.out _).mono ?_
        rintro e w2 ⟨rfl, hb2⟩
        go_wp2_with fail
        refine (HPY.out _).mono ?_
        rintro e w3 ⟨rfl, rfl⟩
        go_wp2_with fail
        refine (HSY.out _).mono ?_
        rintro e w4 ⟨rfl, hb3⟩
        go_wp2
        go_ret
        exact ⟨rfl, below_via (below_via hb1 hb2 (Nat.le_refl _)) hb3 (Nat.le_refl _)⟩
end Go.Proofs.YtbgeemjnhkinaaaGreatDoor
/-
  Realm: the reference's small letters, last place, ending.
-/
namespace Go.Proofs.YtbgeemjnhkinaaaGreatDoor
open Go.RowKit
theorem str_sl {w : World} {a : Option Addr} {n c : Nat} {X : List Int} (h : Sl .u8 w (.slice a n c) X) : Sem.run Tryz.prog (convert 24 9 (.slice a n c)) w = .ok (.string (strOfNums X)) w := by
  obtain ⟨a', c', e, _, hx | ⟨b, off, rfl, _, hr⟩⟩ := h
  · cases e
    subst hx
    rw [run_convert_bytes_string w _ _ _ _ _ c Tryz.und8 Tryz.e8 Tryz.str]
    cases a with
    | none => simp [Conv.bytesToString]; rfl
    | some p => simp [Conv.bytesToString, loadCells]; rfl
  · cases e
    exact run_convert_bytes_arg w _ _ Tryz.und8 Tryz.e8 b off _ _ X rfl hr _ Tryz.str
theorem take_sml (X : List Int) (i : Nat) (hi : i < X.length) : (X.take (i + 1)).map sml = (X.take i).map sml ++ [sml (X.getD i 0)] := by
  rw [List.take_add_one, List.map_append]
  simp [List.getD_eq_getElem?_getD, hi]
set_option maxRecDepth 20000 in
set_option maxHeartbeats 4000000 in
theorem Rsmall_any {w : World} (X : List Int) (uX : U8s X) (lX : X.length ≤ 1000000) :
    Calls Tryz.prog 13 #[.string (strOfNums X)] w fun e w' => e = .returned (.string (strOfNums (X.map sml))) ∧ Below w.heap.size w w' := by
  obtain ⟨n, hn⟩ : ∃ n, X.length = n := ⟨_, rfl⟩
  have hsX : (strOfNums X).size = n := by rw [st_size, hn]
  have HX : Hid (U8s X ∧ X.length = n) := ⟨uX, hn⟩
  have HB : Hid (Row .u8 5 w.heap.size (w.alloc (.cells #[] 5)) (.slice (some ⟨w.heap.size, 0, none⟩) 0 0) [] ∧ Below w.heap.size w (w.alloc (.cells #[] 5))) := ⟨row0, al1 _⟩
  rw [hn] at lX
  clear uX hn
  go_enter Tryz.func13, Tryz.ntmps13
  go_wp2_with fail
  go_loopw [3, 4, 5] (fun bv iv _ wr => ∃ i : Nat, iv = .int .i64 (i : Int) ∧ i ≤ n ∧ Hid (Row .u8 5 w.heap.size wr bv ((X.take i).map sml) ∧ Below w.heap.size w wr)) (fun _ iv _ _ => n - (intOf iv).toNat)
  case atStart => exact ⟨0, rfl, Nat.zero_le _, HB.out⟩
  case round =>
    obtain ⟨i, rfl, hi, HI⟩ := hrel
    obtain ⟨ba, bc, hbv⟩ := HI.out.1.ne
    have hli : ((X.take i).map sml).length = i := by rw [List.length_map, List.length_take, HX.out.2]; omega
    rw [hli] at hbv
    subst hbv
    by_cases hlt : i < n
    · have hltI : (i : Int) < (n : Int) := by omega
      obtain ⟨x, hx⟩ : ∃ x, X.getD i 0 = x := ⟨_, rfl⟩
      have gx := st_get X HX.out.1 i (by have := HX.out.2; omega) (by omega)
      rw [hx] at gx
      have ux : U8 x := hx ▸ HX.out.1.at i
      obtain ⟨y, hy⟩ : ∃ y, sml x = y := ⟨_, rfl⟩
      have HXX : Hid (X.getD i 0 = x ∧ sml x = y ∧ i < X.length) := ⟨hx, hy, by have := HX.out.2; omega⟩
      have HS : Hid (∀ v' w', Row .u8 5 w.heap.size w' v' ((X.take i).map sml ++ [y]) → Row .u8 5 w.heap.size w' v' ((X.take (i + 1)).map sml)) := fun v' w' h => by rw [take_sml X i HXX.out.2.2, HXX.out.1, HXX.out.2.1]; exact h
      have x0 := ux.1
      have x1 := ux.2
      clear hx ux
      by_cases h1 : 65 ≤ x ∧ x ≤ 90
      · obtain ⟨h1a, h1b⟩ := h1
        have e1 : IntKind.u8.wrap (x + 97) = x + 97 := by rw [IntKind.wrap_u8]; omega
        have e2 : IntKind.u8.wrap (x + 97 - 65) = y := by rw [IntKind.wrap_u8, ← hy]; unfold sml; rw [if_pos ⟨h1a, h1b⟩]; omega
        clear hy
        go_wp2_with (at_builtin; refine wpList_ap rfl (.tmp 25) (.tmp 27) 24 24 rfl .u8 5 1 Tryz.und8 Tryz.info8 (by decide) w.heap.size _ ((X.take i).map sml) rfl (HI.out.1.alloc _) _ [y] rfl (src_sl Tryz.und8 (new1 y)) (by rw [hli]; simp; omega) (by have := HI.out.2.size; simp; omega) ?_; intro v1 w1 hr hg)
        have HN : Hid (Row .u8 5 w.heap.size w1 v1 ((X.take (i + 1)).map sml) ∧ Below w.heap.size w w1) := ⟨HS.out _ _ hr, (HI.out.2.alloc HI.out.2.size _).trans (hg.below (B := w.heap.size) (xs := (X.take i).map sml) (HI.out.1.alloc _) (by have := HI.out.2.size; simp; omega))⟩
        clear hr hg
        go_wp2
        go_roundw
        case rel => exact ⟨i + 1, by go_num, by omega, HN.out⟩
        case measure => simp [intOf]; omega
      · obtain rfl : y = x := by rw [← hy]; unfold sml; rw [if_neg h1]
        by_cases h2 : 65 ≤ y
        · have h3 : ¬ y ≤ 90 := fun h => h1 ⟨h2, h⟩
          clear h1 hy
          go_wp2_with (at_builtin; refine wpList_ap rfl (.tmp 25) (.tmp 27) 24 24 rfl .u8 5 1 Tryz.und8 Tryz.info8 (by decide) w.heap.size _ ((X.take i).map sml) rfl (HI.out.1.alloc _) _ [y] rfl (src_sl Tryz.und8 (new1 y)) (by rw [hli]; simp; omega) (by have := HI.out.2.size; simp; omega) ?_; intro v1 w1 hr hg)
          have HN : Hid (Row .u8 5 w.heap.size w1 v1 ((X.take (i + 1)).map sml) ∧ Below w.heap.size w w1) := ⟨HS.out _ _ hr, (HI.out.2.alloc HI.out.2.size _).trans (hg.below (B := w.heap.size) (xs := (X.take i).map sml) (HI.out.1.alloc _) (by have := HI.out.2.size; simp; omega))⟩
          clear hr hg
          go_wp2
          go_roundw
          case rel => exact ⟨i + 1, by go_num, by omega, HN.out⟩
          case measure => simp [intOf]; omega
        · clear h1 hy
          go_wp2_with (at_builtin; refine wpList_ap rfl (.tmp 25) (.tmp 27) 24 24 rfl .u8 5 1 Tryz.und8 Tryz.info8 (by decide) w.heap.size _ ((X.take i).map sml) rfl (HI.out.1.alloc _) _ [y] rfl (src_sl Tryz.und8 (new1 y)) (by rw [hli]; simp; omega) (by have := HI.out.2.size; simp; omega) ?_; intro v1 w1 hr hg)
          have HN : Hid (Row .u8 5 w.heap.size w1 v1 ((X.take (i + 1)).map sml) ∧ Below w.heap.size w w1) := ⟨HS.out _ _ hr, (HI.out.2.alloc HI.out.2.size _).trans (hg.below (B := w.heap.size) (xs := (X.take i).map sml) (HI.out.1.alloc _) (by have := HI.out.2.size; simp; omega))⟩
          clear hr hg
          go_wp2
          go_roundw
          case rel => exact ⟨i + 1, by go_num, by omega, HN.out⟩
          case measure => simp [intOf]; omega
    · obtain rfl : i = n := by omega
      have hltI : ¬ (i : Int) < (i : Int) := by omega
      have hc := str_sl HI.out.1.sl
      have ht : X.take i = X := List.take_of_length_le (by have := HX.out.2; omega)
      rw [ht] at hc
      go_wp2
      go_ret
      exact ⟨rfl, HI.out.2⟩
end Go.Proofs.YtbgeemjnhkinaaaGreatDoor
