/-
  Clock: bytes as moments, given rest.
-/
import Derived.Test.YtnaiialcjimhbaaDoorC37
import Derived.Test.YtnaiialcjimhbaaDoorE0L
namespace Go.Proofs.YtnaiialcjimhbaaDoor
open Go.RowKit
set_option maxRecDepth 100000 in
set_option maxHeartbeats 8000000 in
theorem ClockReads_any {w : World} (hRC : RestC) (a : Option Addr) (L c : Nat) (X : List Int) (hX : Sl .u8 w (.slice a L c) X) (hL : X.length = L) (hU : U8s X) (hLI : L ≤ 9223372036854775807) (cl tag : Int) (cons : Bool) (hT : Tab w) :
    Calls Tryd.prog 5 #[.slice a L c, .int .i64 cl, .int .i64 tag, .bool cons] w fun e w' => e = .returned (.bool true) ∧ Below w.heap.size w w' := by
  have HT : Hid (Tab w) := hT
  clear hT
  by_cases hbig : 4000 < L
  · have hbI : (4000 : Int) < (L : Int) := by omega
    clear hX hU
    go_enter Tryd.func5, Tryd.ntmps5
    go_wp2_with (go_at_call 12; refine (live_any HT.out).mono ?_; rintro e w4 ⟨rfl, hb⟩)
    go_ret
    exact ⟨rfl, hb⟩
  have hbI : ¬ (4000 : Int) < (L : Int) := by omega
  obtain ⟨uv, uk, hUt⟩ := utc_uniq X
  obtain ⟨gv, gm, gk, hG⟩ := gen_uniq X
  obtain ⟨tv, htv⟩ : ∃ v, (timeV cl tag cons X uv uk gv gk).1 = v := ⟨_, rfl⟩
  obtain ⟨tk, htk⟩ : ∃ v, (timeV cl tag cons X uv uk gv gk).2 = v := ⟨_, rfl⟩
  have HX : Hid (Sl .u8 w (.slice a L c) X ∧ X.length = L) := ⟨hX, hL⟩
  have HL : Hid (Calls Tryd.prog 15 #[.slice a L c] w fun e w' => ∃ r, e = .returned r ∧ LentR8 w.heap.size w' r X ∧ Below w.heap.size w w') := Lent8_any X _ w hX (by omega)
  have HU1 : Hid (∀ (W : World) (v : Value), Sl .u8 W v X → Calls Tryd.prog 16 #[v] W fun e w' => e = .returned (.tuple #[.int .i64 uv, .int .i64 uk]) ∧ Below W.heap.size W w') := fun W v h => (Utc_any v X h hU (by omega)).mono fun e w' ⟨h, k⟩ => ⟨hUt e h, k⟩
  have HU2 : Hid (∀ (W : World), Sl .u8 W (.slice a L c) X → Calls Tryd.prog 17 #[.slice a L c] W fun e w' => e = .returned (.tuple #[.int .i64 uv, .int .i64 uk]) ∧ Below W.heap.size W w') := fun W h => (RUtc_any hRC a L c X h hL hU (by omega)).mono fun e w' ⟨h, k⟩ => ⟨hUt e h, k⟩
  have HG1 : Hid (∀ (W : World) (v : Value), Sl .u8 W v X → Calls Tryd.prog 18 #[v] W fun e w' => e = .returned (.tuple #[.int .i64 gv, .int .i64 gm, .int .i64 gk]) ∧ Below W.heap.size W w') := fun W v h => (General_any v X h hU (by omega)).mono fun e w' ⟨h, k⟩ => ⟨hG e h, k⟩
  have HG2 : Hid (∀ (W : World), Sl .u8 W (.slice a L c) X → Calls Tryd.prog 19 #[.slice a L c] W fun e w' => e = .returned (.tuple #[.int .i64 gv, .int .i64 gm, .int .i64 gk]) ∧ Below W.heap.size W w') := fun W h => (RGeneral_any hRC a L c X h hL hU (by omega)).mono fun e w' ⟨h, k⟩ => ⟨hG e h, k⟩
  have HT1 : Hid (∀ (W : World) (b n : Nat), Sl .u8 W (.slice (some ⟨b, 0, none⟩) L n) X → b < W.heap.size → L ≤ n → Rd .u8 W b 0 X → Calls Tryd.prog 20 #[.agg #[.int .i64 cl, .int .i64 tag, .bool cons, .slice (some ⟨b, 0, none⟩) L n, .slice none 0 0]] W fun e w' => e = .returned (.tuple #[.int .i64 tv, .int .i64 tk]) ∧ Below W.heap.size W w') := fun W b n _ hb hn hc => by
    have := Time_any (w := W) b 0 L n X hL hU hb hn hc (by omega) cl tag cons uv uk gv gm gk hUt hG
    rw [htv, htk] at this; exact this
  have HT2 : Hid (∀ (W : World), Sl .u8 W (.slice a L c) X → Calls Tryd.prog 21 #[.agg #[.int .i64 cl, .int .i64 tag, .bool cons, .slice a L c, .slice none 0 0]] W fun e w' => e = .returned (.tuple #[.int .i64 tv, .int .i64 tk]) ∧ Below W.heap.size W w') := fun W h => by
    have := RTime_any (w := W) hRC a L c X h hL hU (by omega) cl tag cons uv uk gv gm gk hUt hG
    rw [htv, htk] at this; exact this
  clear hX hUt hG htv htk hU hRC
  go_enter Tryd.func5, Tryd.ntmps5
  go_wp2_with fail
  refine HL.out.mono ?_
  rintro e w1 ⟨r, rfl, hR, hb1⟩
  have hR' := hR
  obtain ⟨b, S, hv, hBb, hA, ht, hle, hm⟩ := hR'
  rw [HX.out.2] at hv
  subst hv
  obtain ⟨n, hn⟩ : ∃ n, S.length = n := ⟨_, rfl⟩
  rw [hn] at hR ⊢
  have HLn : Hid (L ≤ n) := by have := HX.out.2; show L ≤ n; omega
  have H1 : Hid (LentR8 w.heap.size w1 (.slice (some ⟨b, 0, none⟩) L n) X ∧ Sl .u8 w1 (.slice a L c) X ∧ Below w.heap.size w w1) := ⟨hR, below_sl hb1 HX.out.1, hb1⟩
  clear hR hb1 hBb hA ht hle hm hn
  go_wp2_with fail
  refine (HU1.out _ _ H1.out.1.sl).mono ?_
  rintro e w2 ⟨rfl, hb⟩
  have H2 : Hid (LentR8 w.heap.size w2 (.slice (some ⟨b, 0, none⟩) L n) X ∧ Sl .u8 w2 (.slice a L c) X ∧ Below w.heap.size w w2) := ⟨H1.out.1.below hb, below_sl hb H1.out.2.1, below_via H1.out.2.2 hb (Nat.le_refl _)⟩
  clear hb
  go_wp2_with fail
  refine (HU2.out _ H2.out.2.1).mono ?_
  rintro e w3 ⟨rfl, hb⟩
  have H3 : Hid (LentR8 w.heap.size w3 (.slice (some ⟨b, 0, none⟩) L n) X ∧ Sl .u8 w3 (.slice a L c) X ∧ Below w.heap.size w w3) := ⟨H2.out.1.below hb, below_sl hb H2.out.2.1, below_via H2.out.2.2 hb (Nat.le_refl _)⟩
  clear hb
  go_wp2_with fail
  refine (HG1.out _ _ H3.out.1.sl).mono ?_
  rintro e w4 ⟨rfl, hb⟩
  have H4 : Hid (LentR8 w.heap.size w4 (.slice (some ⟨b, 0, none⟩) L n) X ∧ Sl .u8 w4 (.slice a L c) X ∧ Below w.heap.size w w4) := ⟨H3.out.1.below hb, below_sl hb H3.out.2.1, below_via H3.out.2.2 hb (Nat.le_refl _)⟩
  clear hb
  go_wp2_with fail
  refine (HG2.out _ H4.out.2.1).mono ?_
  rintro e w5 ⟨rfl, hb⟩
  have H5 : Hid (LentR8 w.heap.size w5 (.slice (some ⟨b, 0, none⟩) L n) X ∧ Sl .u8 w5 (.slice a L c) X ∧ Below w.heap.size w w5) := ⟨H4.out.1.below hb, below_sl hb H4.out.2.1, below_via H4.out.2.2 hb (Nat.le_refl _)⟩
  clear hb
  have hRd : b < w5.heap.size ∧ Rd .u8 w5 b 0 X := by
    obtain ⟨a', c', he, _, hx | ⟨b', off', hb', hlt, hr⟩⟩ := H5.out.1.sl
    · obtain ⟨b'', S', he', _, hA', _⟩ := H5.out.1
      simp only [Value.slice.injEq, Option.some.injEq, Addr.mk.injEq] at he'
      obtain ⟨⟨rfl, _⟩, _, _⟩ := he'
      exact ⟨hA'.lt, fun i hi => by rw [hx] at hi; simp at hi⟩
    · simp only [Value.slice.injEq] at he
      rw [hb'] at he
      simp only [Option.some.injEq, Addr.mk.injEq] at he
      obtain ⟨⟨rfl, rfl, _⟩, _⟩ := he
      exact ⟨hlt, hr⟩
  have HRd : Hid (b < w5.heap.size ∧ Rd .u8 w5 b 0 X) := hRd
  clear hRd
  go_wp2_with fail
  refine (HT1.out _ b n H5.out.1.sl HRd.out.1 HLn.out HRd.out.2).mono ?_
  rintro e w6 ⟨rfl, hb⟩
  have H6 : Hid (LentR8 w.heap.size w6 (.slice (some ⟨b, 0, none⟩) L n) X ∧ Sl .u8 w6 (.slice a L c) X ∧ Below w.heap.size w w6) := ⟨H5.out.1.below hb, below_sl hb H5.out.2.1, below_via H5.out.2.2 hb (Nat.le_refl _)⟩
  clear hb
  go_wp2_with fail
  refine (HT2.out _ H6.out.2.1).mono ?_
  rintro e w7 ⟨rfl, hb⟩
  have H7 : Hid (LentR8 w.heap.size w7 (.slice (some ⟨b, 0, none⟩) L n) X ∧ Sl .u8 w7 (.slice a L c) X ∧ Below w.heap.size w w7) := ⟨H6.out.1.below hb, below_sl hb H6.out.2.1, below_via H6.out.2.2 hb (Nat.le_refl _)⟩
  clear hb
  go_wp2_with (first
    | (go_at_call 11; refine (num_any _).mono ?_; rintro e w' ⟨rfl, rfl⟩)
    | (go_at_call 22; refine (Kept8_any _ _ X H7.out.1 H7.out.2.1 (by have := HX.out.2; omega)).mono ?_; rintro e w8 ⟨rfl, hb8⟩; have H8 : Hid (Below w.heap.size w w8) := below_via H7.out.2.2 hb8 (Nat.le_refl _); clear hb8)
    | (go_at_call 12; refine (live_any (HT.out.below H8.out)).mono ?_; rintro e w9 ⟨rfl, hb⟩))
  go_ret
  exact ⟨rfl, below_via H8.out hb (Nat.le_refl _)⟩
end Go.Proofs.YtnaiialcjimhbaaDoor
