/-
  Clock: the page's examples.
-/
import Derived.Test.YtonfllajceppgaaDoorC16
import Derived.Lib.SlBytesConst
namespace Go.Proofs.YtonfllajceppgaaDoor
open Go.RowKit
theorem num_any {w : World} (x : Int) : Calls Tryd.prog 10 #[.int .i64 x] w fun e w' => e = .returned (.int .i64 x) ∧ w = w' := by
  go_enter Tryd.func10, Tryd.ntmps10
  go_wp2
  go_ret
  exact ⟨rfl, rfl⟩
def exU : List Int := [53, 48, 48, 49, 48, 49, 48, 48, 48, 48, 48, 48, 90]
def exG : List Int := [50, 48, 50, 52, 48, 50, 50, 57, 49, 50, 48, 48, 48, 48, 46, 53, 90]
theorem exU_u8 : U8s exU := by unfold U8s U8 exU; decide
theorem exG_u8 : U8s exG := by unfold U8s U8 exG; decide
theorem seconds_is {t : Mo} {e : Ending} (hO : t.Ok) (h : SecondsIs t e) : e = .returned (.tuple #[.int .i64 t.sec, .int .i64 0]) := by
  rcases h with ⟨_, h⟩ | ⟨h, _⟩
  · exact h
  · exact absurd hO h
theorem exU_is {e : Ending} (h : UtcIs exU e) : e = .returned (.tuple #[.int .i64 (-631152000), .int .i64 0]) := by
  rcases h with ⟨Y, hY, _, _, hs⟩ | ⟨h, _⟩
  · have e1 : [53, 48, 48, 49, 48, 49, 48, 48, 48, 48, 48, 48] ++ [90] = Y ++ [90] := hY
    rw [List.append_cancel_right_eq] at e1
    subst e1
    have e2 : utcMo (nval [53, 48, 48, 49, 48, 49, 48, 48, 48, 48, 48, 48]) = ⟨1950, 1, 1, 0, 0, 0⟩ := by rfl
    rw [e2] at hs
    exact seconds_is (mo_ok (by decide)) hs
  · exact absurd ⟨rfl, rfl, by unfold Dgs Dg; decide⟩ (h [53, 48, 48, 49, 48, 49, 48, 48, 48, 48, 48, 48])
theorem exG_says {t : Mo} {mi : Int} (h : GenSays exG t mi) : t = ⟨2024, 2, 29, 12, 0, 0⟩ ∧ mi = 500000 := by
  rcases h with ⟨A, hA, hl, _⟩ | ⟨A, B, hA, hl, _, _, ht, hm⟩
  · have := congrArg List.length hA
    simp [exG, hl] at this
  · have e1 : ([50, 48, 50, 52, 48, 50, 50, 57, 49, 50, 48, 48, 48, 48] ++ 46 :: [53]) ++ [90] = (A ++ 46 :: B) ++ [90] := hA
    rw [List.append_cancel_right_eq] at e1
    obtain ⟨e2, e3⟩ := List.append_inj e1 (by rw [hl]; rfl)
    simp at e3
    subst e2; subst e3
    exact ⟨by rw [ht]; rfl, by rw [hm]; rfl⟩
theorem exG_is {e : Ending} (h : GeneralIs exG e) : e = .returned (.tuple #[.int .i64 1709208000, .int .i64 500000, .int .i64 0]) := by
  rcases h with ⟨t, mi, hG, _, he⟩ | ⟨t, mi, hG, hn, _⟩ | ⟨h, _⟩
  · obtain ⟨rfl, rfl⟩ := exG_says hG
    exact he
  · obtain ⟨rfl, rfl⟩ := exG_says hG
    exact absurd (mo_ok (by decide)) hn
  · exact absurd (Or.inr ⟨[50, 48, 50, 52, 48, 50, 50, 57, 49, 50, 48, 48, 48, 48], [53], rfl, rfl, by unfold Dgs Dg; decide, ⟨by decide, by decide, fun Y hY => by
      have h1 : [] ++ [(53 : Int)] = Y ++ [48] := hY
      have := List.append_inj_right' h1 rfl
      simp at this, by unfold Dgs Dg; decide⟩, rfl, rfl⟩) (h (cutMo (nval [50, 48, 50, 52, 48, 50, 50, 57, 49, 50, 48, 48, 48, 48])) (nval ([53] ++ zeros (6 - 1))))
theorem ex1_is {e : Ending} (h : PartsIs (-1) e) : e = .returned (.tuple #[.agg (Mo.cells ⟨1969, 12, 31, 23, 59, 59⟩).toArray, .int .i64 0]) := by
  rcases h with ⟨_, _, t, he, hO, hs⟩ | ⟨h, _⟩
  · obtain rfl : t = ⟨1969, 12, 31, 23, 59, 59⟩ := Mo.inj hO (mo_ok (by decide)) (by rw [hs]; decide)
    exact he
  · exact absurd (by decide) h
set_option maxRecDepth 100000 in
set_option maxHeartbeats 4000000 in
theorem live_any {w : World} (hT : Tab w) : Calls Tryd.prog 11 #[] w fun e w' => e = .returned (.bool true) ∧ Below w.heap.size w w' := by
  have HT : Hid (Tab w) := hT
  clear hT
  have HS : Hid (∀ w : World, Calls Tryd.prog 21 #[.agg (Mo.cells ⟨2000, 3, 1, 0, 0, 0⟩).toArray] w fun e w' => e = .returned (.tuple #[.int .i64 951868800, .int .i64 0]) ∧ Below w.heap.size w w') := fun w =>
    (Seconds_any ⟨2000, 3, 1, 0, 0, 0⟩).mono fun e w' ⟨h, hb⟩ => ⟨seconds_is (mo_ok (by decide)) h, hb⟩
  unfold Mo.cells at HS
  have kc := fun (w : World) (C : Array Value) (n c : Nat) => Lib.run_convert_bytes_const (P := Tryd.prog) w 22 5 C n c Tryd.und8 Tryd.e8
  go_enter Tryd.func11, Tryd.ntmps11
  go_wp2_with fail
  refine (HS.out _).mono ?_
  rintro e w1 ⟨rfl, hb⟩
  have H1 : Hid (Below w.heap.size w w1) := hb
  clear hb
  go_wp2_with fail
  refine (Utc_any _ exU (new_sl exU (13, 14)) exU_u8 (by decide)).mono ?_
  rintro e w2 ⟨hU, hb⟩
  rw [exU_is hU]
  have H2 : Hid (Below w.heap.size w w2) := below_via (al2' H1.out) hb (Nat.le_refl _)
  clear hb hU
  go_wp2_with fail
  refine (General_any _ exG (new_sl exG (17, 18)) exG_u8 (by decide)).mono ?_
  rintro e w3 ⟨hG, hb⟩
  rw [exG_is hG]
  have H3 : Hid (Below w.heap.size w w3) := below_via (al2' H2.out) hb (Nat.le_refl _)
  clear hb hG
  go_wp2_with fail
  refine (PutGeneral_live (HT.out.below H3.out)).mono ?_
  rintro e w4 ⟨a, c, rfl, hSl, hb⟩
  have H4 : Hid (Below w.heap.size w w4 ∧ Sl .u8 w4 (.slice a 15 c) exB) := ⟨below_via H3.out hb (Nat.le_refl _), hSl⟩
  clear hb hSl
  go_wp2_with fail
  refine (Parts_any (-1)).mono ?_
  rintro e w5 ⟨hP, hb⟩
  rw [ex1_is hP]
  have hb5 : Below w.heap.size w w5 := below_via H4.out.1 hb (Nat.le_refl _)
  have hSl5 : Sl .u8 w5 (.slice a 15 c) exB := below_sl hb H4.out.2
  have H5 : Hid (Below w.heap.size w w5) := hb5
  clear hP hb5 hb
  unfold Mo.cells
  have hcv : ∀ o, Sem.run Tryd.prog (convert 22 9 (.slice a 15 c)) (w5.alloc o) = .ok (.string ⟨#[49, 57, 55, 48, 48, 49, 48, 49, 48, 48, 48, 48, 48, 48, 90]⟩) (w5.alloc o) := fun o => by
    obtain ⟨a', c', hv, hr⟩ := sl_str (below_sl (al1 o) hSl5)
    simp only [Value.slice.injEq] at hv
    obtain ⟨rfl, _, rfl⟩ := hv
    exact hr
  clear hSl5
  go_wp2_with (go_at_call 10; refine (num_any _).mono ?_; rintro e w' ⟨rfl, rfl⟩)
  go_ret
  exact ⟨rfl, al2' H5.out⟩
end Go.Proofs.YtonfllajceppgaaDoor
