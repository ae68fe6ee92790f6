/-
  The walk of live: the page's examples hold.
-/
import Derived.Test.YthkheocggcmooaaW17
namespace Go.Proofs.Ythkheocggcmooaa
open Go.RowKit

set_option maxHeartbeats 4000000 in
theorem live_any (w : World) : Calls Try.prog 23 #[] w fun e w' => e = .returned (.bool true) ∧ Below w.heap.size w w' := by
  have hBt : Below w.heap.size w w := Below.refl _ _
  go_enter Try.func23, Try.ntmps23
  go_wp2_with (first
    | (go_at_call 10; refine (live_add (Arr.sl (arr_old (arr_new rfl rfl))) (Arr.sl (arr_new (by simp) rfl))).mono ?_; rintro e w' ⟨s, rfl, hs, hB⟩; replace hBt := grow0 (al (al hBt)) hB)
    | (go_at_call 12; refine (live_sub (Arr.sl (arr_old (arr_new rfl rfl))) (Arr.sl (arr_new (by simp) rfl))).mono ?_; rintro e w' ⟨d, rfl, hd, hB⟩; replace hs := below_sl hB (al1 (al1 hs)); replace hBt := grow0 (al (al hBt)) hB)
    | (go_at_call 24; refine (live_mul (Arr.sl (arr_old (arr_new rfl rfl))) (Arr.sl (arr_new (by simp) rfl))).mono ?_; rintro e w' ⟨p, rfl, hp, hB⟩; replace hs := below_sl hB (al1 (al1 hs)); replace hd := below_sl hB (al1 (al1 hd)); replace hBt := grow0 (al (al hBt)) hB)
    | (go_at_call 26; refine (live_div (Arr.sl (arr_old (arr_new rfl rfl))) (Arr.sl (arr_new (by simp) rfl))).mono ?_; rintro e w' ⟨q, r, rfl, hq, hr, hB⟩; replace hs := below_sl hB (al1 (al1 hs)); replace hd := below_sl hB (al1 (al1 hd)); replace hp := below_sl hB (al1 (al1 hp)); replace hBt := grow0 (al (al hBt)) hB)
    | (go_at_call 29; refine (live_exp (Arr.sl (arr_old (arr_old (arr_new rfl rfl)))) (Arr.sl (arr_old (arr_new (by simp) rfl))) (Arr.sl (arr_new (by simp) rfl))).mono ?_; rintro e w' ⟨x, rfl, hx, hB⟩; replace hs := below_sl hB (al1 (al1 (al1 hs))); replace hd := below_sl hB (al1 (al1 (al1 hd))); replace hp := below_sl hB (al1 (al1 (al1 hp))); replace hq := below_sl hB (al1 (al1 (al1 hq))); replace hr := below_sl hB (al1 (al1 (al1 hr))); replace hBt := grow0 (al (al (al hBt))) hB)
    | (go_at_call 31; refine (live_inv (Arr.sl (arr_old (arr_new rfl rfl))) (Arr.sl (arr_new (by simp) rfl))).mono ?_; rintro e w' ⟨y, rfl, hy, hB⟩; replace hs := below_sl hB (al1 (al1 hs)); replace hd := below_sl hB (al1 (al1 hd)); replace hp := below_sl hB (al1 (al1 hp)); replace hq := below_sl hB (al1 (al1 hq)); replace hr := below_sl hB (al1 (al1 hr)); replace hx := below_sl hB (al1 (al1 hx)); replace hBt := grow0 (al (al hBt)) hB)
    | (go_at_call 36; refine (live_byt (Arr.sl (arr_new rfl rfl))).mono ?_; rintro e w' ⟨b, rfl, hb, hB⟩; replace hs := below_sl hB (al1 hs); replace hd := below_sl hB (al1 hd); replace hp := below_sl hB (al1 hp); replace hq := below_sl hB (al1 hq); replace hr := below_sl hB (al1 hr); replace hx := below_sl hB (al1 hx); replace hy := below_sl hB (al1 hy); replace hBt := grow0 (al hBt) hB)
    | (go_at_call 15; refine (num_any _ _).mono ?_; rintro e w' ⟨rfl, rfl⟩)
    | (go_at_call 14; refine (Same_any _ _ [0, 1] (al1 hs) (Arr.sl (arr_new rfl rfl)) (by decide)).mono ?_; rintro e w' ⟨rfl, hB⟩; replace hd := below_sl hB (al1 hd); replace hp := below_sl hB (al1 hp); replace hq := below_sl hB (al1 hq); replace hr := below_sl hB (al1 hr); replace hx := below_sl hB (al1 hx); replace hy := below_sl hB (al1 hy); replace hb := below_sl hB (al1 hb); replace hBt := grow0 (al hBt) hB; clear hs)
    | (go_at_call 14; refine (Same_any _ _ [4294967295] (al1 hd) (Arr.sl (arr_new rfl rfl)) (by decide)).mono ?_; rintro e w' ⟨rfl, hB⟩; replace hp := below_sl hB (al1 hp); replace hq := below_sl hB (al1 hq); replace hr := below_sl hB (al1 hr); replace hx := below_sl hB (al1 hx); replace hy := below_sl hB (al1 hy); replace hb := below_sl hB (al1 hb); replace hBt := grow0 (al hBt) hB; clear hd)
    | (go_at_call 14; refine (Same_any _ _ [0, 0, 1] (al1 hp) (Arr.sl (arr_new rfl rfl)) (by decide)).mono ?_; rintro e w' ⟨rfl, hB⟩; replace hq := below_sl hB (al1 hq); replace hr := below_sl hB (al1 hr); replace hx := below_sl hB (al1 hx); replace hy := below_sl hB (al1 hy); replace hb := below_sl hB (al1 hb); replace hBt := grow0 (al hBt) hB; clear hp)
    | (go_at_call 14; refine (Same_any _ _ [3] (al1 hq) (Arr.sl (arr_new rfl rfl)) (by decide)).mono ?_; rintro e w' ⟨rfl, hB⟩; replace hr := below_sl hB (al1 hr); replace hx := below_sl hB (al1 hx); replace hy := below_sl hB (al1 hy); replace hb := below_sl hB (al1 hb); replace hBt := grow0 (al hBt) hB; clear hq)
    | (go_at_call 14; refine (Same_any _ _ [1] (al1 hr) (Arr.sl (arr_new rfl rfl)) (by decide)).mono ?_; rintro e w' ⟨rfl, hB⟩; replace hx := below_sl hB (al1 hx); replace hy := below_sl hB (al1 hy); replace hb := below_sl hB (al1 hb); replace hBt := grow0 (al hBt) hB; clear hr)
    | (go_at_call 14; refine (Same_any _ _ [1] (al1 hx) (Arr.sl (arr_new rfl rfl)) (by decide)).mono ?_; rintro e w' ⟨rfl, hB⟩; replace hy := below_sl hB (al1 hy); replace hb := below_sl hB (al1 hb); replace hBt := grow0 (al hBt) hB; clear hx)
    | (go_at_call 14; refine (Same_any _ _ [5] (al1 hy) (Arr.sl (arr_new rfl rfl)) (by decide)).mono ?_; rintro e w' ⟨rfl, hB⟩; replace hb := below_sl hB (al1 hb); replace hBt := grow0 (al hBt) hB; clear hy)
    | (go_at_call 38; refine (SameBytes_any _ _ [0, 1, 2] (al1 hb) (Arr.sl8 (arr_new rfl rfl)) (by decide)).mono ?_; rintro e w' ⟨rfl, hB⟩; replace hBt := grow0 (al hBt) hB))
  go_ret
  exact ⟨rfl, hBt⟩
end Go.Proofs.Ythkheocggcmooaa
